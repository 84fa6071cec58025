import Derived.Test.YtkjlkbgdkdcboaaGreatDoorRdB
import Derived.Test.YtkjlkbgdkdcboaaGreatDoorWaA
import Derived.Test.YtkjlkbgdkdcboaaGreatDoorFaA
import Derived.WalkLawsBesides

set_option linter.unusedSimpArgs false
set_option linter.unusedVariables false

set_option linter.unusedSimpArgs false
set_option linter.unusedVariables false

namespace Go.Proofs.YtkjlkbgdkdcboaaGreatDoor
open Go.RowKit
attribute [local go_sem ↓] Go.wp_at_zero Go.wp_at_succ

/-- a certificate that is none: the place is thrown -/
abbrev misfit (k : Int) : Ending := .panicked [{ v := .iface 186 (.int .i64 k), recovered := false }]

/-- how far a certificate has been read -/
structure CuAt (w : World) (b : Nat) (s : ByteArray) (k : Nat) : Prop where
  c0 : w.cell? ⟨b, 0, none⟩ = some (.string s)
  c1 : w.cell? ⟨b, 1, none⟩ = some (.int .i64 k)
  f1 : w.frozen? ⟨b, 1, none⟩ = false
theorem CuAt.lt {w : World} {b : Nat} {s : ByteArray} {k : Nat} (h : CuAt w b s k) : b < w.heap.size := World.block_lt_of_cell? _ _ h.c0
theorem CuAt.kept {w w' : World} {b : Nat} {s : ByteArray} {k : Nat} {r : Option Nat} (h : CuAt w b s k) (hg : w.grownBy w' r) (hr : r ≠ some b) : CuAt w' b s k := by
  have hb : w'.heap[b]? = w.heap[b]? := hg.block b h.lt (fun e => hr e.symm)
  exact ⟨hg.cell h.c0 (fun e => hr e.symm), hg.cell h.c1 (fun e => hr e.symm), (World.frozen?_of_block (w := w) hb).trans h.f1⟩
theorem CuAt.drewN {w : World} {b : Nat} {s : ByteArray} {k : Nat} (h : CuAt w b s k) (n : Nat) : CuAt (w.drewN n) b s k := ⟨h.c0, h.c1, h.f1⟩
theorem CuAt.set {w : World} {b : Nat} {s : ByteArray} {k : Nat} (h : CuAt w b s k) (j : Nat) : CuAt (w.setCell ⟨b, 1, none⟩ (.int .i64 j)) b s j := by
  obtain ⟨c0, c1, f1⟩ := id h
  constructor <;> simp [go_sem, *]

/-- a way out of a drawn region by a panic: nothing is left of the region -/
theorem thrown {X : Prop} (h : X) (w : World) (_ : wpAny Tryz.prog .any #[] (fun _ _ _ => True) 0 #[] { tmps := #[], defers := [] } w) : X := h
theorem need_yes (k : Int) (w : World) : Calls Tryz.prog 88 #[.bool true, .int .i64 k] w fun e w' => e = .returned (.tuple #[]) ∧ w' = w := by
  go_enter Tryz.func88, Tryz.ntmps88
  go_wp2
  go_end0
  exact ⟨rfl, rfl⟩
theorem need_no (k : Int) (w : World) : Calls Tryz.prog 88 #[.bool false, .int .i64 k] w fun e w' => e = misfit k ∧ w' = w := by
  go_enter Tryz.func88, Tryz.ntmps88
  go_wp2
  exact ⟨rfl, rfl, rfl⟩
def seesP (s : ByteArray) (k : Nat) (c : Int) : Bool := decide (bt s k = c)
set_option maxHeartbeats 400000 in
theorem sees_any (b : Nat) (s : ByteArray) (k : Nat) (c : Int) (w : World) (h : CuAt w b s k) (hc : 0 ≤ c) :
    Calls Tryz.prog 169 #[.pointer (some ⟨b, 0, none⟩), .int .u8 c] w fun e w' => e = .returned (.bool (seesP s k c)) ∧ CuAt w' b s k ∧ w.grownBy w' (some b) := by
  obtain ⟨c0, c1, f1⟩ := id h
  by_cases hi2 : k < s.size
  · have ht := bt_in hi2
    have hr : seesP s k c = (bt s k == c) := rfl
    rw [hr, ht]
    clear ht hr
    have hi3 : (k : Int) < (s.size : Int) := by omega
    go_enter Tryz.func169, Tryz.ntmps169
    go_wp2
    go_quiet (fail)
    go_wp2
    go_ret
    exact ⟨rfl, h.drewN _, gb_drewN _ _ _⟩
  · have ht := bt_out hi2
    have hr : seesP s k c = false := by simp [seesP, ht]; omega
    rw [hr]
    clear ht hr
    have hi3 : decide ((k : Int) < (s.size : Int)) = false := decide_eq_false (by omega)
    have hi4 : decide (k < s.size) = false := decide_eq_false (by omega)
    go_enter Tryz.func169, Tryz.ntmps169
    go_wp2
    go_quiet (fail)
    go_wp2
    go_ret
    exact ⟨rfl, h.drewN _, gb_drewN _ _ _⟩

set_option maxHeartbeats 400000 in
theorem isDigit_any (c : Int) (w : World) : Calls Tryz.prog 183 #[.int .u8 c] w fun e w' => e = .returned (.bool (decide (48 ≤ c) && decide (c ≤ 57))) ∧ w' = w := by
  by_cases h : 48 ≤ c
  · have h2 : decide (48 ≤ c) = true := decide_eq_true h
    go_enter Tryz.func183, Tryz.ntmps183
    go_wp2
    go_ret
    exact ⟨by rw [h2]; rfl, rfl⟩
  · have h2 : decide (48 ≤ c) = false := decide_eq_false h
    go_enter Tryz.func183, Tryz.ntmps183
    go_wp2
    go_ret
    exact ⟨rfl, rfl⟩

set_option maxHeartbeats 400000 in
theorem cmust_any (b : Nat) (s : ByteArray) (k : Nat) (c : Int) (w : World) (h : CuAt w b s k) (hc : 0 ≤ c) (hk : k ≤ s.size) (hs : s.size ≤ 1000000) :
    Calls Tryz.prog 131 #[.pointer (some ⟨b, 0, none⟩), .int .u8 c] w fun e w' => w.grownBy w' (some b) ∧ ((seesP s k c = false ∧ ∃ j, e = misfit j) ∨ (seesP s k c = true ∧ e = .returned (.tuple #[]) ∧ CuAt w' b s (k + 1))) := by
  have HS := hide (fun V hV => sees_any b s k c V hV hc)
  generalize seesP s k c = q at *
  cases q
  · go_enter Tryz.func131, Tryz.ntmps131
    obtain ⟨c0, c1, f1⟩ := id h
    go_wp2_with fail
    go_region_with (first
      | (go_at_call 169; refine (HS.out _ (h.drewN 1)).mono ?_; rintro e w1 ⟨rfl, h1, g1⟩; obtain ⟨d0, d1, e1⟩ := id h1)
      | (go_at_call 88; refine (need_no _ _).mono ?_; rintro e w2 ⟨rfl, rfl⟩; refine thrown (show _ ∧ _ from ⟨rfl, gb_trans (gb_drewN _ 1 _) g1, .inl ⟨trivial, _, rfl⟩⟩) w2 ?_)
      | go_in)
    all_goals exact trivial
  · go_enter Tryz.func131, Tryz.ntmps131
    obtain ⟨c0, c1, f1⟩ := id h
    go_wp2_with fail
    go_region_with (first
      | (go_at_call 169; refine (HS.out _ (h.drewN 1)).mono ?_; rintro e w1 ⟨rfl, h1, g1⟩; obtain ⟨d0, d1, e1⟩ := id h1)
      | (go_at_call 88; refine (need_yes _ _).mono ?_; rintro e w2 ⟨rfl, hw2⟩)
      | go_in)
    all_goals
      subst hw2
      obtain ⟨d0, d1, e1⟩ := id h1
      have HN := hide (h1.set (k + 1))
      have HG := hide (gb_trans (gb_trans (gb_drewN w 1 (some b)) g1) (gb_set w2 b 1 (.int .i64 ((k + 1 : Nat) : Int))))
      clear h1 g1
      go_wp2
      go_end0
      exact ⟨HG.out, .inr ⟨trivial, rfl, HN.out⟩⟩

end Go.Proofs.YtkjlkbgdkdcboaaGreatDoor

namespace Go.Proofs.YtkjlkbgdkdcboaaGreatDoor
open Go.RowKit
attribute [local go_sem ↓] Go.wp_at_zero Go.wp_at_succ

def digB (s : ByteArray) (k : Nat) : Bool := decide (48 ≤ bt s k) && decide (bt s k ≤ 57)
/-- a number from there on, to a limit -/
def numF (s : ByteArray) (lim : Nat) : Nat → Int → Nat → Int × Nat
  | 0, n, k => (n, k)
  | q + 1, n, k =>
    if k < s.size ∧ k < lim ∧ digB s k = true then
      if leastP 1048576 [10 * n + (bt s k - 48)] = 0 then (0, k + 1) else numF s lim q (leastP 1048576 [10 * n + (bt s k - 48)]) (k + 1)
    else (n, k)
def numR (s : ByteArray) (lim : Nat) (n : Int) (k : Nat) : Int × Nat := numF s lim (s.size - k) n k
/-- a number, or none -/
def numC (s : ByteArray) (most k : Nat) : Option (Int × Nat) := if k < (numR s (k + most) 0 k).2 then some (numR s (k + most) 0 k) else none

theorem numR_stop {s : ByteArray} {lim : Nat} {n : Int} {k : Nat} (h : ¬ (k < s.size ∧ k < lim ∧ digB s k = true)) : numR s lim n k = (n, k) := by
  unfold numR
  cases s.size - k with
  | zero => rfl
  | succ q => exact if_neg h
theorem numR_zero {s : ByteArray} {lim : Nat} {n : Int} {k : Nat} (h : k < s.size ∧ k < lim ∧ digB s k = true) (hm : leastP 1048576 [10 * n + (bt s k - 48)] = 0) : numR s lim n k = (0, k + 1) := by
  unfold numR
  rw [show s.size - k = s.size - (k + 1) + 1 by omega]
  exact (if_pos h).trans (if_pos hm)
theorem numR_more {s : ByteArray} {lim : Nat} {n : Int} {k : Nat} (h : k < s.size ∧ k < lim ∧ digB s k = true) (hm : leastP 1048576 [10 * n + (bt s k - 48)] ≠ 0) : numR s lim n k = numR s lim (leastP 1048576 [10 * n + (bt s k - 48)]) (k + 1) := by
  unfold numR
  rw [show s.size - k = s.size - (k + 1) + 1 by omega]
  exact (if_pos h).trans (if_neg hm)
theorem leastP_bd {n : Int} (h : 0 ≤ n) : 0 ≤ leastP 1048576 [n] ∧ leastP 1048576 [n] ≤ 1048576 := by
  unfold leastP
  simp only [List.foldl_cons, List.foldl_nil]
  split <;> omega
def curOf (b : Nat) (w : World) : Nat := match w.cell? ⟨b, 1, none⟩ with | some (.int _ n) => n.toNat | _ => 0
theorem cur_of {w : World} {b : Nat} {s : ByteArray} {k : Nat} (h : CuAt w b s k) : curOf b w = k := by unfold curOf; rw [h.c1]; simp

/-- what lies there while a statement runs -/
def NumS (w : World) (b : Nat) (s : ByteArray) (j : Nat) (W : World) : Prop := W.cell? ⟨b, 0, none⟩ = some (.string s) ∧ W.cell? ⟨b, 1, none⟩ = some (.int .i64 j) ∧ W.frozen? ⟨b, 1, none⟩ = false ∧ w.grownBy W (some b)
theorem NumS.cu {w W : World} {b : Nat} {s : ByteArray} {j : Nat} (h : NumS w b s j W) : CuAt W b s j := ⟨h.1, h.2.1, h.2.2.1⟩
theorem NumS.of {w W : World} {b : Nat} {s : ByteArray} {j : Nat} (h : CuAt W b s j) (hg : w.grownBy W (some b)) : NumS w b s j W := ⟨h.c0, h.c1, h.f1, hg⟩
theorem NumS.drew {w W : World} {b : Nat} {s : ByteArray} {j : Nat} (h : NumS w b s j W) : NumS w b s j W.drew := .of (h.cu.drewN 1) (gb_trans h.2.2.2 (gb_drewN _ 1 _))
theorem NumS.alloc {w W : World} {b : Nat} {s : ByteArray} {j : Nat} {o : Obj} (h : NumS w b s j W) : NumS w b s j (W.alloc o) :=
  .of (h.cu.kept (World.grownBy_alloc W o none) (by simp)) (gb_trans h.2.2.2 (World.grownBy_alloc W o (some b)))

set_option maxRecDepth 100000 in
set_option maxHeartbeats 1000000 in
theorem cnumber_any (b : Nat) (s : ByteArray) (k most : Nat) (w : World) (h : CuAt w b s k) (hk : k ≤ s.size) (hs : s.size ≤ 1000000) (hm : most ≤ 1000000) :
    Calls Tryz.prog 168 #[.pointer (some ⟨b, 0, none⟩), .int .i64 most] w fun e w' => w.grownBy w' (some b) ∧ ((numC s most k = none ∧ ∃ j, e = misfit j) ∨ (∃ r, numC s most k = some r ∧ e = .returned (.int .i64 r.1) ∧ CuAt w' b s r.2)) := by
  have HC : Hid (∀ r, numR s (k + most) 0 k = r → (k < r.2 → numC s most k = some r) ∧ (¬ k < r.2 → numC s most k = none)) := hide (fun r hr => by
    unfold numC; rw [hr]; exact ⟨fun h => if_pos h, fun h => if_neg h⟩)
  obtain ⟨R, hR⟩ : ∃ R, numR s (k + most) 0 k = R := ⟨_, rfl⟩
  have HR := hide hR
  generalize numC s most k = C at *
  clear hR
  obtain ⟨c0, c1, f1⟩ := id h
  go_enter Tryz.func168, Tryz.ntmps168
  go_wp2
  go_quiet (fail)
  go_wp2
  clear c0 c1 f1
  go_loopw [5] (fun n wr => ∃ (m : Int) (j : Nat), n = .int .i64 m ∧ j ≤ s.size ∧ k ≤ j ∧ 0 ≤ m ∧ m ≤ 1048576 ∧ Hid (numR s (k + most) m j = R ∧ CuAt wr b s j ∧ w.grownBy wr (some b))) (fun _ wr => s.size - curOf b wr)
  case atStart => exact ⟨0, k, rfl, hk, Nat.le_refl _, by omega, by omega, HR.out, h.drewN _, gb_drewN _ _ _⟩
  case round =>
    obtain ⟨m, j, rfl, hj, hkj, hm0, hm1, hr⟩ := hrel
    obtain ⟨hN, hcu, hg⟩ := hr.out
    have hcur := cur_of hcu
    obtain ⟨c0, c1, f1⟩ := id hcu
    by_cases hgo : j < s.size ∧ j < k + most ∧ digB s j = true
    · have hbt := bt_in hgo.1
      have hst0 := numR_zero (n := m) hgo
      have hst1 := numR_more (n := m) hgo
      have hd : 48 ≤ (s[j]'hgo.1).toNat ∧ (s[j]'hgo.1).toNat ≤ 57 := by
        have := hgo.2.2
        unfold digB at this
        simp at this
        omega
      rw [hbt] at hst0 hst1
      have hbd := leastP_bd (n := 10 * m + (((s[j]'hgo.1).toNat : Int) - 48)) (by omega)
      have hd2 := hd.1
      have hd3 := hd.2
      obtain ⟨hlt, hlm, hdg⟩ := hgo
      have hi3 : (j : Int) < (s.size : Int) := by omega
      have t1 : decide ((j : Int) < (s.size : Int)) = true := decide_eq_true (by omega)
      have t2 : decide ((j : Int) < (k : Int) + (most : Int)) = true := decide_eq_true (by omega)
      have t3 : decide (48 ≤ ((s[j]'hlt).toNat : Int)) = true := decide_eq_true (by omega)
      have t4 : decide (((s[j]'hlt).toNat : Int) ≤ 57) = true := decide_eq_true (by omega)
      have hwk : IntKind.i64.wrap ((k : Int) + (most : Int)) = (k : Int) + (most : Int) := wrap_in _ (by omega)
      have Hval : Hid (IntKind.i64.wrap (IntKind.i64.wrap (10 * m) + IntKind.i64.wrap (IntKind.u8.wrap (((s[j]'hlt).toNat : Int) - 48))) = 10 * m + (((s[j]'hlt).toNat : Int) - 48)) := by
        show _ = _
        rw [wraps_u8 _ (by omega) (by omega), wrap_in (10 * m) (by omega), wrap_in (((s[j]'hlt).toNat : Int) - 48) (by omega), wrap_in _ (by omega)]
      have H0 := hide hst0
      have H1 := hide hst1
      have HN := hide hN
      have Hcur := hide hcur
      have hS : NumS w b s j wr := .of hcu hg
      clear hst0 hst1 hN hcur hr hbt hd hcu hg
      go_wp2_with fail
      go_region_held3 (fun w'' => w''.cell? ⟨b, 0, none⟩ = some (.string s) ∧ w''.cell? ⟨b, 1, none⟩ = some (.int .i64 j) ∧ w''.frozen? ⟨b, 1, none⟩ = false ∧ w.grownBy w'' (some b))
        ((show NumS w b s j _
          first | exact hS | exact hS.drew | assumption | exact ⟨by assumption, by assumption, by assumption, by assumption⟩))
        (first | (go_at_call 183; refine (isDigit_any _ _).mono ?_; rintro e w'' ⟨rfl, rfl⟩; rw [t3, t4]))
      go_wp2_with fail
      have hS1 := hS.drew
      go_region_held3 (fun w'' => w''.cell? ⟨b, 0, none⟩ = some (.string s) ∧ w''.cell? ⟨b, 1, none⟩ = some (.int .i64 j) ∧ w''.frozen? ⟨b, 1, none⟩ = false ∧ w.grownBy w'' (some b))
        ((show NumS w b s j _
          first | exact hS1 | exact hS1.drew | assumption | exact NumS.alloc (by assumption) | exact hS1.drew.alloc | exact ⟨by assumption, by assumption, by assumption, by assumption⟩ | exact NumS.alloc ⟨by assumption, by assumption, by assumption, by assumption⟩))
        (first | (go_at_call 95; refine (least1_any _ (10 * m + ((s[j].toNat : Int) - 48)) _ _ (by simp [go_sem]; exact Hval.out)).mono ?_; rintro e w'' ⟨rfl, rfl⟩))
      generalize leastP 1048576 [10 * m + (((s[j]'hlt).toNat : Int) - 48)] = m2 at *
      have hN1 := (NumS.alloc (o := .cells #[.int .i64 (IntKind.i64.wrap (IntKind.i64.wrap (10 * m) + IntKind.i64.wrap (IntKind.u8.wrap (((s[j]'hlt).toNat : Int) - 48))))] 3) hS).drew.drew
      generalize (wr.alloc (.cells #[.int .i64 (IntKind.i64.wrap (IntKind.i64.wrap (10 * m) + IntKind.i64.wrap (IntKind.u8.wrap (((s[j]'hlt).toNat : Int) - 48))))] 3)).drew.drew = V at *
      clear hS hS1 c0 c1 f1
      obtain ⟨c0, c1, f1, hgV⟩ := id hN1
      have hcV := hN1.cu.set (j + 1)
      have hgV2 := gb_trans hgV (gb_set V b 1 (.int .i64 ((j + 1 : Nat) : Int)))
      have hcur2 := cur_of hcV
      have ej : ((j + 1 : Nat) : Int) = (j : Int) + 1 := by omega
      rw [ej] at hcV hgV2 hcur2
      have HcV := hide hcV
      have HgV := hide hgV2
      have Hc2 := hide hcur2
      clear hcV hgV2 hcur2 hN1 hgV
      by_cases hz : m2 = 0
      · have hR0 := HN.out.symm.trans (H0.out hz)
        have HF := hide ((HC.out _ (HR.out.trans hR0)).1 (show k < j + 1 by omega))
        have Hz := hide hz
        clear H0 H1 hR0
        subst hz
        go_wp2
        obtain ⟨d0, d1, e1⟩ := HcV.out
        rw [ej] at d1
        clear c0 c1 f1
        have hcF := HcV.out.drewN 1
        have hgF := gb_trans HgV.out (gb_drewN _ 1 _)
        have HcF := hide hcF
        have HgF := hide hgF
        clear hcF hgF
        have t5 : decide ((k : Int) < (j : Int) + 1) = true := decide_eq_true (by omega)
        go_region_with (first | (go_at_call 88; refine (need_yes _ _).mono ?_; rintro e w2 ⟨rfl, rfl⟩) | go_in)
        all_goals
          go_wp2
          go_ret
          exact ⟨HgF.out, .inr ⟨_, HF.out, rfl, HcF.out⟩⟩
      · have hR1 := (H1.out hz).symm.trans HN.out
        have HR1 := hide hR1
        clear H0 H1 hR1
        go_wp2
        go_roundw
        case rel => exact ⟨m2, j + 1, rfl, by omega, by omega, hbd.1, hbd.2, HR1.out, HcV.out, HgV.out⟩
        case measure => rw [Hc2.out, Hcur.out]; omega
    · have hst := numR_stop (n := m) hgo
      rw [hst] at hN
      have HCs := HC.out _ (HR.out.trans hN.symm)
      dsimp only at HCs
      have H1 := hide HCs.1
      have H2 := hide HCs.2
      have HN := hide hN
      have Hg := hide hg
      have Hcur := hide hcur
      clear hst HCs HC HR hr hN hcur hg
      by_cases h1 : j < s.size
      · have t1 : decide ((j : Int) < (s.size : Int)) = true := decide_eq_true (by omega)
        by_cases h2 : j < k + most
        · have hi3 : (j : Int) < (s.size : Int) := by omega
          have t2 : decide ((j : Int) < (k : Int) + (most : Int)) = true := decide_eq_true (by omega)
          have hwk : IntKind.i64.wrap ((k : Int) + (most : Int)) = (k : Int) + (most : Int) := wrap_in _ (by omega)
          have t3 : (decide (48 ≤ ((s[j]'h1).toNat : Int)) && decide (((s[j]'h1).toNat : Int) ≤ 57)) = false := by
            have := not_and.1 (not_and.1 hgo h1) h2
            unfold digB at this
            rw [bt_in h1] at this
            simpa using this
          have hS : NumS w b s j wr := .of hcu Hg.out
          go_wp2_with fail
          go_region_held3 (fun w'' => w''.cell? ⟨b, 0, none⟩ = some (.string s) ∧ w''.cell? ⟨b, 1, none⟩ = some (.int .i64 j) ∧ w''.frozen? ⟨b, 1, none⟩ = false ∧ w.grownBy w'' (some b))
            ((show NumS w b s j _
              first | exact hS | exact hS.drew | assumption | exact ⟨by assumption, by assumption, by assumption, by assumption⟩))
            (first | (go_at_call 183; refine (isDigit_any _ _).mono ?_; rintro e w'' ⟨rfl, rfl⟩; rw [t3]))
          go_wp2_with fail
          by_cases hkj2 : k < j
          · have t5 : decide ((k : Int) < ((j : Nat) : Int)) = true := decide_eq_true (by omega)
            have HF := hide (H1.out hkj2)
            go_region_with (first | (go_at_call 88; refine (need_yes _ _).mono ?_; rintro e w2 ⟨rfl, rfl⟩) | go_in)
            all_goals
              go_wp2
              go_ret
              exact ⟨gb_trans Hg.out (gb_trans (gb_drewN _ 1 _) (gb_drewN _ 1 _)), .inr ⟨_, HF.out, rfl, (hcu.drewN 1).drewN 1⟩⟩
          · have t5 : decide ((k : Int) < ((j : Nat) : Int)) = false := decide_eq_false (by omega)
            have HF := hide (H2.out hkj2)
            go_region_with (first | (go_at_call 88; refine (need_no _ _).mono ?_; rintro e w2 ⟨rfl, rfl⟩; refine thrown (show _ ∧ _ from ⟨rfl, gb_trans Hg.out (gb_trans (gb_drewN _ 1 _) (gb_drewN _ 1 _)), .inl ⟨HF.out, _, rfl⟩⟩) w ?_) | go_in)
            all_goals exact trivial
        · have t2 : decide ((j : Int) < (k : Int) + (most : Int)) = false := decide_eq_false (by omega)
          go_wp2
          go_quiet (fail)
          go_wp2
          by_cases hkj2 : k < j
          · have t5 : decide ((k : Int) < ((j : Nat) : Int)) = true := decide_eq_true (by omega)
            have HF := hide (H1.out hkj2)
            go_region_with (first | (go_at_call 88; refine (need_yes _ _).mono ?_; rintro e w2 ⟨rfl, rfl⟩) | go_in)
            all_goals
              go_wp2
              go_ret
              exact ⟨gb_trans Hg.out (gb_trans (gb_drewN _ _ _) (gb_drewN _ 1 _)), .inr ⟨_, HF.out, rfl, (hcu.drewN _).drewN 1⟩⟩
          · have t5 : decide ((k : Int) < ((j : Nat) : Int)) = false := decide_eq_false (by omega)
            have HF := hide (H2.out hkj2)
            go_region_with (first | (go_at_call 88; refine (need_no _ _).mono ?_; rintro e w2 ⟨rfl, rfl⟩; refine thrown (show _ ∧ _ from ⟨rfl, gb_trans Hg.out (gb_trans (gb_drewN _ _ _) (gb_drewN _ 1 _)), .inl ⟨HF.out, _, rfl⟩⟩) w ?_) | go_in)
            all_goals exact trivial
      · have t1 : decide ((j : Int) < (s.size : Int)) = false := decide_eq_false (by omega)
        have t1b : decide (j < s.size) = false := decide_eq_false (by omega)
        go_wp2
        go_quiet (fail)
        go_wp2
        by_cases hkj2 : k < j
        · have t5 : decide ((k : Int) < ((j : Nat) : Int)) = true := decide_eq_true (by omega)
          have HF := hide (H1.out hkj2)
          go_region_with (first | (go_at_call 88; refine (need_yes _ _).mono ?_; rintro e w2 ⟨rfl, rfl⟩) | go_in)
          all_goals
            go_wp2
            go_ret
            exact ⟨gb_trans Hg.out (gb_trans (gb_drewN _ _ _) (gb_drewN _ 1 _)), .inr ⟨_, HF.out, rfl, (hcu.drewN _).drewN 1⟩⟩
        · have t5 : decide ((k : Int) < ((j : Nat) : Int)) = false := decide_eq_false (by omega)
          have HF := hide (H2.out hkj2)
          go_region_with (first | (go_at_call 88; refine (need_no _ _).mono ?_; rintro e w2 ⟨rfl, rfl⟩; refine thrown (show _ ∧ _ from ⟨rfl, gb_trans Hg.out (gb_trans (gb_drewN _ _ _) (gb_drewN _ 1 _)), .inl ⟨HF.out, _, rfl⟩⟩) w ?_) | go_in)
          all_goals exact trivial

end Go.Proofs.YtkjlkbgdkdcboaaGreatDoor

