import Derived.Test.YtkjlkbgdkdcboaaGreatDoorRD
import Derived.Test.YtkjlkbgdkdcboaaGreatDoorWaA
import Derived.Test.YtkjlkbgdkdcboaaGreatDoorFaA
import Derived.Test.YtkjlkbgdkdcboaaGreatDoorBsA
import Derived.Test.YtkjlkbgdkdcboaaGreatDoorMC
import Derived.WalkLawsBesides

set_option linter.unusedSimpArgs false
set_option linter.unusedVariables false

set_option linter.unusedSimpArgs false
set_option linter.unusedVariables false
namespace Go.Proofs.YtkjlkbgdkdcboaaGreatDoor
open Go.RowKit
attribute [local go_sem ↓] Go.wp_at_zero Go.wp_at_succ
abbrev misfit (k : Int) : Ending := .panicked [{ v := .iface 186 (.int .i64 k), recovered := false }]
structure CuAt (w : World) (b : Nat) (s : ByteArray) (k : Nat) : Prop where
  c0 : w.cell? ⟨b, 0, none⟩ = some (.string s)
  c1 : w.cell? ⟨b, 1, none⟩ = some (.int .i64 k)
  f1 : w.frozen? ⟨b, 1, none⟩ = false
theorem CuAt.lt {w : World} {b : Nat} {s : ByteArray} {k : Nat} (h : CuAt w b s k) : b < w.heap.size := World.block_lt_of_cell? _ _ h.c0
theorem CuAt.kept {w w' : World} {b : Nat} {s : ByteArray} {k : Nat} {r : Option Nat} (h : CuAt w b s k) (hg : w.grownBy w' r) (hr : r ≠ some b) : CuAt w' b s k := by
  have hb : w'.heap[b]? = w.heap[b]? := hg.block b h.lt (fun e => hr e.symm)
  exact ⟨hg.cell h.c0 (fun e => hr e.symm), hg.cell h.c1 (fun e => hr e.symm), (World.frozen?_of_block (w := w) hb).trans h.f1⟩
theorem CuAt.drewN {w : World} {b : Nat} {s : ByteArray} {k : Nat} (h : CuAt w b s k) (n : Nat) : CuAt (w.drewN n) b s k := ⟨h.c0, h.c1, h.f1⟩
theorem CuAt.set {w : World} {b : Nat} {s : ByteArray} {k : Nat} (h : CuAt w b s k) (j : Nat) : CuAt (w.setCell ⟨b, 1, none⟩ (.int .i64 j)) b s j := by
  obtain ⟨c0, c1, f1⟩ := id h
  constructor <;> simp [go_sem, *]
theorem thrown {X : Prop} (h : X) (w : World) (_ : wpAny Tryz.prog .any #[] (fun _ _ _ => True) 0 #[] { tmps := #[], defers := [] } w) : X := h
theorem need_yes (k : Int) (w : World) : Calls Tryz.prog 88 #[.bool true, .int .i64 k] w fun e w' => e = .returned (.tuple #[]) ∧ w' = w := by
  go_enter Tryz.func88, Tryz.ntmps88
  go_wp2
  go_end0
  exact ⟨rfl, rfl⟩
theorem need_no (k : Int) (w : World) : Calls Tryz.prog 88 #[.bool false, .int .i64 k] w fun e w' => e = misfit k ∧ w' = w := by
  go_enter Tryz.func88, Tryz.ntmps88
  go_wp2
  exact ⟨rfl, rfl, rfl⟩
def seesP (s : ByteArray) (k : Nat) (c : Int) : Bool := decide (bt s k = c)
set_option maxHeartbeats 400000 in
theorem sees_any (b : Nat) (s : ByteArray) (k : Nat) (c : Int) (w : World) (h : CuAt w b s k) (hc : 0 ≤ c) :
    Calls Tryz.prog 169 #[.pointer (some ⟨b, 0, none⟩), .int .u8 c] w fun e w' => e = .returned (.bool (seesP s k c)) ∧ CuAt w' b s k ∧ w.grownBy w' (some b) := by
  obtain ⟨c0, c1, f1⟩ := id h
  by_cases hi2 : k < s.size
  · have ht := bt_in hi2
    have hr : seesP s k c = (bt s k == c) := rfl
    rw [hr, ht]
    clear ht hr
    have hi3 : (k : Int) < (s.size : Int) := by omega
    go_enter Tryz.func169, Tryz.ntmps169
    go_wp2
    go_quiet (fail)
    go_wp2
    go_ret
    exact ⟨rfl, h.drewN _, gb_drewN _ _ _⟩
  · have ht := bt_out hi2
    have hr : seesP s k c = false := by simp [seesP, ht]; omega
    rw [hr]
    clear ht hr
    have hi3 : decide ((k : Int) < (s.size : Int)) = false := decide_eq_false (by omega)
    have hi4 : decide (k < s.size) = false := decide_eq_false (by omega)
    go_enter Tryz.func169, Tryz.ntmps169
    go_wp2
    go_quiet (fail)
    go_wp2
    go_ret
    exact ⟨rfl, h.drewN _, gb_drewN _ _ _⟩
set_option maxHeartbeats 400000 in
theorem isDigit_any (c : Int) (w : World) : Calls Tryz.prog 183 #[.int .u8 c] w fun e w' => e = .returned (.bool (decide (48 ≤ c) && decide (c ≤ 57))) ∧ w' = w := by
  by_cases h : 48 ≤ c
  · have h2 : decide (48 ≤ c) = true := decide_eq_true h
    go_enter Tryz.func183, Tryz.ntmps183
    go_wp2
    go_ret
    exact ⟨by rw [h2]; rfl, rfl⟩
  · have h2 : decide (48 ≤ c) = false := decide_eq_false h
    go_enter Tryz.func183, Tryz.ntmps183
    go_wp2
    go_ret
    exact ⟨rfl, rfl⟩
set_option maxHeartbeats 400000 in
theorem cmust_any (b : Nat) (s : ByteArray) (k : Nat) (c : Int) (w : World) (h : CuAt w b s k) (hc : 0 ≤ c) (hk : k ≤ s.size) (hs : s.size ≤ 1000000) :
    Calls Tryz.prog 131 #[.pointer (some ⟨b, 0, none⟩), .int .u8 c] w fun e w' => w.grownBy w' (some b) ∧ ((seesP s k c = false ∧ ∃ j, e = misfit j) ∨ (seesP s k c = true ∧ e = .returned (.tuple #[]) ∧ CuAt w' b s (k + 1))) := by
  have HS := hide (fun V hV => sees_any b s k c V hV hc)
  generalize seesP s k c = q at *
  cases q
  · go_enter Tryz.func131, Tryz.ntmps131
    obtain ⟨c0, c1, f1⟩ := id h
    go_wp2_with fail
    go_region_with (first
      | (go_at_call 169; refine (HS.out _ (h.drewN 1)).mono ?_; rintro e w1 ⟨rfl, h1, g1⟩; obtain ⟨d0, d1, e1⟩ := id h1)
      | (go_at_call 88; refine (need_no _ _).mono ?_; rintro e w2 ⟨rfl, rfl⟩; refine thrown (show _ ∧ _ from ⟨rfl, gb_trans (gb_drewN _ 1 _) g1, .inl ⟨trivial, _, rfl⟩⟩) w2 ?_)
      | go_in)
    all_goals exact trivial
  · go_enter Tryz.func131, Tryz.ntmps131
    obtain ⟨c0, c1, f1⟩ := id h
    go_wp2_with fail
    go_region_with (first
      | (go_at_call 169; refine (HS.out _ (h.drewN 1)).mono ?_; rintro e w1 ⟨rfl, h1, g1⟩; obtain ⟨d0, d1, e1⟩ := id h1)
      | (go_at_call 88; refine (need_yes _ _).mono ?_; rintro e w2 ⟨rfl, hw2⟩)
      | go_in)
    all_goals
      subst hw2
      obtain ⟨d0, d1, e1⟩ := id h1
      have HN := hide (h1.set (k + 1))
      have HG := hide (gb_trans (gb_trans (gb_drewN w 1 (some b)) g1) (gb_set w2 b 1 (.int .i64 ((k + 1 : Nat) : Int))))
      clear h1 g1
      go_wp2
      go_end0
      exact ⟨HG.out, .inr ⟨trivial, rfl, HN.out⟩⟩
end Go.Proofs.YtkjlkbgdkdcboaaGreatDoor
namespace Go.Proofs.YtkjlkbgdkdcboaaGreatDoor
open Go.RowKit
attribute [local go_sem ↓] Go.wp_at_zero Go.wp_at_succ
def digB (s : ByteArray) (k : Nat) : Bool := decide (48 ≤ bt s k) && decide (bt s k ≤ 57)
def numF (s : ByteArray) (lim : Nat) : Nat → Int → Nat → Int × Nat
  | 0, n, k => (n, k)
  | q + 1, n, k =>
    if k < s.size ∧ k < lim ∧ digB s k = true then
      if leastP 1048576 [10 * n + (bt s k - 48)] = 0 then (0, k + 1) else numF s lim q (leastP 1048576 [10 * n + (bt s k - 48)]) (k + 1)
    else (n, k)
def numR (s : ByteArray) (lim : Nat) (n : Int) (k : Nat) : Int × Nat := numF s lim (s.size - k) n k
def numC (s : ByteArray) (most k : Nat) : Option (Int × Nat) := if k < (numR s (k + most) 0 k).2 then some (numR s (k + most) 0 k) else none
theorem numR_stop {s : ByteArray} {lim : Nat} {n : Int} {k : Nat} (h : ¬ (k < s.size ∧ k < lim ∧ digB s k = true)) : numR s lim n k = (n, k) := by
  unfold numR
  cases s.size - k with
  | zero => rfl
  | succ q => exact if_neg h
theorem numR_zero {s : ByteArray} {lim : Nat} {n : Int} {k : Nat} (h : k < s.size ∧ k < lim ∧ digB s k = true) (hm : leastP 1048576 [10 * n + (bt s k - 48)] = 0) : numR s lim n k = (0, k + 1) := by
  unfold numR
  rw [show s.size - k = s.size - (k + 1) + 1 by omega]
  exact (if_pos h).trans (if_pos hm)
theorem numR_more {s : ByteArray} {lim : Nat} {n : Int} {k : Nat} (h : k < s.size ∧ k < lim ∧ digB s k = true) (hm : leastP 1048576 [10 * n + (bt s k - 48)] ≠ 0) : numR s lim n k = numR s lim (leastP 1048576 [10 * n + (bt s k - 48)]) (k + 1) := by
  unfold numR
  rw [show s.size - k = s.size - (k + 1) + 1 by omega]
  exact (if_pos h).trans (if_neg hm)
theorem leastP_bd {n : Int} (h : 0 ≤ n) : 0 ≤ leastP 1048576 [n] ∧ leastP 1048576 [n] ≤ 1048576 := by
  unfold leastP
  simp only [List.foldl_cons, List.foldl_nil]
  split <;> omega
def curOf (b : Nat) (w : World) : Nat := match w.cell? ⟨b, 1, none⟩ with | some (.int _ n) => n.toNat | _ => 0
theorem cur_of {w : World} {b : Nat} {s : ByteArray} {k : Nat} (h : CuAt w b s k) : curOf b w = k := by unfold curOf; rw [h.c1]; simp
def NumS (w : World) (b : Nat) (s : ByteArray) (j : Nat) (W : World) : Prop := W.cell? ⟨b, 0, none⟩ = some (.string s) ∧ W.cell? ⟨b, 1, none⟩ = some (.int .i64 j) ∧ W.frozen? ⟨b, 1, none⟩ = false ∧ w.grownBy W (some b)
theorem NumS.cu {w W : World} {b : Nat} {s : ByteArray} {j : Nat} (h : NumS w b s j W) : CuAt W b s j := ⟨h.1, h.2.1, h.2.2.1⟩
theorem NumS.of {w W : World} {b : Nat} {s : ByteArray} {j : Nat} (h : CuAt W b s j) (hg : w.grownBy W (some b)) : NumS w b s j W := ⟨h.c0, h.c1, h.f1, hg⟩
theorem NumS.drew {w W : World} {b : Nat} {s : ByteArray} {j : Nat} (h : NumS w b s j W) : NumS w b s j W.drew := .of (h.cu.drewN 1) (gb_trans h.2.2.2 (gb_drewN _ 1 _))
theorem NumS.alloc {w W : World} {b : Nat} {s : ByteArray} {j : Nat} {o : Obj} (h : NumS w b s j W) : NumS w b s j (W.alloc o) :=
  .of (h.cu.kept (World.grownBy_alloc W o none) (by simp)) (gb_trans h.2.2.2 (World.grownBy_alloc W o (some b)))
set_option maxRecDepth 100000 in
set_option maxHeartbeats 1000000 in
theorem cnumber_any (b : Nat) (s : ByteArray) (k most : Nat) (w : World) (h : CuAt w b s k) (hk : k ≤ s.size) (hs : s.size ≤ 1000000) (hm : most ≤ 1000000) :
    Calls Tryz.prog 168 #[.pointer (some ⟨b, 0, none⟩), .int .i64 most] w fun e w' => w.grownBy w' (some b) ∧ ((numC s most k = none ∧ ∃ j, e = misfit j) ∨ (∃ r, numC s most k = some r ∧ e = .returned (.int .i64 r.1) ∧ CuAt w' b s r.2)) := by
  have HC : Hid (∀ r, numR s (k + most) 0 k = r → (k < r.2 → numC s most k = some r) ∧ (¬ k < r.2 → numC s most k = none)) := hide (fun r hr => by
    unfold numC; rw [hr]; exact ⟨fun h => if_pos h, fun h => if_neg h⟩)
  obtain ⟨R, hR⟩ : ∃ R, numR s (k + most) 0 k = R := ⟨_, rfl⟩
  have HR := hide hR
  generalize numC s most k = C at *
  clear hR
  obtain ⟨c0, c1, f1⟩ := id h
  go_enter Tryz.func168, Tryz.ntmps168
  go_wp2
  go_quiet (fail)
  go_wp2
  clear c0 c1 f1
  go_loopw [5] (fun n wr => ∃ (m : Int) (j : Nat), n = .int .i64 m ∧ j ≤ s.size ∧ k ≤ j ∧ 0 ≤ m ∧ m ≤ 1048576 ∧ Hid (numR s (k + most) m j = R ∧ CuAt wr b s j ∧ w.grownBy wr (some b))) (fun _ wr => s.size - curOf b wr)
  case atStart => exact ⟨0, k, rfl, hk, Nat.le_refl _, by omega, by omega, HR.out, h.drewN _, gb_drewN _ _ _⟩
  case round =>
    obtain ⟨m, j, rfl, hj, hkj, hm0, hm1, hr⟩ := hrel
    obtain ⟨hN, hcu, hg⟩ := hr.out
    have hcur := cur_of hcu
    obtain ⟨c0, c1, f1⟩ := id hcu
    by_cases hgo : j < s.size ∧ j < k + most ∧ digB s j = true
    · have hbt := bt_in hgo.1
      have hst0 := numR_zero (n := m) hgo
      have hst1 := numR_more (n := m) hgo
      have hd : 48 ≤ (s[j]'hgo.1).toNat ∧ (s[j]'hgo.1).toNat ≤ 57 := by
        have := hgo.2.2
        unfold digB at this
        simp at this
        omega
      rw [hbt] at hst0 hst1
      have hbd := leastP_bd (n := 10 * m + (((s[j]'hgo.1).toNat : Int) - 48)) (by omega)
      have hd2 := hd.1
      have hd3 := hd.2
      obtain ⟨hlt, hlm, hdg⟩ := hgo
      have hi3 : (j : Int) < (s.size : Int) := by omega
      have t1 : decide ((j : Int) < (s.size : Int)) = true := decide_eq_true (by omega)
      have t2 : decide ((j : Int) < (k : Int) + (most : Int)) = true := decide_eq_true (by omega)
      have t3 : decide (48 ≤ ((s[j]'hlt).toNat : Int)) = true := decide_eq_true (by omega)
      have t4 : decide (((s[j]'hlt).toNat : Int) ≤ 57) = true := decide_eq_true (by omega)
      have hwk : IntKind.i64.wrap ((k : Int) + (most : Int)) = (k : Int) + (most : Int) := wrap_in _ (by omega)
      have Hval : Hid (IntKind.i64.wrap (IntKind.i64.wrap (10 * m) + IntKind.i64.wrap (IntKind.u8.wrap (((s[j]'hlt).toNat : Int) - 48))) = 10 * m + (((s[j]'hlt).toNat : Int) - 48)) := by
        show _ = _
        rw [wraps_u8 _ (by omega) (by omega), wrap_in (10 * m) (by omega), wrap_in (((s[j]'hlt).toNat : Int) - 48) (by omega), wrap_in _ (by omega)]
      have H0 := hide hst0
      have H1 := hide hst1
      have HN := hide hN
      have Hcur := hide hcur
      have hS : NumS w b s j wr := .of hcu hg
      clear hst0 hst1 hN hcur hr hbt hd hcu hg
      go_wp2_with fail
      go_region_held3 (fun w'' => w''.cell? ⟨b, 0, none⟩ = some (.string s) ∧ w''.cell? ⟨b, 1, none⟩ = some (.int .i64 j) ∧ w''.frozen? ⟨b, 1, none⟩ = false ∧ w.grownBy w'' (some b))
        ((show NumS w b s j _
          first | exact hS | exact hS.drew | assumption | exact ⟨by assumption, by assumption, by assumption, by assumption⟩))
        (first | (go_at_call 183; refine (isDigit_any _ _).mono ?_; rintro e w'' ⟨rfl, rfl⟩; rw [t3, t4]))
      go_wp2_with fail
      have hS1 := hS.drew
      go_region_held3 (fun w'' => w''.cell? ⟨b, 0, none⟩ = some (.string s) ∧ w''.cell? ⟨b, 1, none⟩ = some (.int .i64 j) ∧ w''.frozen? ⟨b, 1, none⟩ = false ∧ w.grownBy w'' (some b))
        ((show NumS w b s j _
          first | exact hS1 | exact hS1.drew | assumption | exact NumS.alloc (by assumption) | exact hS1.drew.alloc | exact ⟨by assumption, by assumption, by assumption, by assumption⟩ | exact NumS.alloc ⟨by assumption, by assumption, by assumption, by assumption⟩))
        (first | (go_at_call 95; refine (least1_any _ (10 * m + ((s[j].toNat : Int) - 48)) _ _ (by simp [go_sem]; exact Hval.out)).mono ?_; rintro e w'' ⟨rfl, rfl⟩))
      generalize leastP 1048576 [10 * m + (((s[j]'hlt).toNat : Int) - 48)] = m2 at *
      have hN1 := (NumS.alloc (o := .cells #[.int .i64 (IntKind.i64.wrap (IntKind.i64.wrap (10 * m) + IntKind.i64.wrap (IntKind.u8.wrap (((s[j]'hlt).toNat : Int) - 48))))] 3) hS).drew.drew
      generalize (wr.alloc (.cells #[.int .i64 (IntKind.i64.wrap (IntKind.i64.wrap (10 * m) + IntKind.i64.wrap (IntKind.u8.wrap (((s[j]'hlt).toNat : Int) - 48))))] 3)).drew.drew = V at *
      clear hS hS1 c0 c1 f1
      obtain ⟨c0, c1, f1, hgV⟩ := id hN1
      have hcV := hN1.cu.set (j + 1)
      have hgV2 := gb_trans hgV (gb_set V b 1 (.int .i64 ((j + 1 : Nat) : Int)))
      have hcur2 := cur_of hcV
      have ej : ((j + 1 : Nat) : Int) = (j : Int) + 1 := by omega
      rw [ej] at hcV hgV2 hcur2
      have HcV := hide hcV
      have HgV := hide hgV2
      have Hc2 := hide hcur2
      clear hcV hgV2 hcur2 hN1 hgV
      by_cases hz : m2 = 0
      · have hR0 := HN.out.symm.trans (H0.out hz)
        have HF := hide ((HC.out _ (HR.out.trans hR0)).1 (show k < j + 1 by omega))
        have Hz := hide hz
        clear H0 H1 hR0
        subst hz
        go_wp2
        obtain ⟨d0, d1, e1⟩ := HcV.out
        rw [ej] at d1
        clear c0 c1 f1
        have hcF := HcV.out.drewN 1
        have hgF := gb_trans HgV.out (gb_drewN _ 1 _)
        have HcF := hide hcF
        have HgF := hide hgF
        clear hcF hgF
        have t5 : decide ((k : Int) < (j : Int) + 1) = true := decide_eq_true (by omega)
        go_region_with (first | (go_at_call 88; refine (need_yes _ _).mono ?_; rintro e w2 ⟨rfl, rfl⟩) | go_in)
        all_goals
          go_wp2
          go_ret
          exact ⟨HgF.out, .inr ⟨_, HF.out, rfl, HcF.out⟩⟩
      · have hR1 := (H1.out hz).symm.trans HN.out
        have HR1 := hide hR1
        clear H0 H1 hR1
        go_wp2
        go_roundw
        case rel => exact ⟨m2, j + 1, rfl, by omega, by omega, hbd.1, hbd.2, HR1.out, HcV.out, HgV.out⟩
        case measure => rw [Hc2.out, Hcur.out]; omega
    · have hst := numR_stop (n := m) hgo
      rw [hst] at hN
      have HCs := HC.out _ (HR.out.trans hN.symm)
      dsimp only at HCs
      have H1 := hide HCs.1
      have H2 := hide HCs.2
      have HN := hide hN
      have Hg := hide hg
      have Hcur := hide hcur
      clear hst HCs HC HR hr hN hcur hg
      by_cases h1 : j < s.size
      · have t1 : decide ((j : Int) < (s.size : Int)) = true := decide_eq_true (by omega)
        by_cases h2 : j < k + most
        · have hi3 : (j : Int) < (s.size : Int) := by omega
          have t2 : decide ((j : Int) < (k : Int) + (most : Int)) = true := decide_eq_true (by omega)
          have hwk : IntKind.i64.wrap ((k : Int) + (most : Int)) = (k : Int) + (most : Int) := wrap_in _ (by omega)
          have t3 : (decide (48 ≤ ((s[j]'h1).toNat : Int)) && decide (((s[j]'h1).toNat : Int) ≤ 57)) = false := by
            have := not_and.1 (not_and.1 hgo h1) h2
            unfold digB at this
            rw [bt_in h1] at this
            simpa using this
          have hS : NumS w b s j wr := .of hcu Hg.out
          go_wp2_with fail
          go_region_held3 (fun w'' => w''.cell? ⟨b, 0, none⟩ = some (.string s) ∧ w''.cell? ⟨b, 1, none⟩ = some (.int .i64 j) ∧ w''.frozen? ⟨b, 1, none⟩ = false ∧ w.grownBy w'' (some b))
            ((show NumS w b s j _
              first | exact hS | exact hS.drew | assumption | exact ⟨by assumption, by assumption, by assumption, by assumption⟩))
            (first | (go_at_call 183; refine (isDigit_any _ _).mono ?_; rintro e w'' ⟨rfl, rfl⟩; rw [t3]))
          go_wp2_with fail
          by_cases hkj2 : k < j
          · have t5 : decide ((k : Int) < ((j : Nat) : Int)) = true := decide_eq_true (by omega)
            have HF := hide (H1.out hkj2)
            go_region_with (first | (go_at_call 88; refine (need_yes _ _).mono ?_; rintro e w2 ⟨rfl, rfl⟩) | go_in)
            all_goals
              go_wp2
              go_ret
              exact ⟨gb_trans Hg.out (gb_trans (gb_drewN _ 1 _) (gb_drewN _ 1 _)), .inr ⟨_, HF.out, rfl, (hcu.drewN 1).drewN 1⟩⟩
          · have t5 : decide ((k : Int) < ((j : Nat) : Int)) = false := decide_eq_false (by omega)
            have HF := hide (H2.out hkj2)
            go_region_with (first | (go_at_call 88; refine (need_no _ _).mono ?_; rintro e w2 ⟨rfl, rfl⟩; refine thrown (show _ ∧ _ from ⟨rfl, gb_trans Hg.out (gb_trans (gb_drewN _ 1 _) (gb_drewN _ 1 _)), .inl ⟨HF.out, _, rfl⟩⟩) w ?_) | go_in)
            all_goals exact trivial
        · have t2 : decide ((j : Int) < (k : Int) + (most : Int)) = false := decide_eq_false (by omega)
          go_wp2
          go_quiet (fail)
          go_wp2
          by_cases hkj2 : k < j
          · have t5 : decide ((k : Int) < ((j : Nat) : Int)) = true := decide_eq_true (by omega)
            have HF := hide (H1.out hkj2)
            go_region_with (first | (go_at_call 88; refine (need_yes _ _).mono ?_; rintro e w2 ⟨rfl, rfl⟩) | go_in)
            all_goals
              go_wp2
              go_ret
              exact ⟨gb_trans Hg.out (gb_trans (gb_drewN _ _ _) (gb_drewN _ 1 _)), .inr ⟨_, HF.out, rfl, (hcu.drewN _).drewN 1⟩⟩
          · have t5 : decide ((k : Int) < ((j : Nat) : Int)) = false := decide_eq_false (by omega)
            have HF := hide (H2.out hkj2)
            go_region_with (first | (go_at_call 88; refine (need_no _ _).mono ?_; rintro e w2 ⟨rfl, rfl⟩; refine thrown (show _ ∧ _ from ⟨rfl, gb_trans Hg.out (gb_trans (gb_drewN _ _ _) (gb_drewN _ 1 _)), .inl ⟨HF.out, _, rfl⟩⟩) w ?_) | go_in)
            all_goals exact trivial
      · have t1 : decide ((j : Int) < (s.size : Int)) = false := decide_eq_false (by omega)
        have t1b : decide (j < s.size) = false := decide_eq_false (by omega)
        go_wp2
        go_quiet (fail)
        go_wp2
        by_cases hkj2 : k < j
        · have t5 : decide ((k : Int) < ((j : Nat) : Int)) = true := decide_eq_true (by omega)
          have HF := hide (H1.out hkj2)
          go_region_with (first | (go_at_call 88; refine (need_yes _ _).mono ?_; rintro e w2 ⟨rfl, rfl⟩) | go_in)
          all_goals
            go_wp2
            go_ret
            exact ⟨gb_trans Hg.out (gb_trans (gb_drewN _ _ _) (gb_drewN _ 1 _)), .inr ⟨_, HF.out, rfl, (hcu.drewN _).drewN 1⟩⟩
        · have t5 : decide ((k : Int) < ((j : Nat) : Int)) = false := decide_eq_false (by omega)
          have HF := hide (H2.out hkj2)
          go_region_with (first | (go_at_call 88; refine (need_no _ _).mono ?_; rintro e w2 ⟨rfl, rfl⟩; refine thrown (show _ ∧ _ from ⟨rfl, gb_trans Hg.out (gb_trans (gb_drewN _ _ _) (gb_drewN _ 1 _)), .inl ⟨HF.out, _, rfl⟩⟩) w ?_) | go_in)
          all_goals exact trivial
end Go.Proofs.YtkjlkbgdkdcboaaGreatDoor

set_option linter.unusedSimpArgs false
set_option linter.unusedVariables false
namespace Go.Proofs.YtkjlkbgdkdcboaaGreatDoor
open Go.RowKit
attribute [local go_sem ↓] Go.wp_at_zero Go.wp_at_succ
theorem numR_bdF (q : Nat) (s : ByteArray) (lim : Nat) : ∀ (n : Int) (k : Nat), s.size - k = q → (0 ≤ n ∧ n ≤ 1048576) → k ≤ s.size → (0 ≤ (numR s lim n k).1 ∧ (numR s lim n k).1 ≤ 1048576) ∧ k ≤ (numR s lim n k).2 ∧ (numR s lim n k).2 ≤ s.size := by
  induction q with
  | zero =>
    intro n k hq h hk
    rw [numR_stop (by omega)]
    exact ⟨h, Nat.le_refl _, hk⟩
  | succ q ih =>
    intro n k hq h hk
    by_cases hg : k < s.size ∧ k < lim ∧ digB s k = true
    · have hd : 48 ≤ bt s k := by have := hg.2.2; unfold digB at this; simp at this; exact this.1
      have hb := leastP_bd (n := 10 * n + (bt s k - 48)) (by omega)
      by_cases hm : leastP 1048576 [10 * n + (bt s k - 48)] = 0
      · rw [numR_zero hg hm]
        refine ⟨⟨?_, ?_⟩, ?_, ?_⟩ <;> dsimp only <;> omega
      · rw [numR_more hg hm]
        have := ih _ (k + 1) (by omega) hb (by omega)
        exact ⟨this.1, by omega, this.2.2⟩
    · rw [numR_stop hg]
      exact ⟨h, Nat.le_refl _, hk⟩
theorem numR_bd (s : ByteArray) (lim : Nat) (n : Int) (k : Nat) (h : 0 ≤ n ∧ n ≤ 1048576) (hk : k ≤ s.size) : (0 ≤ (numR s lim n k).1 ∧ (numR s lim n k).1 ≤ 1048576) ∧ k ≤ (numR s lim n k).2 ∧ (numR s lim n k).2 ≤ s.size :=
  numR_bdF _ s lim n k rfl h hk
theorem numC_bd {s : ByteArray} {m k : Nat} {r : Int × Nat} (h : numC s m k = some r) (hk : k ≤ s.size) : (0 ≤ r.1 ∧ r.1 ≤ 1048576) ∧ k < r.2 ∧ r.2 ≤ s.size := by
  unfold numC at h
  split at h
  · rename_i hlt
    have hb := numR_bd s (k + m) 0 k ⟨by omega, by omega⟩ hk
    simp only [Option.some.injEq] at h
    rw [h] at hb hlt
    exact ⟨hb.1, hlt, hb.2.2⟩
  · simp at h
theorem sees_lt {s : ByteArray} {k : Nat} {c : Int} (hc : 0 ≤ c) (h : seesP s k c = true) : k < s.size := by
  unfold seesP at h
  exact bt_pos (by rw [of_decide_eq_true h]; exact hc)
def fracB (s : ByteArray) (f : Int) (k : Nat) : Option (Acre.Fc × Nat) :=
  match numC s 5 k with
  | none => none
  | some r => if seesP s r.2 47 = true then (match numC s 4 (r.2 + 1) with | none => none | some q => some ((f * r.1, q.1), q.2)) else none
def fracC (s : ByteArray) (k : Nat) : Option (Acre.Fc × Nat) :=
  if seesP s k 45 = true then (if seesP s (k + 1) 48 = true then none else fracB s (-1) (k + 1)) else fracB s 1 k
theorem CuAt.alloc {w : World} {b : Nat} {s : ByteArray} {k : Nat} (h : CuAt w b s k) (o : Obj) : CuAt (w.alloc o) b s k := h.kept (World.grownBy_alloc w o none) (by simp)
theorem fracB_n {s : ByteArray} {f : Int} {k : Nat} (h : numC s 5 k = none) : fracB s f k = none := by unfold fracB; rw [h]
theorem fracB_m {s : ByteArray} {f : Int} {k : Nat} {r : Int × Nat} (h : numC s 5 k = some r) (h2 : seesP s r.2 47 = false) : fracB s f k = none := by unfold fracB; rw [h]; simp [h2]
theorem fracB_d {s : ByteArray} {f : Int} {k : Nat} {r : Int × Nat} (h : numC s 5 k = some r) (h2 : seesP s r.2 47 = true) (h3 : numC s 4 (r.2 + 1) = none) : fracB s f k = none := by unfold fracB; rw [h]; simp [h2, h3]
theorem fracB_s {s : ByteArray} {f : Int} {k : Nat} {r q : Int × Nat} (h : numC s 5 k = some r) (h2 : seesP s r.2 47 = true) (h3 : numC s 4 (r.2 + 1) = some q) : fracB s f k = some ((f * r.1, q.1), q.2) := by unfold fracB; rw [h]; simp [h2, h3]
set_option maxRecDepth 100000 in
set_option maxHeartbeats 1000000 in
theorem cfrac_any (b : Nat) (s : ByteArray) (k : Nat) (w : World) (h : CuAt w b s k) (hk : k ≤ s.size) (hs : s.size ≤ 1000000) :
    Calls Tryz.prog 167 #[.pointer (some ⟨b, 0, none⟩)] w fun e w' => w.grownBy w' (some b) ∧ ((fracC s k = none ∧ ∃ j, e = misfit j) ∨ (∃ r, fracC s k = some r ∧ e = .returned (frV r.1) ∧ CuAt w' b s r.2)) := by
  have HM := hide (fun V hV => sees_any b s k 45 V hV (by omega))
  have h0 := h.alloc (.cells #[.int .i64 0, .int .i64 0] 38)
  have g0 := World.grownBy_alloc w (.cells #[.int .i64 0, .int .i64 0] 38) (some b)
  have bR := Box.new w [.int .i64 0, .int .i64 0] 38
  have hbw : some b ≠ some w.heap.size := by have := h.lt; intro e; cases e; omega
  cases hM : seesP s k 45
  · have hF : fracC s k = fracB s 1 k := by unfold fracC; rw [hM]; rfl
    rw [hM] at HM
    rw [hF]
    clear hF hM
    go_enter Tryz.func167, Tryz.ntmps167
    go_wp2_with fail
    generalize w.alloc (.cells #[.int .i64 0, .int .i64 0] 38) = V0 at *
    refine (HM.out _ h0).mono ?_
    rintro e w1 ⟨rfl, h1, g1⟩
    have bR1 := bR.kept (by simp) g1 hbw
    have G1 := hide (gb_trans g0 g1)
    clear HM h0 g0 g1 bR
    go_wp2_with fail
    refine (cnumber_any b s k 5 w1 h1 hk hs (by omega)).mono ?_
    rintro e w2 ⟨g2, (⟨hn, j, rfl⟩ | ⟨r, hr, rfl, h2⟩)⟩
    · exact (show _ ∧ _ from ⟨rfl, gb_trans G1.out g2, .inl ⟨fracB_n hn, _, rfl⟩⟩)
    have hb2 := numC_bd hr hk
    have bR2 := bR1.kept (by simp) g2 hbw
    have G2 := hide (gb_trans G1.out g2)
    have HR := hide hr
    obtain ⟨n, k1⟩ := r
    dsimp only at hb2 h2
    clear G1 g2 h1 bR1 hr
    go_wp2_with fail
    refine (cmust_any b s k1 47 w2 h2 (by omega) hb2.2.2 hs).mono ?_
    rintro e w3 ⟨g3, (⟨hn, j, rfl⟩ | ⟨hy, rfl, h3⟩)⟩
    · exact (show _ ∧ _ from ⟨rfl, gb_trans G2.out g3, .inl ⟨fracB_m HR.out hn, _, rfl⟩⟩)
    have hlt := sees_lt (by omega) hy
    have bR3 := bR2.kept (by simp) g3 hbw
    have G3 := hide (gb_trans G2.out g3)
    have HY := hide hy
    clear G2 g3 h2 bR2 hy
    go_wp2_with fail
    refine (cnumber_any b s (k1 + 1) 4 w3 h3 (by omega) hs (by omega)).mono ?_
    rintro e w4 ⟨g4, (⟨hn, j, rfl⟩ | ⟨q, hq, rfl, h4⟩)⟩
    · exact (show _ ∧ _ from ⟨rfl, gb_trans G3.out g4, .inl ⟨fracB_d HR.out HY.out hn, _, rfl⟩⟩)
    have hb4 := numC_bd hq (by omega)
    have bR4 := bR3.kept (by simp) g4 hbw
    have G4 := hide (gb_trans G3.out g4)
    have HF := hide (fracB_s (f := 1) HR.out HY.out hq)
    obtain ⟨d, k2⟩ := q
    dsimp only at hb4 h4
    clear G3 g4 h3 bR3 hq
    have c0 := bR4.c 0 _ rfl
    have c1 := bR4.c 1 _ rfl
    have f0 := bR4.f 0 (by simp)
    have f1 := bR4.f 1 (by simp)
    have h5 := (h4.kept (gb_set w4 w.heap.size 0 (.int .i64 n)) (fun e => hbw e.symm)).kept (gb_set _ w.heap.size 1 (.int .i64 d)) (fun e => hbw e.symm)
    have hlw := h4.lt
    have h6 : w.grownBy ((w4.setCell ⟨w.heap.size, 0, none⟩ (.int .i64 n)).setCell ⟨w.heap.size, 1, none⟩ (.int .i64 d)) (some b) := gb_new (gb_new G4.out (Nat.le_refl _)) (Nat.le_refl _)
    have H5 := hide h5
    have H6 := hide h6
    clear h5 h6 G4
    go_wp2
    refine bodyPost_ret (v := frV (n, d)) (by simp [results, Tryz.results167, go_sem, c0, c1, frV]) rfl ?_
    exact ⟨H6.out, .inr ⟨_, HF.out, by rw [Int.one_mul], H5.out⟩⟩
  · have hkl := sees_lt (by omega) hM
    have HZ := hide (fun V hV => sees_any b s (k + 1) 48 V hV (by omega))
    have ek : ((k + 1 : Nat) : Int) = (k : Int) + 1 := by omega
    cases hL : seesP s (k + 1) 48
    · have hF : fracC s k = fracB s (-1) (k + 1) := by unfold fracC; rw [hM, hL]; rfl
      rw [hM] at HM
      rw [hL] at HZ
      rw [hF]
      clear hF hM hL
      go_enter Tryz.func167, Tryz.ntmps167
      go_wp2_with fail
      generalize w.alloc (.cells #[.int .i64 0, .int .i64 0] 38) = V0 at *
      refine (HM.out _ h0).mono ?_
      rintro e w1 ⟨rfl, h1, g1⟩
      have bR1 := bR.kept (by simp) g1 hbw
      have G1 := hide (gb_trans g0 g1)
      clear HM h0 g0 g1 bR
      have h1b := h1.set (k + 1)
      have g1b := gb_trans G1.out (gb_set w1 b 1 (.int .i64 ((k + 1 : Nat) : Int)))
      have b1b := bR1.kept (by simp) (gb_set w1 b 1 (.int .i64 ((k + 1 : Nat) : Int))) hbw
      rw [ek] at h1b g1b b1b
      obtain ⟨c0, c1, f1⟩ := id h1
      obtain ⟨d0, d1, e1⟩ := id h1b
      rw [ek] at d1
      have B1 := hide b1b
      have H1b := hide h1b
      have G1b := hide g1b
      clear b1b h1b g1b bR1 G1
      go_wp2
      clear c0 c1 f1 h1
      generalize w1.setCell ⟨b, 1, none⟩ (.int .i64 ((k : Int) + 1)) = V1 at *
      go_region_with (first
        | (go_at_call 169; refine (HZ.out _ (H1b.out.drewN 1)).mono ?_; rintro e w2 ⟨rfl, h2, g2⟩; obtain ⟨d2, d3, e3⟩ := id h2; rw [ek] at d3)
        | (go_at_call 88; refine (need_yes _ _).mono ?_; rintro e w3 ⟨rfl, hw3⟩)
        | go_in)
      all_goals
        subst hw3
        have bR2 := (B1.out.kept (by simp) (gb_drewN _ 1 none) (by simp)).kept (by simp) g2 hbw
        have G2 := hide (gb_trans (gb_trans G1b.out (gb_drewN _ 1 _)) g2)
        clear B1 H1b G1b d2 d3 e3 g2 HZ
        go_wp2_with fail
        refine (cnumber_any b s (k + 1) 5 w3 h2 (by omega) hs (by omega)).mono ?_
        rintro e w4 ⟨g4, (⟨hn, j, rfl⟩ | ⟨r, hr, rfl, h4⟩)⟩
        · exact (show _ ∧ _ from ⟨rfl, gb_trans G2.out g4, .inl ⟨fracB_n hn, _, rfl⟩⟩)
        have hb2 := numC_bd hr (by omega)
        have bR4 := bR2.kept (by simp) g4 hbw
        have G4 := hide (gb_trans G2.out g4)
        have HR := hide hr
        obtain ⟨n, k1⟩ := r
        dsimp only at hb2 h4
        clear G2 g4 h2 bR2 hr
        go_wp2_with fail
        refine (cmust_any b s k1 47 w4 h4 (by omega) hb2.2.2 hs).mono ?_
        rintro e w5 ⟨g5, (⟨hn, j, rfl⟩ | ⟨hy, rfl, h5⟩)⟩
        · exact (show _ ∧ _ from ⟨rfl, gb_trans G4.out g5, .inl ⟨fracB_m HR.out hn, _, rfl⟩⟩)
        have hlt := sees_lt (by omega) hy
        have bR5 := bR4.kept (by simp) g5 hbw
        have G5 := hide (gb_trans G4.out g5)
        have HY := hide hy
        clear G4 g5 h4 bR4 hy
        go_wp2_with fail
        refine (cnumber_any b s (k1 + 1) 4 w5 h5 (by omega) hs (by omega)).mono ?_
        rintro e w6 ⟨g6, (⟨hn, j, rfl⟩ | ⟨q, hq, rfl, h6⟩)⟩
        · exact (show _ ∧ _ from ⟨rfl, gb_trans G5.out g6, .inl ⟨fracB_d HR.out HY.out hn, _, rfl⟩⟩)
        have hb4 := numC_bd hq (by omega)
        have bR6 := bR5.kept (by simp) g6 hbw
        have G6 := hide (gb_trans G5.out g6)
        have HF := hide (fracB_s (f := -1) HR.out HY.out hq)
        obtain ⟨d, k2⟩ := q
        dsimp only at hb4 h6
        clear G5 g6 h5 bR5 hq
        have c0 := bR6.c 0 _ rfl
        have c1 := bR6.c 1 _ rfl
        have f0 := bR6.f 0 (by simp)
        have f1 := bR6.f 1 (by simp)
        have h7 := (h6.kept (gb_set w6 w.heap.size 0 (.int .i64 (-n))) (fun e => hbw e.symm)).kept (gb_set _ w.heap.size 1 (.int .i64 d)) (fun e => hbw e.symm)
        have hlw := h6.lt
        have h8 : w.grownBy ((w6.setCell ⟨w.heap.size, 0, none⟩ (.int .i64 (-n))).setCell ⟨w.heap.size, 1, none⟩ (.int .i64 d)) (some b) := gb_new (gb_new G6.out (Nat.le_refl _)) (Nat.le_refl _)
        have H7 := hide h7
        have H8 := hide h8
        clear h7 h8 G6
        go_wp2
        refine bodyPost_ret (v := frV (-n, d)) (by simp [results, Tryz.results167, go_sem, c0, c1, frV]) rfl ?_
        exact ⟨H8.out, .inr ⟨_, HF.out, by rw [Int.neg_one_mul], H7.out⟩⟩
    · have hF : fracC s k = none := by unfold fracC; rw [hM, hL]; rfl
      rw [hM] at HM
      rw [hL] at HZ
      rw [hF]
      clear hF hM hL
      go_enter Tryz.func167, Tryz.ntmps167
      go_wp2_with fail
      generalize w.alloc (.cells #[.int .i64 0, .int .i64 0] 38) = V0 at *
      refine (HM.out _ h0).mono ?_
      rintro e w1 ⟨rfl, h1, g1⟩
      have G1 := hide (gb_trans g0 g1)
      clear HM h0 g0 g1 bR
      have h1b := h1.set (k + 1)
      have g1b := gb_trans G1.out (gb_set w1 b 1 (.int .i64 ((k + 1 : Nat) : Int)))
      rw [ek] at h1b g1b
      obtain ⟨c0, c1, f1⟩ := id h1
      obtain ⟨d0, d1, e1⟩ := id h1b
      rw [ek] at d1
      have H1b := hide h1b
      have G1b := hide g1b
      clear h1b g1b G1
      go_wp2
      clear c0 c1 f1 h1
      generalize w1.setCell ⟨b, 1, none⟩ (.int .i64 ((k : Int) + 1)) = V1 at *
      go_region_with (first
        | (go_at_call 169; refine (HZ.out _ (H1b.out.drewN 1)).mono ?_; rintro e w2 ⟨rfl, h2, g2⟩; obtain ⟨d2, d3, e3⟩ := id h2; rw [ek] at d3)
        | (go_at_call 88; refine (need_no _ _).mono ?_; rintro e w3 ⟨rfl, rfl⟩; refine thrown (show _ ∧ _ from ⟨rfl, gb_trans (gb_trans G1b.out (gb_drewN _ 1 _)) g2, .inl ⟨by simp, _, rfl⟩⟩) w ?_)
        | go_in)
      all_goals exact trivial
theorem fracB_bd {s : ByteArray} {f : Int} (hf : f = 1 ∨ f = -1) {k : Nat} {r : Acre.Fc × Nat} (h : fracB s f k = some r) (hk : k ≤ s.size) : ((-1048576 ≤ r.1.1 ∧ r.1.1 ≤ 1048576) ∧ 0 ≤ r.1.2 ∧ r.1.2 ≤ 1048576) ∧ k < r.2 ∧ r.2 ≤ s.size := by
  unfold fracB at h
  cases h1 : numC s 5 k with
  | none => rw [h1] at h; simp at h
  | some a =>
    have b1 := numC_bd h1 hk
    rw [h1] at h
    dsimp only at h
    split at h
    · rename_i hy
      have hl := sees_lt (by omega) hy
      cases h2 : numC s 4 (a.2 + 1) with
      | none => rw [h2] at h; simp at h
      | some q =>
        have b2 := numC_bd h2 (by omega)
        rw [h2] at h
        simp only [Option.some.injEq] at h
        rw [← h]
        dsimp only
        rcases hf with rfl | rfl
        · rw [Int.one_mul]; omega
        · rw [Int.neg_one_mul]; omega
    · simp at h
theorem fracC_bd {s : ByteArray} {k : Nat} {r : Acre.Fc × Nat} (h : fracC s k = some r) (hk : k ≤ s.size) : ((-1048576 ≤ r.1.1 ∧ r.1.1 ≤ 1048576) ∧ 0 ≤ r.1.2 ∧ r.1.2 ≤ 1048576) ∧ k < r.2 ∧ r.2 ≤ s.size := by
  unfold fracC at h
  split at h
  · rename_i hM
    have hl := sees_lt (by omega) hM
    split at h
    · simp at h
    · have := fracB_bd (.inr rfl) h (by omega)
      omega
  · exact fracB_bd (.inl rfl) h hk
end Go.Proofs.YtkjlkbgdkdcboaaGreatDoor
namespace Go.Proofs.YtkjlkbgdkdcboaaGreatDoor
open Go.RowKit
attribute [local go_sem ↓] Go.wp_at_zero Go.wp_at_succ
structure Dr where
  f : Acre.Fc
  t : Acre.Fc
  lo : Int
  hi : Int
  fAt : Nat
  tAt : Nat
  loAt : Nat
  hiAt : Nat
def drL (d : Dr) : List Value := [.int .i64 d.f.1, .int .i64 d.f.2, .int .i64 d.t.1, .int .i64 d.t.2, .int .i64 d.lo, .int .i64 d.hi, .int .i64 d.fAt, .int .i64 d.tAt, .int .i64 d.loAt, .int .i64 d.hiAt]
def drV (d : Dr) : Value := .agg (drL d).toArray
def bld (s : ByteArray) (k : Nat) : Option Nat := if seesP s k 32 = true then some (k + 1) else none
def draftC (s : ByteArray) (k : Nat) : Option (Dr × Nat) :=
  (fracC s k).bind fun a => (bld s a.2).bind fun k1 => (fracC s k1).bind fun b => (bld s b.2).bind fun k2 => (numC s s.size k2).bind fun c => (bld s c.2).bind fun k3 => (numC s s.size k3).bind fun d =>
    some (⟨a.1, b.1, c.1, d.1, k, k1, k2, k3⟩, d.2)
theorem bld_no {s : ByteArray} {k : Nat} (h : seesP s k 32 = false) : bld s k = none := by unfold bld; rw [h]; rfl
theorem bld_yes {s : ByteArray} {k : Nat} (h : seesP s k 32 = true) : bld s k = some (k + 1) := by unfold bld; rw [h]; rfl
theorem Box.set {w : World} {n : Nat} {l : List Value} (h : Box w n l) {i : Nat} (hi : i < l.length) (v : Value) : Box (w.setCell ⟨n, i, none⟩ v) n (l.set i v) := by
  have hc := h.c i l[i] (by simp [hi])
  refine ⟨fun k u hk => ?_, fun k hk => ?_⟩
  · rw [List.getElem?_set] at hk
    by_cases e : i = k
    · subst e
      simp [hi] at hk
      subst hk
      exact World.cell?_setCell_same _ _ _ hc
    · simp [e] at hk
      have e2 : (w.setCell ⟨n, i, none⟩ v).cell? ⟨n, k, none⟩ = w.cell? ⟨n, k, none⟩ := by
        apply World.cell?_setCell_other
        intro q
        injection q with _ q2
        exact e q2
      exact e2.trans (h.c k u hk)
  · rw [frozen_set]
    exact h.f k (by simpa using hk)
structure DS (w V : World) (b : Nat) (s : ByteArray) (k : Nat) (l : List Value) : Prop where
  cu : CuAt V b s k
  bD : Box V (w.heap.size + 1) l
  bR : ∃ z, z.length = 10 ∧ Box V w.heap.size z
  gb : w.grownBy V (some b)
theorem DS.call {w V V' : World} {b : Nat} {s : ByteArray} {k k' : Nat} {l : List Value} (h : DS w V b s k l) (hl : 0 < l.length) (hb : b < w.heap.size) (hg : V.grownBy V' (some b)) (hc : CuAt V' b s k') : DS w V' b s k' l := by
  obtain ⟨z, hz, bz⟩ := h.bR
  exact ⟨hc, h.bD.kept hl hg (by simp; omega), ⟨z, hz, bz.kept (by omega) hg (by simp; omega)⟩, gb_trans h.gb hg⟩
theorem DS.set {w V : World} {b : Nat} {s : ByteArray} {k : Nat} {l : List Value} (h : DS w V b s k l) (hb : b < w.heap.size) {i : Nat} (hi : i < l.length) (v : Value) : DS w (V.setCell ⟨w.heap.size + 1, i, none⟩ v) b s k (l.set i v) := by
  have hg := gb_set V (w.heap.size + 1) i v
  obtain ⟨z, hz, bz⟩ := h.bR
  exact ⟨h.cu.kept hg (by simp; omega), h.bD.set hi v, ⟨z, hz, bz.kept (by omega) hg (by simp)⟩, gb_new h.gb (by omega)⟩
set_option maxRecDepth 100000 in
set_option maxHeartbeats 1000000 in
theorem cdraft_any (b : Nat) (s : ByteArray) (k : Nat) (w : World) (h : CuAt w b s k) (hk : k ≤ s.size) (hs : s.size ≤ 1000000) :
    Calls Tryz.prog 130 #[.pointer (some ⟨b, 0, none⟩)] w fun e w' => w.grownBy w' (some b) ∧ ((draftC s k = none ∧ ∃ j, e = misfit j) ∨ (∃ r, draftC s k = some r ∧ e = .returned (drV r.1) ∧ CuAt w' b s r.2)) := by
  have hbw := h.lt
  have hD0 : DS w ((w.alloc (.cells #[.int .i64 0, .int .i64 0, .int .i64 0, .int .i64 0, .int .i64 0, .int .i64 0, .int .i64 0, .int .i64 0, .int .i64 0, .int .i64 0] 190)).alloc (.cells #[.int .i64 0, .int .i64 0, .int .i64 0, .int .i64 0, .int .i64 0, .int .i64 0, .int .i64 0, .int .i64 0, .int .i64 0, .int .i64 0] 190)) b s k [.int .i64 0, .int .i64 0, .int .i64 0, .int .i64 0, .int .i64 0, .int .i64 0, .int .i64 0, .int .i64 0, .int .i64 0, .int .i64 0] := by
    refine ⟨(h.alloc _).alloc _, ?_, ⟨_, rfl, (Box.new w [.int .i64 0, .int .i64 0, .int .i64 0, .int .i64 0, .int .i64 0, .int .i64 0, .int .i64 0, .int .i64 0, .int .i64 0, .int .i64 0] 190).kept (by simp) (World.grownBy_alloc _ _ none) (by simp)⟩, gb_trans (World.grownBy_alloc _ _ _) (World.grownBy_alloc _ _ _)⟩
    have := Box.new (w.alloc (.cells #[.int .i64 0, .int .i64 0, .int .i64 0, .int .i64 0, .int .i64 0, .int .i64 0, .int .i64 0, .int .i64 0, .int .i64 0, .int .i64 0] 190)) [.int .i64 0, .int .i64 0, .int .i64 0, .int .i64 0, .int .i64 0, .int .i64 0, .int .i64 0, .int .i64 0, .int .i64 0, .int .i64 0] 190
    simpa using this
  have H1 := hide (hD0.set hbw (i := 6) (by simp) (.int .i64 k))
  obtain ⟨c0, c1, f1⟩ := hD0.cu
  have d6 := hD0.bD.c 6 _ rfl
  have e6 := hD0.bD.f 6 (by simp)
  clear hD0
  go_enter Tryz.func130, Tryz.ntmps130
  go_upto_region 2 with fail
  generalize (w.alloc (.cells #[.int .i64 0, .int .i64 0, .int .i64 0, .int .i64 0, .int .i64 0, .int .i64 0, .int .i64 0, .int .i64 0, .int .i64 0, .int .i64 0] 190)).alloc (.cells #[.int .i64 0, .int .i64 0, .int .i64 0, .int .i64 0, .int .i64 0, .int .i64 0, .int .i64 0, .int .i64 0, .int .i64 0, .int .i64 0] 190) = W0 at *
  go_wp2_with fail
  generalize W0.setCell ⟨w.heap.size + 1, 6, none⟩ (.int .i64 k) = W1 at *
  clear c0 c1 f1 d6 e6
  refine (cfrac_any b s k W1 H1.out.cu hk hs).mono ?_
  rintro e W2 ⟨g2, (⟨hn, j, rfl⟩ | ⟨a, ha, rfl, h2⟩)⟩
  · exact (show _ ∧ _ from ⟨rfl, gb_trans H1.out.gb g2, .inl ⟨by unfold draftC; rw [hn]; rfl, _, rfl⟩⟩)
  have ba := fracC_bd ha hk
  have D2 := H1.out.call (by simp) hbw g2 h2
  have H2 := hide ((D2.set hbw (i := 0) (by simp) (.int .i64 a.1.1)).set hbw (i := 1) (by simp) (.int .i64 a.1.2))
  have d0 := D2.bD.c 0 _ rfl
  have d1 := D2.bD.c 1 _ rfl
  have e0 := D2.bD.f 0 (by simp)
  have e1 := D2.bD.f 1 (by simp)
  have HA := hide ha
  obtain ⟨⟨a1, a2⟩, ka⟩ := a
  dsimp only at ba
  unfold frV
  clear D2 h2 g2 ha H1
  go_wp2_with fail
  generalize (W2.setCell ⟨w.heap.size + 1, 0, none⟩ (.int .i64 a1)).setCell ⟨w.heap.size + 1, 1, none⟩ (.int .i64 a2) = W3 at *
  clear d0 d1 e0 e1
  refine (cmust_any b s ka 32 W3 H2.out.cu (by omega) ba.2.2 hs).mono ?_
  rintro e W4 ⟨g4, (⟨hn, j, rfl⟩ | ⟨hy, rfl, h4⟩)⟩
  · exact (show _ ∧ _ from ⟨rfl, gb_trans H2.out.gb g4, .inl ⟨by unfold draftC; rw [HA.out]; simp [bld_no hn], _, rfl⟩⟩)
  have lkb := sees_lt (by omega) hy
  obtain ⟨kb, HB, lekb, h4'⟩ : ∃ x, Hid (bld s ka = some x) ∧ (ka < x ∧ x ≤ s.size) ∧ CuAt W4 b s x := ⟨ka + 1, hide (bld_yes hy), by omega, h4⟩
  have DW4 := H2.out.call (by simp) hbw g4 h4'
  have H4 := hide (DW4.set hbw (i := 7) (by simp) (.int .i64 kb))
  have x0 := DW4.cu.c0
  have x1 := DW4.cu.c1
  have d0 := DW4.bD.c 7 _ rfl
  have e0 := DW4.bD.f 7 (by simp)
  clear DW4 h4 h4' g4 hy H2
  go_wp2_with fail
  generalize W4.setCell ⟨w.heap.size + 1, 7, none⟩ (.int .i64 kb) = W5 at *
  clear d0 e0 x0 x1
  refine (cfrac_any b s kb W5 H4.out.cu (by omega) hs).mono ?_
  rintro e W6 ⟨g6, (⟨hn, j, rfl⟩ | ⟨c, hc, rfl, h6⟩)⟩
  · exact (show _ ∧ _ from ⟨rfl, gb_trans H4.out.gb g6, .inl ⟨by unfold draftC; simp [HA.out, HB.out, hn], _, rfl⟩⟩)
  have bc := fracC_bd hc (by omega)
  have D6 := H4.out.call (by simp) hbw g6 h6
  have H6 := hide ((D6.set hbw (i := 2) (by simp) (.int .i64 c.1.1)).set hbw (i := 3) (by simp) (.int .i64 c.1.2))
  have d0 := D6.bD.c 2 _ rfl
  have d1 := D6.bD.c 3 _ rfl
  have e0 := D6.bD.f 2 (by simp)
  have e1 := D6.bD.f 3 (by simp)
  have HC := hide hc
  obtain ⟨⟨c1, c2⟩, kc⟩ := c
  dsimp only at bc
  unfold frV
  clear D6 h6 g6 hc H4
  go_wp2_with fail
  generalize (W6.setCell ⟨w.heap.size + 1, 2, none⟩ (.int .i64 c1)).setCell ⟨w.heap.size + 1, 3, none⟩ (.int .i64 c2) = W7 at *
  clear d0 d1 e0 e1
  refine (cmust_any b s kc 32 W7 H6.out.cu (by omega) (by omega) hs).mono ?_
  rintro e W8 ⟨g8, (⟨hn, j, rfl⟩ | ⟨hy, rfl, h8⟩)⟩
  · exact (show _ ∧ _ from ⟨rfl, gb_trans H6.out.gb g8, .inl ⟨by unfold draftC; simp [HA.out, HB.out, HC.out, bld_no hn], _, rfl⟩⟩)
  have lkd := sees_lt (by omega) hy
  obtain ⟨kd, HD, lekd, h8'⟩ : ∃ x, Hid (bld s kc = some x) ∧ (kc < x ∧ x ≤ s.size) ∧ CuAt W8 b s x := ⟨kc + 1, hide (bld_yes hy), by omega, h8⟩
  have DW8 := H6.out.call (by simp) hbw g8 h8'
  have H8 := hide (DW8.set hbw (i := 8) (by simp) (.int .i64 kd))
  have x0 := DW8.cu.c0
  have x1 := DW8.cu.c1
  have d0 := DW8.bD.c 8 _ rfl
  have e0 := DW8.bD.f 8 (by simp)
  clear DW8 h8 h8' g8 hy H6
  go_wp2_with fail
  generalize W8.setCell ⟨w.heap.size + 1, 8, none⟩ (.int .i64 kd) = W9 at *
  clear d0 e0 x0 x1
  refine (cnumber_any b s kd s.size W9 H8.out.cu (by omega) hs hs).mono ?_
  rintro e W10 ⟨g10, (⟨hn, j, rfl⟩ | ⟨c, hc, rfl, h10⟩)⟩
  · exact (show _ ∧ _ from ⟨rfl, gb_trans H8.out.gb g10, .inl ⟨by unfold draftC; simp [HA.out, HB.out, HC.out, HD.out, hn], _, rfl⟩⟩)
  have bn := numC_bd hc (by omega)
  have DW10 := H8.out.call (by simp) hbw g10 h10
  have H10 := hide (DW10.set hbw (i := 4) (by simp) (.int .i64 c.1))
  have d0 := DW10.bD.c 4 _ rfl
  have e0 := DW10.bD.f 4 (by simp)
  have HN := hide hc
  obtain ⟨n, kn⟩ := c
  dsimp only at bn
  clear DW10 h10 g10 hc H8
  go_wp2_with fail
  generalize W10.setCell ⟨w.heap.size + 1, 4, none⟩ (.int .i64 n) = W11 at *
  clear d0 e0
  refine (cmust_any b s kn 32 W11 H10.out.cu (by omega) (by omega) hs).mono ?_
  rintro e W12 ⟨g12, (⟨hn, j, rfl⟩ | ⟨hy, rfl, h12⟩)⟩
  · exact (show _ ∧ _ from ⟨rfl, gb_trans H10.out.gb g12, .inl ⟨by unfold draftC; simp [HA.out, HB.out, HC.out, HD.out, HN.out, bld_no hn], _, rfl⟩⟩)
  have lke := sees_lt (by omega) hy
  obtain ⟨ke, HE, leke, h12'⟩ : ∃ x, Hid (bld s kn = some x) ∧ (kn < x ∧ x ≤ s.size) ∧ CuAt W12 b s x := ⟨kn + 1, hide (bld_yes hy), by omega, h12⟩
  have DW12 := H10.out.call (by simp) hbw g12 h12'
  have H12 := hide (DW12.set hbw (i := 9) (by simp) (.int .i64 ke))
  have x0 := DW12.cu.c0
  have x1 := DW12.cu.c1
  have d0 := DW12.bD.c 9 _ rfl
  have e0 := DW12.bD.f 9 (by simp)
  clear DW12 h12 h12' g12 hy H10
  go_wp2_with fail
  generalize W12.setCell ⟨w.heap.size + 1, 9, none⟩ (.int .i64 ke) = W13 at *
  clear d0 e0 x0 x1
  refine (cnumber_any b s ke s.size W13 H12.out.cu (by omega) hs hs).mono ?_
  rintro e W14 ⟨g14, (⟨hn, j, rfl⟩ | ⟨c, hc, rfl, h14⟩)⟩
  · exact (show _ ∧ _ from ⟨rfl, gb_trans H12.out.gb g14, .inl ⟨by unfold draftC; simp [HA.out, HB.out, HC.out, HD.out, HN.out, HE.out, hn], _, rfl⟩⟩)
  have bm := numC_bd hc (by omega)
  have DW14 := H12.out.call (by simp) hbw g14 h14
  have H14 := hide (DW14.set hbw (i := 5) (by simp) (.int .i64 c.1))
  have d0 := DW14.bD.c 5 _ rfl
  have e0 := DW14.bD.f 5 (by simp)
  have HM := hide hc
  obtain ⟨m, km⟩ := c
  dsimp only at bm
  clear DW14 h14 g14 hc H12
  have HF : Hid (draftC s k = some (⟨(a1, a2), (c1, c2), n, m, k, kb, kd, ke⟩, km)) := by
    show _ = _
    unfold draftC
    simp [HA.out, HB.out, HC.out, HD.out, HN.out, HE.out, HM.out]
  go_upto_region 13 with fail
  generalize W14.setCell ⟨w.heap.size + 1, 5, none⟩ (.int .i64 m) = W15 at *
  clear d0 e0 HA HB HC HD HN HE HM
  have q0 := H14.out.bD.c 0 _ rfl
  have q1 := H14.out.bD.c 1 _ rfl
  have q2 := H14.out.bD.c 2 _ rfl
  have q3 := H14.out.bD.c 3 _ rfl
  have q4 := H14.out.bD.c 4 _ rfl
  have q5 := H14.out.bD.c 5 _ rfl
  have q6 := H14.out.bD.c 6 _ rfl
  have q7 := H14.out.bD.c 7 _ rfl
  have q8 := H14.out.bD.c 8 _ rfl
  have q9 := H14.out.bD.c 9 _ rfl
  obtain ⟨z, hz, bz⟩ := H14.out.bR
  have hcu := H14.out.cu
  have hgb := H14.out.gb
  obtain ⟨zc, zf⟩ : (∀ j, j < 10 → ∃ u, W15.cell? ⟨w.heap.size, j, none⟩ = some u) ∧ (∀ j, j < 10 → W15.frozen? ⟨w.heap.size, j, none⟩ = false) :=
    ⟨fun j hj => ⟨z[j], bz.c j _ (by simp [hz, hj])⟩, fun j hj => bz.f j (by omega)⟩
  have step : ∀ (V : World) (j : Nat) (v : Value), CuAt V b s km ∧ w.grownBy V (some b) → CuAt (V.setCell ⟨w.heap.size, j, none⟩ v) b s km ∧ w.grownBy (V.setCell ⟨w.heap.size, j, none⟩ v) (some b) := fun V j v hV =>
    ⟨hV.1.kept (gb_set V w.heap.size j v) (by simp; omega), gb_new hV.2 (Nat.le_refl _)⟩
  obtain ⟨u0, z0⟩ := zc 0 (by omega)
  have y0 := zf 0 (by omega)
  obtain ⟨u1, z1⟩ := zc 1 (by omega)
  have y1 := zf 1 (by omega)
  obtain ⟨u2, z2⟩ := zc 2 (by omega)
  have y2 := zf 2 (by omega)
  obtain ⟨u3, z3⟩ := zc 3 (by omega)
  have y3 := zf 3 (by omega)
  obtain ⟨u4, z4⟩ := zc 4 (by omega)
  have y4 := zf 4 (by omega)
  obtain ⟨u5, z5⟩ := zc 5 (by omega)
  have y5 := zf 5 (by omega)
  obtain ⟨u6, z6⟩ := zc 6 (by omega)
  have y6 := zf 6 (by omega)
  obtain ⟨u7, z7⟩ := zc 7 (by omega)
  have y7 := zf 7 (by omega)
  obtain ⟨u8, z8⟩ := zc 8 (by omega)
  have y8 := zf 8 (by omega)
  obtain ⟨u9, z9⟩ := zc 9 (by omega)
  have y9 := zf 9 (by omega)
  have hfin := step _ 9 (.int .i64 ke) (step _ 8 (.int .i64 kd) (step _ 7 (.int .i64 kb) (step _ 6 (.int .i64 k) (step _ 5 (.int .i64 m) (step _ 4 (.int .i64 n) (step _ 3 (.int .i64 c2) (step _ 2 (.int .i64 c1) (step _ 1 (.int .i64 a2) (step _ 0 (.int .i64 a1) (⟨hcu, hgb⟩))))))))))
  have Hfin := hide hfin
  clear hfin step zc zf bz hz hcu hgb H14
  go_wp2
  refine bodyPost_ret (v := drV ⟨(a1, a2), (c1, c2), n, m, k, kb, kd, ke⟩) ?_ rfl ?_
  · simp [results, Tryz.results130, go_sem, drV, drL, z0, z1, z2, z3, z4, z5, z6, z7, z8, z9]
  exact ⟨Hfin.out.2, .inr ⟨_, HF.out, rfl, Hfin.out.1⟩⟩
end Go.Proofs.YtkjlkbgdkdcboaaGreatDoor
namespace Go.Proofs.YtkjlkbgdkdcboaaGreatDoor
open Go.RowKit Go.Maps
attribute [local go_sem ↓] Go.wp_at_zero Go.wp_at_succ
theorem draftC_bd {s : ByteArray} {k : Nat} {r : Dr × Nat} (h : draftC s k = some r) (hk : k ≤ s.size) : k < r.2 ∧ r.2 ≤ s.size := by
  unfold draftC at h
  simp only [Option.bind_eq_some_iff] at h
  obtain ⟨a, ha, k1, hk1, b, hb, k2, hk2, c, hc, k3, hk3, d, hd, e⟩ := h
  have bl : ∀ {k k' : Nat}, bld s k = some k' → k < s.size ∧ k' = k + 1 := by
    intro k k' h
    unfold bld at h
    split at h
    · rename_i hy
      simp at h
      exact ⟨sees_lt (by omega) hy, h.symm⟩
    · simp at h
  have h1 := fracC_bd ha hk
  have h2 := bl hk1
  have h3 := fracC_bd hb (by omega)
  have h4 := bl hk2
  have h5 := numC_bd hc (by omega)
  have h6 := bl hk3
  have h7 := numC_bd hd (by omega)
  simp only [Option.some.injEq] at e
  rw [← e]
  dsimp only
  omega
def draftsF (s : ByteArray) : Nat → Nat → List Dr → Option (List Dr)
  | 0, _, l => some l
  | q + 1, k, l =>
    if k < s.size then
      if seesP s k 59 = true then
        match draftC s (k + 1) with
        | none => none
        | some r => draftsF s q r.2 (l ++ [r.1])
      else none
    else some l
theorem draftsF_fuel (s : ByteArray) : ∀ (q q' k : Nat) (l : List Dr), s.size - k ≤ q → s.size - k ≤ q' → draftsF s q k l = draftsF s q' k l := by
  intro q
  induction q with
  | zero =>
    intro q' k l h1 h2
    cases q' with
    | zero => rfl
    | succ q' => exact (if_neg (show ¬ k < s.size by omega)).symm
  | succ q ih =>
    intro q' k l h1 h2
    cases q' with
    | zero => exact if_neg (show ¬ k < s.size by omega)
    | succ q' =>
      show (if k < s.size then _ else _) = (if k < s.size then _ else _)
      by_cases hk : k < s.size
      · rw [if_pos hk, if_pos hk]
        cases seesP s k 59
        · rfl
        · rw [if_pos rfl, if_pos rfl]
          cases hd : draftC s (k + 1) with
          | none => rfl
          | some r =>
            have := draftC_bd hd (by omega)
            exact ih q' r.2 _ (by omega) (by omega)
      · rw [if_neg hk, if_neg hk]
def draftsR (s : ByteArray) (k : Nat) (l : List Dr) : Option (List Dr) := draftsF s (s.size - k) k l
def draftsC (s : ByteArray) : Option (List Dr) :=
  if s.size = 0 then some [] else
    match draftC s 0 with
    | none => none
    | some r => draftsR s r.2 [r.1]
theorem draftsR_end {s : ByteArray} {k : Nat} {l : List Dr} (h : ¬ k < s.size) : draftsR s k l = some l := by
  unfold draftsR
  rw [show s.size - k = 0 by omega]
  rfl
theorem draftsR_no {s : ByteArray} {k : Nat} {l : List Dr} (h : k < s.size) (h2 : seesP s k 59 = false) : draftsR s k l = none := by
  unfold draftsR
  rw [show s.size - k = s.size - (k + 1) + 1 by omega]
  exact (if_pos h).trans (if_neg (by rw [h2]; simp))
theorem draftsR_bad {s : ByteArray} {k : Nat} {l : List Dr} (h : k < s.size) (h2 : seesP s k 59 = true) (h3 : draftC s (k + 1) = none) : draftsR s k l = none := by
  unfold draftsR
  rw [show s.size - k = s.size - (k + 1) + 1 by omega]
  refine ((if_pos h).trans (if_pos h2)).trans ?_
  rw [h3]
theorem draftsR_more {s : ByteArray} {k : Nat} {l : List Dr} {r : Dr × Nat} (h : k < s.size) (h2 : seesP s k 59 = true) (h3 : draftC s (k + 1) = some r) : draftsR s k l = draftsR s r.2 (l ++ [r.1]) := by
  have hb := draftC_bd h3 (by omega)
  unfold draftsR
  rw [show s.size - k = s.size - (k + 1) + 1 by omega]
  refine ((if_pos h).trans (if_pos h2)).trans ?_
  rw [h3]
  exact draftsF_fuel s _ _ _ _ (by omega) (Nat.le_refl _)
theorem info153 : (Tryz.prog.info? 190).map (fun i => (i.zero, i.size, i.bytes)) = some (some (.agg #[.int .i64 0, .int .i64 0, .int .i64 0, .int .i64 0, .int .i64 0, .int .i64 0, .int .i64 0, .int .i64 0, .int .i64 0, .int .i64 0]), 10, 80) := by kernel_rfl
structure DrPost (s : ByteArray) (w : World) (e : Ending) (w' : World) : Prop where
  bel : Below w.heap.size w w'
  out : (draftsC s = none ∧ ∃ j, e = misfit j) ∨ (∃ ds v, draftsC s = some ds ∧ e = .returned v ∧ w'.ownsRow w.heap.size 190 10 v ds.length (ds.flatMap drL) ∧ ds.length ≤ s.size)
set_option maxRecDepth 100000 in
set_option maxHeartbeats 1000000 in
theorem readDrafts_any (s : ByteArray) (w : World) (hs : s.size ≤ 1000000) :
    Calls Tryz.prog 87 #[.string s] w fun e w' => DrPost s w e w' := by
  obtain ⟨i0, hi, hz0, hz1, hz2⟩ := info_parts info153
  have he : s.toList.isEmpty = decide (s.size = 0) := by
    rw [ByteArray.toList_eq]
    have : s.data.toList.length = s.size := Array.length_toList
    cases hl : s.data.toList with
    | nil => rw [hl] at this; simp at this; simp [← this]
    | cons a r =>
      rw [hl] at this
      have h1 : ¬ s.size = 0 := by simp at this; omega
      rw [decide_eq_false h1]
      rfl
  by_cases h0 : s.size = 0
  · have he2 : s.toList.isEmpty = true := by rw [he]; simp [h0]
    have HC : Hid (draftsC s = some []) := by
      show _ = _
      unfold draftsC
      rw [if_pos h0]
    clear he
    go_enter Tryz.func87, Tryz.ntmps87
    go_wp2
    go_ret
    exact ⟨Below.refl _ _, .inr ⟨[], _, HC.out, rfl, World.ownsRow_nil _ _ _ _, by simp⟩⟩
  · have HC : Hid (draftsC s = match draftC s 0 with | none => none | some r => draftsR s r.2 [r.1]) := by
      show _ = _
      unfold draftsC
      rw [if_neg h0]
    have he2 : s.toList.isEmpty = false := by rw [he]; simp [h0]
    clear he
    have q0 := below1 w (.cells #[.string s, .int .i64 0] 243)
    have hc0 : CuAt (w.alloc (.cells #[.string s, .int .i64 0] 243)) w.heap.size s 0 := by constructor <;> simp [go_sem]
    go_enter Tryz.func87, Tryz.ntmps87
    go_wp2_with fail
    generalize w.alloc (.cells #[.string s, .int .i64 0] 243) = W0 at *
    refine (cdraft_any w.heap.size s 0 W0 hc0 (by omega) hs).mono ?_
    rintro e W1 ⟨g1, (⟨hn, j, rfl⟩ | ⟨r, hr, rfl, h1⟩)⟩
    · exact (show _ ∧ DrPost _ _ _ _ from ⟨rfl, q0.grown g1 q0.size (fun c e => by cases e; exact Nat.le_refl _), .inl ⟨by rw [HC.out, hn], _, rfl⟩⟩)
    have b1 := q0.grown g1 q0.size (fun c e => by cases e; exact Nat.le_refl _)
    have hR : draftsC s = draftsR s r.2 [r.1] := by rw [HC.out, hr]
    have br := draftC_bd hr (by omega)
    have hlt1 := h1.lt
    obtain ⟨d, k1⟩ := r
    dsimp only at br h1
    have hrow1 : (W1.alloc (.cells (drL d).toArray 190)).ownsRow (w.heap.size + 1) 190 10 (.slice (some ⟨W1.heap.size, 0, none⟩) 1 1) 1 (drL d) := by
      have := World.ownsRow_lit (e := 190) (size := 10) W1 (drL d).toArray 1 (base := w.heap.size + 1) (by omega) (by unfold maxLen; omega) (by simp [drL])
      exact this
    have hc1 := h1.alloc (.cells (drL d).toArray 190)
    have b2 := b1.alloc b1.size (.cells (drL d).toArray 190)
    have HR := hide hR
    unfold drV
    obtain ⟨⟨a1, a2⟩, ⟨c1, c2⟩, n, m, x1, x2, x3, x4⟩ := d
    simp only [drL] at *
    have hfl : [(⟨(a1, a2), (c1, c2), n, m, x1, x2, x3, x4⟩ : Dr)].flatMap drL = [.int .i64 a1, .int .i64 a2, .int .i64 c1, .int .i64 c2, .int .i64 n, .int .i64 m, .int .i64 x1, .int .i64 x2, .int .i64 x3, .int .i64 x4] := rfl
    rw [← hfl] at hrow1
    have HI := hide (And.intro HR.out (And.intro hc1 (And.intro hrow1 b2)))
    clear HC g1 hc0 hr hR q0 hc1 hrow1 b2 b1 h1 HR
    go_wp2
    go_loopw [4] (fun v wr => ∃ (k : Nat) (l : List Dr), k ≤ s.size ∧ l.length ≤ k ∧ Hid (draftsC s = draftsR s k l ∧ CuAt wr w.heap.size s k ∧ wr.ownsRow (w.heap.size + 1) 190 10 v l.length (l.flatMap drL) ∧ Below w.heap.size w wr)) (fun _ wr => s.size - curOf w.heap.size wr)
    case atStart => exact ⟨k1, [⟨(a1, a2), (c1, c2), n, m, x1, x2, x3, x4⟩], by omega, by simp; omega, HI.out⟩
    case round =>
      obtain ⟨k, l, hk, hl, hr⟩ := hrel
      obtain ⟨hC, hcu, hrow, hbel⟩ := hr.out
      have hcur := cur_of hcu
      obtain ⟨y0, y1, z1⟩ := id hcu
      clear HI
      by_cases hlt : k < s.size
      · have hlt2 : (k : Int) < (s.size : Int) := by omega
        have HI := hide hr.out
        have Hcur := hide hcur
        have hlw := hcu.lt
        clear hr hC hrow hbel hcur
        go_wp2_with fail
        refine (cmust_any w.heap.size s k 59 wr hcu (by omega) (by omega) hs).mono ?_
        rintro e W2 ⟨g2, (⟨hn, j, rfl⟩ | ⟨hy, rfl, h2⟩)⟩
        · exact (show _ ∧ DrPost _ _ _ _ from ⟨rfl, HI.out.2.2.2.grown g2 HI.out.2.2.2.size (fun c e => by cases e; exact Nat.le_refl _), .inl ⟨by rw [HI.out.1]; exact draftsR_no hlt hn, _, rfl⟩⟩)
        have b2 := HI.out.2.2.2.grown g2 HI.out.2.2.2.size (fun c e => by cases e; exact Nat.le_refl _)
        have r2 := HI.out.2.2.1.kept g2 (.inr (fun e => by have := (HI.out.2.2.1.lt _ e).1; omega))
        have Hb2 := hide b2
        have Hr2 := hide r2
        clear b2 r2
        go_wp2_with fail
        refine (cdraft_any w.heap.size s (k + 1) W2 h2 (by omega) hs).mono ?_
        rintro e W3 ⟨g3, (⟨hn, j, rfl⟩ | ⟨r, hq, rfl, h3⟩)⟩
        · exact (show _ ∧ DrPost _ _ _ _ from ⟨rfl, Hb2.out.grown g3 Hb2.out.size (fun c e => by cases e; exact Nat.le_refl _), .inl ⟨by rw [HI.out.1]; exact draftsR_bad hlt hy hn, _, rfl⟩⟩)
        have b3 := Hb2.out.grown g3 Hb2.out.size (fun c e => by cases e; exact Nat.le_refl _)
        have r3 := Hr2.out.kept g3 (.inr (fun e => by have := (Hr2.out.lt _ e).1; omega))
        have br := draftC_bd hq (by omega)
        have hM := HI.out.1.trans (draftsR_more (l := l) hlt hy hq)
        obtain ⟨d, k3⟩ := r
        dsimp only at br h3 hM
        have hl3 := h3.lt
        have c3 := h3.alloc (.cells (drL d).toArray 190)
        have r4 := r3.kept (World.grownBy_alloc W3 (.cells (drL d).toArray 190) none) (by cases u4.ownBlock <;> simp)
        have b4 := b3.alloc b3.size (.cells (drL d).toArray 190)
        have nw := Box.new W3 (drL d) 190
        have hz4 : (W3.alloc (.cells (drL d).toArray 190)).heap.size = W3.heap.size + 1 := by simp
        have Hc3 := hide c3
        have Hb4 := hide b4
        have HM := hide hM
        have Hl3 := hide hl3
        have hcb : Box (W3.alloc (.cells (drL d).toArray 190)) W3.heap.size (drL d) := nw
        unfold drV
        obtain ⟨⟨e1, e2⟩, ⟨g1, g2⟩, p, q, y1, y2, y3, y4⟩ := d
        simp only [drL] at *
        have hlb : l.length ≤ 1000000 := by omega
        have hnews : ∀ j u, [Value.int .i64 e1, .int .i64 e2, .int .i64 g1, .int .i64 g2, .int .i64 p, .int .i64 q, .int .i64 y1, .int .i64 y2, .int .i64 y3, .int .i64 y4][j]? = some u → (W3.alloc (.cells #[.int .i64 e1, .int .i64 e2, .int .i64 g1, .int .i64 g2, .int .i64 p, .int .i64 q, .int .i64 y1, .int .i64 y2, .int .i64 y3, .int .i64 y4] 190)).cell? ((⟨W3.heap.size, 0, none⟩ : Addr).add j) = some u :=
          World.news_of_block (cs := #[.int .i64 e1, .int .i64 e2, .int .i64 g1, .int .i64 g2, .int .i64 p, .int .i64 q, .int .i64 y1, .int .i64 y2, .int .i64 y3, .int .i64 y4]) (t := 190) (fr := (0, 0)) (heap_alloc_new W3 _)
        clear nw hcb
        go_wp2_with (first
          | (at_builtin; refine wpList_append_own_at _ rfl _ _ 187 rfl (w.heap.size + 1) 190 i0 _ 10 80 Tryz.underlying187 hi hz0 hz1 hz2 rfl (by decide) _ _ _ rfl r4 ⟨W3.heap.size, 0, none⟩ 1 1 [.int .i64 e1, .int .i64 e2, .int .i64 g1, .int .i64 g2, .int .i64 p, .int .i64 q, .int .i64 y1, .int .i64 y2, .int .i64 y3, .int .i64 y4] rfl rfl hnews (by simp [Value.oneCell']) (by unfold maxLen; omega) (by omega) (by omega) ?_; intro v' w5 hown' hgrow hnil hloc)
          | go_in)
        have hub : u4.ownBlock ≠ some w.heap.size := fun e => by have := (r4.lt _ e).1; omega
        have c5 := Hc3.out.kept hgrow hub
        have hcur5 := cur_of c5
        refine ⟨⟨k3, l ++ [⟨(e1, e2), (g1, g2), p, q, y1, y2, y3, y4⟩], by omega, by simp; omega, HM.out, c5, ?_, ?_⟩, by rw [hcur5, Hcur.out]; omega⟩
        · rw [List.length_append, List.flatMap_append]; exact hown'
        · exact Hb4.out.grown hgrow Hb4.out.size (fun c e => by have := (r4.lt _ e).1; omega)
      · have hlt2 : ¬ (k : Int) < (s.size : Int) := by omega
        have HF := hide (hC.trans (draftsR_end hlt))
        have Hr := hide (row_base hrow (Nat.le_succ w.heap.size))
        have Hb := hide hbel
        clear hr hC hrow hbel hcur
        go_wp2
        go_ret
        exact ⟨Hb.out, .inr ⟨l, _, HF.out, rfl, Hr.out, by omega⟩⟩
end Go.Proofs.YtkjlkbgdkdcboaaGreatDoor
