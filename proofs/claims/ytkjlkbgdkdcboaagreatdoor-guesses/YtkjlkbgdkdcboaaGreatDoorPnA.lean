import Derived.Test.YtkjlkbgdkdcboaaGreatDoorPE
import Derived.Test.YtkjlkbgdkdcboaaGreatDoorMC
import Derived.OwnWalk
import Derived.Laws.Strings

set_option linter.unusedSimpArgs false
set_option linter.unusedVariables false

set_option linter.unusedSimpArgs false
set_option linter.unusedVariables false
namespace Go.Proofs.YtkjlkbgdkdcboaaGreatDoor
open Go.RowKit
attribute [local go_sem ↓] Go.wp_at_zero Go.wp_at_succ
def pointL (s : ByteArray) (i : Nat) (bad : Int) : List (Int × Int) :=
  let x := numP s i bad
  let m := mustS s x.2 44
  [(x.1, (i : Int)), ((numP s m.1 m.2).1, (m.1 : Int))]
def pointE (s : ByteArray) (i : Nat) (bad : Int) : Nat × Int :=
  let m := mustS s (numP s i bad).2 44
  (numP s m.1 m.2).2
def rowF (s : ByteArray) : Nat → Nat → Int → List (Int × Int) × Nat × Int
  | 0, i, bad => ([], i, bad)
  | n + 1, i, bad =>
    let p := pointE s i bad
    if onP s p.1 p.2 32 = true then (pointL s i bad ++ (rowF s n (p.1 + 1) p.2).1, (rowF s n (p.1 + 1) p.2).2) else (pointL s i bad, p)
theorem info69 : (Tryz.prog.info? 83).map (fun i => (i.zero, i.size, i.bytes)) = some (some (.agg #[.int .i64 0, .int .i64 0]), 2, 16) := by kernel_rfl
theorem gotI_le (s : ByteArray) (i : Nat) (bad c : Int) : i ≤ gotI s i bad c := by unfold gotI; split <;> omega
theorem signS_le (s : ByteArray) (i : Nat) (bad : Int) : i ≤ (signS s i bad).1 := by
  unfold signS
  split
  · simp only [mustS]
    exact Nat.le_trans (Nat.le_trans (gotI_le s i bad 45) (gotI_le _ _ _ _)) (Nat.le_trans (gotI_le _ _ _ _) (gotI_le _ _ _ _))
  · exact gotI_le _ _ _ _
theorem numP_le (s : ByteArray) (i : Nat) (bad : Int) : i ≤ (numP s i bad).2.1 := by
  refine Nat.le_trans (signS_le s i bad) ?_
  unfold numP tailN
  split
  · split <;> simp
  · simp
theorem pointE_le (s : ByteArray) (i : Nat) (bad : Int) : i ≤ (pointE s i bad).1 :=
  Nat.le_trans (numP_le s i bad) (Nat.le_trans (gotI_le _ _ _ 44) (numP_le _ _ _))
theorem gb_app {w W W' : World} {b : Nat} {r : Option Nat} (h : w.grownBy W (some b)) (hg : W.grownBy W' r) (hr : ∀ c, r = some c → w.heap.size ≤ c) : w.grownBy W' (some b) :=
  ⟨hg.os.trans h.os, hg.tape.trans h.tape, hg.output.trans h.output, Nat.le_trans h.size hg.size, fun k hk hne => (hg.block k (Nat.lt_of_lt_of_le hk h.size) (fun e => by have := hr k e.symm; omega)).trans (h.block k hk hne)⟩
structure RowAt (w W : World) (b : Nat) (s : ByteArray) (j : Nat) (bad : Int) (l : Value) (acc : List (Int × Int)) : Prop where
  pen : PenAt W b s j bad
  row : W.ownsRow w.heap.size 83 2 l acc.length (flat acc)
  gb : w.grownBy W (some b)
theorem RowAt.call {w W W' : World} {b : Nat} {s : ByteArray} {j j' : Nat} {bad bad' : Int} {l : Value} {acc : List (Int × Int)} (h : RowAt w W b s j bad l acc) (hb : b < w.heap.size) (hp : PenAt W' b s j' bad') (hg : W.grownBy W' (some b)) : RowAt w W' b s j' bad' l acc :=
  ⟨hp, h.row.kept hg (Or.inr (fun e => by have := h.row.lt b e; omega)), gb_trans h.gb hg⟩
theorem RowAt.alloc {w W : World} {b : Nat} {s : ByteArray} {j : Nat} {bad : Int} {l : Value} {acc : List (Int × Int)} (h : RowAt w W b s j bad l acc) (o : Obj) : RowAt w (W.alloc o) b s j bad l acc :=
  ⟨h.pen.alloc _, h.row.alloc _, gb_trans h.gb (gb_alloc _ _ _)⟩
theorem RowAt.app {w W W' : World} {b : Nat} {s : ByteArray} {j : Nat} {bad x y : Int} {l v' : Value} {acc : List (Int × Int)} (h : RowAt w W b s j bad l acc) (hb : b < w.heap.size) (hg : W.grownBy W' l.ownBlock)
    (hown : W'.ownsRow w.heap.size 83 2 v' (acc.length + 1) (flat acc ++ [.int .i64 x, .int .i64 y])) : RowAt w W' b s j bad v' (acc ++ [(x, y)]) :=
  ⟨h.pen.kept hg (fun e => by have := h.row.lt b e; omega), by rw [List.length_append]; simpa [flat] using hown, gb_app h.gb hg (fun c hc => (h.row.lt c hc).1)⟩
theorem cell_two_at (w : World) (o : Obj) (x y : Value) (t : TypeId) : ∀ j u, [x, y][j]? = some u → ((w.alloc o).alloc (.cells #[x, y] t)).cell? ((⟨w.heap.size + 1, 0, none⟩ : Addr).add j) = some u := by
  have := cell_two_new (w.alloc o) x y t
  simpa using this
def boolOf : Value → Bool | .bool a => a | _ => false
def idxOf (b : Nat) (w : World) : Nat := match w.cell? ⟨b, 1, none⟩ with | some (.int _ q) => q.toNat | _ => 0
def rowM (n b : Nat) (ag : Value) (w : World) : Nat := if boolOf ag = true then n + 2 - idxOf b w else 0
theorem rowM_true {n b : Nat} {w : World} {s : ByteArray} {j : Nat} {bad : Int} (h : PenAt w b s j bad) : rowM n b (.bool true) w = n + 2 - j := by
  simp [rowM, boolOf, idxOf, h.c1]
theorem rowM_false {n b : Nat} {w : World} : rowM n b (.bool false) w = 0 := by simp [rowM, boolOf]
set_option maxRecDepth 100000 in
set_option maxHeartbeats 4000000 in
theorem row_any (b : Nat) (s : ByteArray) (i : Nat) (bad : Int) (w : World) (h : PenAt w b s i bad) (hs : s.size < 1000) (hin : i ≤ s.size) :
    Calls Tryz.prog 60 #[.pointer (some ⟨b, 0, none⟩)] w fun e w' => ∃ l, e = .returned l ∧ RowAt w w' b s (rowF s (s.size + 1) i bad).2.1 (rowF s (s.size + 1) i bad).2.2 l (rowF s (s.size + 1) i bad).1 := by
  obtain ⟨i0, hi, hz0, hz1, hz2⟩ := info_parts info69
  have lb := h.lt
  obtain ⟨F, hF⟩ : ∃ F, rowF s (s.size + 1) i bad = F := ⟨_, rfl⟩
  rw [hF]
  have HF := hide hF
  clear hF
  go_enter Tryz.func60, Tryz.ntmps60
  go_wp2_with fail
  go_loopw [3, 4] (fun l ag wr => ∃ A : Bool, ag = .bool A ∧ Hid (∃ (j : Nat) (bd : Int) (acc : List (Int × Int)) (n : Nat), RowAt w wr b s j bd l acc ∧ (A = true → F = (acc ++ (rowF s n j bd).1, (rowF s n j bd).2) ∧ s.size < j + n ∧ j ≤ s.size ∧ acc.length ≤ 2 * j) ∧ (A = false → F = (acc, j, bd)))) (fun _ ag wr => rowM s.size b ag wr)
  case atStart => exact ⟨true, rfl, i, bad, [], s.size + 1, ⟨h, World.ownsRow_nil _ _ _ _, gb_refl _ _⟩, fun _ => ⟨by rw [HF.out]; rfl, by omega, hin, by simp⟩, fun e => by cases e⟩
  case round =>
    obtain ⟨A, rfl, hr⟩ := hrel
    obtain ⟨j, bd, acc, n, r0, hT, hFa⟩ := hr.out
    cases A with
    | false =>
      have hFe := hFa rfl
      have HFe := hide hFe
      clear hFe hFa hT hr
      go_wp2
      go_ret
      refine ⟨_, rfl, ?_⟩
      rw [HFe.out]
      exact r0
    | true =>
      obtain ⟨hFe, hn, hjs, hal⟩ := hT rfl
      obtain ⟨m, rfl⟩ : ∃ m, n = m + 1 := ⟨n - 1, by omega⟩
      have HFe := hide hFe
      clear hFe hFa hT hr
      have hple := pointE_le s j bd
      have P0 := hide (rowM_true (n := s.size) r0.pen)
      obtain ⟨X, hX⟩ : ∃ X, numP s j bd = X := ⟨_, rfl⟩
      obtain ⟨Mu, hMu⟩ : ∃ Mu, mustS s X.2 44 = Mu := ⟨_, rfl⟩
      obtain ⟨Y, hY⟩ : ∃ Y, numP s Mu.1 Mu.2 = Y := ⟨_, rfl⟩
      have hE : pointE s j bd = Y.2 := by simp only [pointE, hX, hMu, hY]
      have hL : pointL s j bd = [(X.1, (j : Int)), (Y.1, (Mu.1 : Int))] := by simp only [pointL, hX, hMu, hY]
      rw [hE] at hple
      have k1 := fun W hp => number_any b s j bd W hp (by omega)
      have k2 := fun W hp => must_any b s X.2.1 X.2.2 44 W hp (by decide) (by omega)
      have k3 := fun W hp => number_any b s Mu.1 Mu.2 W hp (by omega)
      have k4 := fun W hp => got_any b s Y.2.1 Y.2.2 32 W hp (by decide) (by omega)
      rw [hX] at k1
      have hMu1 : gotI s X.2.1 X.2.2 44 = Mu.1 := by rw [← hMu]; rfl
      have hMu2 : mustB s X.2.1 X.2.2 44 = Mu.2 := by rw [← hMu]; rfl
      rw [hMu1, hMu2] at k2
      rw [hY] at k3
      have K1 := hide k1
      have K2 := hide k2
      have K3 := hide k3
      have K4 := hide k4
      have HE := hide hE
      have HL := hide hL
      clear k1 k2 k3 k4 hX hMu hY hMu1 hMu2 hE hL
      go_wp2_with fail
      refine (K1.out _ r0.pen).mono ?_
      rintro e w1 ⟨rfl, h1, g1⟩
      have r1 := (r0.call lb h1 g1).alloc (.cells #[.int .i64 X.1, .int .i64 j] 83)
      have x1 : BoxN (w1.alloc (.cells #[.int .i64 X.1, .int .i64 j] 83)) w1.heap.size X.1 j := by constructor <;> simp [go_sem]
      have l1 : b < w1.heap.size := h1.lt
      clear r0 h1 g1
      go_wp2_with fail
      refine (K2.out _ r1.pen).mono ?_
      rintro e w2 ⟨rfl, h2, g2⟩
      have r2 := r1.call lb h2 g2
      have x2 := x1.kept g2 (by simp; omega)
      clear r1 x1 h2 g2
      go_wp2_with fail
      refine (K3.out _ r2.pen).mono ?_
      rintro e w3 ⟨rfl, h3, g3⟩
      have hlo : ∀ c, u3.ownBlock = some c → c < w3.heap.size := fun c hc => ((r2.call lb h3 g3).row.lt c hc).2
      have r3 := (r2.call lb h3 g3).alloc (.cells #[.int .i64 Y.1, .int .i64 Mu.1] 83)
      have x3 := (x2.kept g3 (by simp; omega)).kept (gb_alloc w3 (.cells #[.int .i64 Y.1, .int .i64 Mu.1] 83) none) (by simp)
      have y3 : BoxN (w3.alloc (.cells #[.int .i64 Y.1, .int .i64 Mu.1] 83)) w3.heap.size Y.1 Mu.1 := by constructor <;> simp [go_sem]
      clear r2 x2 h3 g3
      obtain ⟨xc0, xc1, _, _⟩ := id x3
      obtain ⟨yc0, yc1, _, _⟩ := id y3
      go_wp2_with (at_builtin; refine wpList_append_own_at _ rfl _ _ 81 rfl w.heap.size 83 i0 (.agg #[.int .i64 0, .int .i64 0]) 2 16 Tryz.underlying81 hi hz0 hz1 hz2 rfl (by decide) _ _ _ rfl (r3.row.alloc _) ⟨w3.heap.size + 1, 0, none⟩ 1 1 [.int .i64 X.1, .int .i64 j] rfl rfl (cell_two_at _ _ _ _ _) (one2 _ _) (by unfold maxLen; omega) (by omega) ?_ ?_)
      · have := r3.gb.size; simp at this ⊢; omega
      intro v1 w4 hown1 hgrow1 hne1 hob1
      have r4 := (r3.alloc (.cells #[.int .i64 X.1, .int .i64 j] 83)).app lb hgrow1 hown1
      have y4 := (y3.kept (gb_alloc _ (.cells #[.int .i64 X.1, .int .i64 j] 83) none) (by simp)).kept hgrow1 (fun e => by have := hlo _ e; omega)
      clear r3 x3 y3 xc0 xc1 yc0 yc1 hown1 hgrow1 hne1 hob1 hlo
      obtain ⟨yc0, yc1, _, _⟩ := id y4
      go_wp2_with (at_builtin; refine wpList_append_own_at _ rfl _ _ 81 rfl w.heap.size 83 i0 (.agg #[.int .i64 0, .int .i64 0]) 2 16 Tryz.underlying81 hi hz0 hz1 hz2 rfl (by decide) _ _ _ rfl (r4.row.alloc _) ⟨w4.heap.size, 0, none⟩ 1 1 [.int .i64 Y.1, .int .i64 Mu.1] rfl rfl (cell_two_new _ _ _ _) (one2 _ _) (by unfold maxLen; simp; omega) (by simp; omega) ?_ ?_)
      · have := r4.gb.size; simp; omega
      intro v2 w5 hown2 hgrow2 hne2 hob2
      have r5 := (r4.alloc (.cells #[.int .i64 Y.1, .int .i64 Mu.1] 83)).app lb hgrow2 (by rw [List.length_append]; exact hown2)
      clear r4 y4 yc0 yc1 hown2 hgrow2 hne2 hob2
      go_wp2_with fail
      refine (K4.out _ r5.pen).mono ?_
      rintro e w6 ⟨rfl, h6, g6⟩
      have r6 := r5.call lb h6 g6
      have hstep : Hid (∃ (j' : Nat) (bd' : Int) (acc' : List (Int × Int)) (n' : Nat), RowAt w w6 b s j' bd' v2 acc' ∧ (onP s Y.2.1 Y.2.2 32 = true → F = (acc' ++ (rowF s n' j' bd').1, (rowF s n' j' bd').2) ∧ s.size < j' + n' ∧ j' ≤ s.size ∧ acc'.length ≤ 2 * j') ∧ (onP s Y.2.1 Y.2.2 32 = false → F = (acc', j', bd'))) := by
        refine ⟨_, _, _, m, r6, fun ho => ?_, fun ho => ?_⟩
        · have hlt := onP_in ho (by decide)
          have hg : gotI s Y.2.1 Y.2.2 32 = Y.2.1 + 1 := by rw [gotI, ho]; rfl
          rw [hg]
          refine ⟨?_, by omega, by omega, by simp; omega⟩
          rw [HFe.out, rowF]
          simp only [HE.out, ho, if_true, HL.out]
          simp
        · have hg : gotI s Y.2.1 Y.2.2 32 = Y.2.1 := by rw [gotI, ho]; rfl
          rw [hg, HFe.out, rowF]
          simp [HE.out, ho, HL.out]
      have hmeas : Hid (rowM s.size b (.bool (onP s Y.2.1 Y.2.2 32)) w6 < s.size + 2 - j) := by
        cases ho : onP s Y.2.1 Y.2.2 32 with
        | false => show rowM _ _ _ _ < _; rw [rowM_false]; omega
        | true =>
          have hlt := onP_in ho (by decide)
          have hg : gotI s Y.2.1 Y.2.2 32 = Y.2.1 + 1 := by rw [gotI, ho]; rfl
          show rowM _ _ _ _ < _
          rw [rowM_true h6, hg]
          omega
      clear r5 r6 h6 g6 K1 K2 K3 K4 HE HL
      generalize onP s Y.2.1 Y.2.2 32 = D at *
      go_wp2
      go_roundw
      case rel => exact ⟨D, rfl, hstep⟩
      case measure =>
        have e1 := hmeas.out
        have e2 := P0.out
        rw [← e2] at e1
        exact e1
end Go.Proofs.YtkjlkbgdkdcboaaGreatDoor
namespace Go.Proofs.YtkjlkbgdkdcboaaGreatDoor
open Go.RowKit
attribute [local go_sem ↓] Go.wp_at_zero Go.wp_at_succ
def ringsF (s : ByteArray) : Nat → Nat → Int → List (List (Int × Int)) × Nat × Int
  | 0, i, bad => ([], i, bad)
  | n + 1, i, bad =>
    let r := rowF s (s.size + 1) i bad
    if onP s r.2.1 r.2.2 59 = true then (r.1 :: (ringsF s n (r.2.1 + 1) r.2.2).1, (ringsF s n (r.2.1 + 1) r.2.2).2) else ([r.1], r.2)
def badAt (n j : Nat) (bd : Int) : Int := if j < n then failed j bd else bd
def ringsP (s : ByteArray) : List (List (Int × Int)) × Int :=
  if s.size = 0 then ([], -1)
  else
    let q := ringsF s (s.size + 1) 0 (-1)
    (q.1, badAt s.size q.2.1 q.2.2)
def RingN (w : World) (p : Nat) (l : Value) (v : Value) (ps : List (Int × Int)) : Prop :=
  ∃ ga b off cap, v = .slice ga ps.length cap ∧ (0 < ps.length → ga = some ⟨b, off, none⟩ ∧ b < w.heap.size ∧ l.ownBlock ≠ some b ∧ b ≠ p) ∧ PtsAt w b off ps
theorem RingN.grown {w w' : World} {p : Nat} {l l' v : Value} {ps : List (Int × Int)} {r : Option Nat} (h : RingN w p l v ps) (hg : w.grownBy w' r) (hr : r = none ∨ r = some p ∨ r = l.ownBlock) (hl : l'.ownBlock = l.ownBlock ∨ ∃ H, l'.ownBlock = some H ∧ w.heap.size ≤ H) : RingN w' p l' v ps := by
  obtain ⟨ga, b, off, cap, h1, h2, h3⟩ := h
  have far : 0 < ps.length → some b ≠ r := fun k => by
    obtain ⟨_, _, e3, e4⟩ := h2 k
    rcases hr with rfl | rfl | rfl
    · simp
    · intro e; exact e4 (Option.some.inj e)
    · exact fun e => e3 e.symm
  refine ⟨ga, b, off, cap, h1, fun k => ?_, fun k hk => ?_⟩
  · obtain ⟨e1, e2, e3, e4⟩ := h2 k
    refine ⟨e1, Nat.lt_of_lt_of_le e2 hg.size, ?_, e4⟩
    rcases hl with e | ⟨H, e, hH⟩
    · rw [e]; exact e3
    · rw [e]; intro e'; have := Option.some.inj e'; omega
  · have c := h3 k hk
    exact ⟨hg.cell c.1 (far (by omega)), hg.cell c.2 (far (by omega))⟩
theorem RingN.ring {w : World} {p : Nat} {l v : Value} {ps : List (Int × Int)} (h : RingN w p l v ps) : Ring w v ps := by
  obtain ⟨ga, b, off, cap, h1, h2, h3⟩ := h
  exact ⟨ga, b, off, cap, h1, fun k => ⟨(h2 k).1, (h2 k).2.1⟩, h3⟩
theorem RingN.row {w : World} {p : Nat} {l v : Value} {H : Nat} {t : TypeId} {ps : List (Int × Int)} (h : w.ownsRow H t 2 v ps.length (flat ps)) (hl : ∀ c, l.ownBlock = some c → c < H) (hp : p < H) : RingN w p l v ps := by
  rcases h.2 with ⟨rfl, h0⟩ | ⟨g, cap, cur, rfl, hHg, hgg, _⟩
  · refine ⟨none, 0, 0, 0, by rw [h0], fun k => absurd k (by omega), fun k hk => absurd hk (by omega)⟩
  · refine ⟨_, g, 0, cap, rfl, fun _ => ⟨rfl, (Array.getElem?_eq_some_iff.1 hgg).1, fun e => by have := hl g e; omega, by omega⟩, fun k hk => ?_⟩
    obtain ⟨e1, e2⟩ := flat_at ps k hk
    simp only [Nat.zero_add]
    exact ⟨(h.cellAt _ (by omega)).trans e1, (h.cellAt _ (by omega)).trans e2⟩
structure RsAt (w W : World) (b : Nat) (s : ByteArray) (j : Nat) (bad : Int) (l : Value) (acc : List (List (Int × Int))) : Prop where
  pen : PenAt W b s j bad
  low : Below w.heap.size w W
  rows : ∃ vs : List Value, vs.length = acc.length ∧ W.ownsRow (b + 1) 81 1 l acc.length vs ∧ ∀ i (h : i < acc.length) (h' : i < vs.length), RingN W b l vs[i] acc[i]
theorem RsAt.call {w W W' : World} {b : Nat} {s : ByteArray} {j j' : Nat} {bad bad' : Int} {l : Value} {acc : List (List (Int × Int))} (h : RsAt w W b s j bad l acc) (hb : w.heap.size ≤ b) (hp : PenAt W' b s j' bad') (hg : W.grownBy W' (some b)) : RsAt w W' b s j' bad' l acc := by
  obtain ⟨vs, e1, e2, e3⟩ := h.rows
  refine ⟨hp, h.low.grown hg h.low.size (fun k hk => by cases hk; exact hb), vs, e1, e2.kept hg (Or.inr (fun e => by have := e2.lt b e; omega)), fun i hi hi' => (e3 i hi hi').grown hg (Or.inr (Or.inl rfl)) (Or.inl rfl)⟩
theorem RsAt.app {w W W' : World} {b : Nat} {s : ByteArray} {j : Nat} {bad : Int} {l u v' : Value} {acc : List (List (Int × Int))} {r : List (Int × Int)} {vs : List Value} {H : Nat} (hb : w.heap.size ≤ b)
    (hp : PenAt W b s j bad) (hlow : Below w.heap.size w W) (e1 : vs.length = acc.length) (e2 : W.ownsRow (b + 1) 81 1 l acc.length vs) (e3 : ∀ i (h : i < acc.length) (h' : i < vs.length), RingN W b l vs[i] acc[i])
    (hu : RingN W b l u r) (hg : W.grownBy W' l.ownBlock) (hob : v'.ownBlock = l.ownBlock ∨ v'.ownBlock = some H) (hH : W.heap.size ≤ H)
    (hown : W'.ownsRow (b + 1) 81 1 v' (acc.length + 1) (vs ++ [u])) : RsAt w W' b s j bad v' (acc ++ [r]) := by
  have hob' : v'.ownBlock = l.ownBlock ∨ ∃ H, v'.ownBlock = some H ∧ W.heap.size ≤ H := by
    rcases hob with e | e
    · exact Or.inl e
    · exact Or.inr ⟨H, e, hH⟩
  refine ⟨hp.kept hg (fun e => by have := e2.lt b e; omega), hlow.grown hg hlow.size (fun k hk => by have := e2.lt k hk; omega), vs ++ [u], by simp [e1], by rw [List.length_append]; exact hown, fun i hi hi' => ?_⟩
  have hi2 : i < acc.length + 1 := by simpa using hi
  by_cases hik : i < acc.length
  · have q1 : (vs ++ [u])[i] = vs[i]'(by omega) := List.getElem_append_left (by omega)
    have q2 : (acc ++ [r])[i] = acc[i] := List.getElem_append_left hik
    rw [q1, q2]
    exact (e3 i hik (by omega)).grown hg (Or.inr (Or.inr rfl)) hob'
  · obtain rfl : i = acc.length := by omega
    have q1 : (vs ++ [u])[acc.length] = u := by rw [List.getElem_append_right (by omega)]; simp [e1]
    have q2 : (acc ++ [r])[acc.length] = r := by rw [List.getElem_append_right (by omega)]; simp
    rw [q1, q2]
    exact hu.grown hg (Or.inr (Or.inr rfl)) hob'
theorem rowF_le (s : ByteArray) : ∀ (n i : Nat) (bad : Int), i ≤ (rowF s n i bad).2.1
  | 0, i, bad => Nat.le_refl _
  | n + 1, i, bad => by
    rw [rowF]
    have := pointE_le s i bad
    split
    · have := rowF_le s n ((pointE s i bad).1 + 1) (pointE s i bad).2
      simp only
      omega
    · exact this
theorem info67 : (Tryz.prog.info? 81).map (fun i => (i.zero, i.size, i.bytes)) = some (some (.slice none 0 0), 1, 24) := by kernel_rfl
theorem RsAt.rings {w W : World} {b : Nat} {s : ByteArray} {j : Nat} {bad : Int} {l : Value} {acc : List (List (Int × Int))} (h : RsAt w W b s j bad l acc) : Rings W l acc := by
  obtain ⟨vs, h1, h2, h3⟩ := h.rows
  rcases h2.2 with ⟨rfl, h0⟩ | ⟨g, cap, cur, rfl, _⟩
  · exact ⟨none, 0, 0, 0, by rw [h0], fun k => absurd k (by omega), fun i hi => absurd hi (by omega)⟩
  · refine ⟨_, g, 0, cap, rfl, fun _ => rfl, fun i hi => ⟨vs[i], ?_, (h3 i hi (by omega)).ring⟩⟩
    rw [Nat.zero_add]
    exact (h2.cellAt i (by omega)).trans (List.getElem?_eq_getElem (by omega))
set_option maxRecDepth 100000 in
set_option maxHeartbeats 4000000 in
theorem rings_some (s : ByteArray) (w : World) (hs : s.size < 1000) (h0 : s.size ≠ 0) (hemp : s.toList.isEmpty = false) :
    Calls Tryz.prog 29 #[.string s] w fun e w' => ∃ l, e = .returned (.tuple #[l, .int .i64 (ringsP s).2]) ∧ Rings w' l (ringsP s).1 ∧ Below w.heap.size w w' := by
  obtain ⟨i1, hi1, hy0, hy1, hy2⟩ := info_parts info67
  obtain ⟨F, hF⟩ : ∃ F, ringsF s (s.size + 1) 0 (-1) = F := ⟨_, rfl⟩
  have hP : ringsP s = (F.1, badAt s.size F.2.1 F.2.2) := by rw [ringsP, if_neg h0, hF]
  rw [hP]
  have HF := hide hF
  clear hF hP
  have p0 : PenAt (w.alloc (.cells #[.string s, .int .i64 0, .int .i64 (-1)] 148)) w.heap.size s (0 : Nat) (-1) := by constructor <;> simp [go_sem]
  have q0 : RsAt w (w.alloc (.cells #[.string s, .int .i64 0, .int .i64 (-1)] 148)) w.heap.size s 0 (-1) (.slice none 0 0) [] :=
    ⟨p0, below1 _ _, [], rfl, World.ownsRow_nil _ _ _ _, fun i h => by simp at h⟩
  clear p0
  have Q0 := hide q0
  clear q0
  go_enter Tryz.func29, Tryz.ntmps29
  go_wp2_with fail
  go_loopw [5, 6] (fun l ag wr => ∃ A : Bool, ag = .bool A ∧ Hid (∃ (j : Nat) (bd : Int) (acc : List (List (Int × Int))) (n : Nat), RsAt w wr w.heap.size s j bd l acc ∧ (A = true → F = (acc ++ (ringsF s n j bd).1, (ringsF s n j bd).2) ∧ s.size < j + n ∧ j ≤ s.size ∧ acc.length ≤ j) ∧ (A = false → F = (acc, j, bd)))) (fun _ ag wr => rowM s.size w.heap.size ag wr)
  case atStart => exact ⟨true, rfl, 0, -1, [], s.size + 1, Q0.out, fun _ => ⟨by rw [HF.out]; rfl, by omega, by omega, by simp⟩, fun e => by cases e⟩
  case round =>
    obtain ⟨A, rfl, hr⟩ := hrel
    obtain ⟨j, bd, acc, n, r0, hT, hFa⟩ := hr.out
    cases A with
    | false =>
      have hFe := hFa rfl
      obtain ⟨c0, c1, c2, f1, f2⟩ := id r0.pen
      have HFe := hide hFe
      clear hFe hFa hT hr
      by_cases hlt : j < s.size
      · have hlt2 : (j : Int) < (s.size : Int) := by omega
        go_wp2_with fail
        refine (fail_any w.heap.size s j bd wr r0.pen).mono ?_
        rintro e w1 ⟨rfl, h1, g1⟩
        have r1 := r0.call (Nat.le_refl _) h1 g1
        clear c0 c1 c2 f1 f2
        obtain ⟨c0, c1, c2, f1, f2⟩ := id h1
        go_wp2
        go_quiet (fail)
        go_wp2
        refine bodyPost_ret (v := .tuple #[u5, .int .i64 (failed j bd)]) (by simp [results, Tryz.results29, go_sem]) rfl ⟨u5, ?_, ?_, below_drewN r1.low _⟩
        · rw [HFe.out]; simp only [badAt, if_pos hlt]
        · rw [HFe.out]; exact r1.rings.later (below_drewN (Below.refl _ _) _)
      · have hlt2 : ¬ (j : Int) < (s.size : Int) := by omega
        go_wp2
        go_quiet (fail)
        go_wp2
        refine bodyPost_ret (v := .tuple #[u5, .int .i64 bd]) (by simp [results, Tryz.results29, go_sem]) rfl ⟨u5, ?_, ?_, below_drewN r0.low _⟩
        · rw [HFe.out]; simp only [badAt, if_neg hlt]
        · rw [HFe.out]; exact r0.rings.later (below_drewN (Below.refl _ _) _)
    | true =>
      obtain ⟨hFe, hn, hjs, hal⟩ := hT rfl
      obtain ⟨m, rfl⟩ : ∃ m, n = m + 1 := ⟨n - 1, by omega⟩
      have HFe := hide hFe
      clear hFe hFa hT hr
      have hple := rowF_le s (s.size + 1) j bd
      have P0 := hide (rowM_true (n := s.size) r0.pen)
      have lbr : w.heap.size < wr.heap.size := r0.pen.lt
      have hlo : ∀ c, u5.ownBlock = some c → c < wr.heap.size := fun c hc => by
        obtain ⟨vs, e1, e2, e3⟩ := r0.rows
        exact (e2.lt c hc).2
      have k1 := row_any w.heap.size s j bd wr r0.pen hs hjs
      obtain ⟨X, hX⟩ : ∃ X, rowF s (s.size + 1) j bd = X := ⟨_, rfl⟩
      rw [hX] at k1 hple
      have K1 := hide k1
      have HX := hide hX
      have K4 := hide (fun W hp => got_any w.heap.size s X.2.1 X.2.2 59 W hp (by decide) (by omega))
      clear k1 hX
      go_wp2_with fail
      refine K1.out.mono ?_
      rintro e w1 ⟨l1, rfl, h1⟩
      have r1 := r0.call (Nat.le_refl _) h1.pen h1.gb
      have hnew : RingN w1 w.heap.size u5 l1 X.1 := RingN.row h1.row hlo lbr
      have hform : ∃ ga5 cap5, l1 = .slice ga5 X.1.length cap5 := by
        rcases h1.row.2 with ⟨rfl, hh⟩ | ⟨g, cap, cur, rfl, _⟩
        · exact ⟨none, 0, by rw [hh]⟩
        · exact ⟨_, _, rfl⟩
      obtain ⟨ga5, cap5, rfl⟩ := hform
      obtain ⟨vs, e1, e2, e3⟩ := r1.rows
      have Hp1 := hide r1.pen
      have Hlow1 := hide r1.low
      have He3 := hide e3
      have Hnew := hide hnew
      clear r0 r1 h1 K1 e3 hnew
      go_wp2_with (first
        | (at_builtin; refine wpList_append_own_at _ rfl _ _ 76 rfl (w.heap.size + 1) 81 i1 (.slice none 0 0) 1 24 Tryz.underlying76 hi1 hy0 hy1 hy2 rfl (by decide) _ _ _ rfl (e2.alloc _) ⟨w1.heap.size, 0, none⟩ 1 1 [.slice ga5 X.1.length cap5] rfl rfl (cell_one_new _ _ _) ?_ ?_ ?_ ?_ ?_)
        | go_in)
      · intro u hu; simp only [List.mem_singleton] at hu; rw [hu]; rfl
      · unfold maxLen; omega
      · omega
      · have := Hp1.out.lt; simp; omega
      · intro v' w4 hown hgrow hne hob
        have r5 : RsAt w w4 w.heap.size s X.2.1 X.2.2 v' (acc ++ [X.1]) :=
          RsAt.app (W := w1.alloc (.cells #[.slice ga5 X.1.length cap5] 81)) (Nat.le_refl _) (Hp1.out.alloc _) (Hlow1.out.alloc Hlow1.out.size _) e1 (e2.alloc _) (fun i hi hi' => (He3.out i hi hi').grown (gb_alloc _ _ none) (Or.inl rfl) (Or.inl rfl))
            (Hnew.out.grown (gb_alloc _ _ none) (Or.inl rfl) (Or.inl rfl)) hgrow hob (by simp) hown
        clear hown hgrow hne hob e1 e2 He3 Hnew Hp1 Hlow1
        go_wp2_with fail
        refine (K4.out _ r5.pen).mono ?_
        rintro e w6 ⟨rfl, h6, g6⟩
        have r6 := r5.call (Nat.le_refl _) h6 g6
        have hstep : Hid (∃ (j' : Nat) (bd' : Int) (acc' : List (List (Int × Int))) (n' : Nat), RsAt w w6 w.heap.size s j' bd' v' acc' ∧ (onP s X.2.1 X.2.2 59 = true → F = (acc' ++ (ringsF s n' j' bd').1, (ringsF s n' j' bd').2) ∧ s.size < j' + n' ∧ j' ≤ s.size ∧ acc'.length ≤ j') ∧ (onP s X.2.1 X.2.2 59 = false → F = (acc', j', bd'))) := by
          refine ⟨_, _, _, m, r6, fun ho => ?_, fun ho => ?_⟩
          · have hlt := onP_in ho (by decide)
            have hg : gotI s X.2.1 X.2.2 59 = X.2.1 + 1 := by rw [gotI, ho]; rfl
            rw [hg]
            refine ⟨?_, by omega, by omega, by simp; omega⟩
            rw [HFe.out, ringsF]
            simp only [HX.out, ho, if_true]
            simp
          · have hg : gotI s X.2.1 X.2.2 59 = X.2.1 := by rw [gotI, ho]; rfl
            rw [hg, HFe.out, ringsF]
            simp [HX.out, ho]
        have hmeas : Hid (rowM s.size w.heap.size (.bool (onP s X.2.1 X.2.2 59)) w6 < s.size + 2 - j) := by
          cases ho : onP s X.2.1 X.2.2 59 with
          | false => show rowM _ _ _ _ < _; rw [rowM_false]; omega
          | true =>
            have hlt := onP_in ho (by decide)
            have hg : gotI s X.2.1 X.2.2 59 = X.2.1 + 1 := by rw [gotI, ho]; rfl
            show rowM _ _ _ _ < _
            rw [rowM_true h6, hg]
            omega
        clear r5 r6 h6 g6 K4 HX
        generalize onP s X.2.1 X.2.2 59 = D at *
        go_wp2
        go_roundw
        case rel => exact ⟨D, rfl, hstep⟩
        case measure =>
          have e1 := hmeas.out
          have e2 := P0.out
          rw [← e2] at e1
          exact e1
set_option maxRecDepth 100000 in
set_option maxHeartbeats 400000 in
theorem rings_none (s : ByteArray) (w : World) (h0 : s.size = 0) (hemp : s.toList.isEmpty = true) :
    Calls Tryz.prog 29 #[.string s] w fun e w' => ∃ l, e = .returned (.tuple #[l, .int .i64 (ringsP s).2]) ∧ Rings w' l (ringsP s).1 ∧ Below w.heap.size w w' := by
  have hP : ringsP s = ([], -1) := by rw [ringsP, if_pos h0]
  rw [hP]
  clear hP
  go_enter Tryz.func29, Tryz.ntmps29
  go_wp2
  refine bodyPost_ret (v := .tuple #[.slice none 0 0, .int .i64 (-1)]) (by simp [results, Tryz.results29, go_sem]) rfl ?_
  exact ⟨_, rfl, ⟨none, 0, 0, 0, rfl, fun k => absurd k (by simp), fun i hi => absurd hi (by simp)⟩, below1 _ _⟩
theorem rings_any (s : ByteArray) (w : World) (hs : s.size < 1000) :
    Calls Tryz.prog 29 #[.string s] w fun e w' => ∃ l, e = .returned (.tuple #[l, .int .i64 (ringsP s).2]) ∧ Rings w' l (ringsP s).1 ∧ Below w.heap.size w w' := by
  have he : s.toList.isEmpty = decide (s.size = 0) := by
    rw [ByteArray.toList_eq]
    have : s.data.toList.length = s.size := Array.length_toList
    cases hl : s.data.toList with
    | nil => rw [hl] at this; simp at this; simp [← this]
    | cons a r =>
      rw [hl] at this
      have h1 : ¬ s.size = 0 := by simp at this; omega
      rw [decide_eq_false h1]
      rfl
  by_cases h0 : s.size = 0
  · exact rings_none s w h0 (by rw [he]; simp [h0])
  · exact rings_some s w hs h0 (by rw [he]; simp [h0])
end Go.Proofs.YtkjlkbgdkdcboaaGreatDoor
