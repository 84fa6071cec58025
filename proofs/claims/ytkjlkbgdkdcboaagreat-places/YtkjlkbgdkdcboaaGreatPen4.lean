import Derived.Test.YtkjlkbgdkdcboaaGreatPen3
import Derived.Test.YtkjlkbgdkdcboaaGreatCoA
import Derived.OwnWalk

set_option linter.unusedSimpArgs false
set_option linter.unusedVariables false

namespace Go.Proofs.YtkjlkbgdkdcboaaGreat
open Go.RowKit
attribute [local go_sem ↓] Go.wp_at_zero Go.wp_at_succ

/-- a point: its two numbers (value, place), and where the pen stands behind it -/
def pointL (s : ByteArray) (i : Nat) (bad : Int) : List (Int × Int) :=
  let x := numP s i bad
  let m := mustS s x.2 44
  [(x.1, (i : Int)), ((numP s m.1 m.2).1, (m.1 : Int))]
def pointE (s : ByteArray) (i : Nat) (bad : Int) : Nat × Int :=
  let m := mustS s (numP s i bad).2 44
  (numP s m.1 m.2).2
/-- a ring: its numbers, and where the pen stands behind it -/
def rowF (s : ByteArray) : Nat → Nat → Int → List (Int × Int) × Nat × Int
  | 0, i, bad => ([], i, bad)
  | n + 1, i, bad =>
    let p := pointE s i bad
    if onP s p.1 p.2 32 = true then (pointL s i bad ++ (rowF s n (p.1 + 1) p.2).1, (rowF s n (p.1 + 1) p.2).2) else (pointL s i bad, p)

theorem info69 : (Tryz.prog.info? 120).map (fun i => (i.zero, i.size, i.bytes)) = some (some (.agg #[.int .i64 0, .int .i64 0]), 2, 16) := by kernel_rfl

theorem gotI_le (s : ByteArray) (i : Nat) (bad c : Int) : i ≤ gotI s i bad c := by unfold gotI; split <;> omega
theorem signS_le (s : ByteArray) (i : Nat) (bad : Int) : i ≤ (signS s i bad).1 := by
  unfold signS
  split
  · simp only [mustS]
    exact Nat.le_trans (Nat.le_trans (gotI_le s i bad 45) (gotI_le _ _ _ _)) (Nat.le_trans (gotI_le _ _ _ _) (gotI_le _ _ _ _))
  · exact gotI_le _ _ _ _
theorem numP_le (s : ByteArray) (i : Nat) (bad : Int) : i ≤ (numP s i bad).2.1 := by
  refine Nat.le_trans (signS_le s i bad) ?_
  unfold numP tailN
  split
  · split <;> simp
  · simp
theorem pointE_le (s : ByteArray) (i : Nat) (bad : Int) : i ≤ (pointE s i bad).1 :=
  Nat.le_trans (numP_le s i bad) (Nat.le_trans (gotI_le _ _ _ 44) (numP_le _ _ _))

theorem gb_app {w W W' : World} {b : Nat} {r : Option Nat} (h : w.grownBy W (some b)) (hg : W.grownBy W' r) (hr : ∀ c, r = some c → w.heap.size ≤ c) : w.grownBy W' (some b) :=
  ⟨hg.os.trans h.os, hg.tape.trans h.tape, hg.output.trans h.output, Nat.le_trans h.size hg.size, fun k hk hne => (hg.block k (Nat.lt_of_lt_of_le hk h.size) (fun e => by have := hr k e.symm; omega)).trans (h.block k hk hne)⟩

/-- what holds while a ring is read -/
structure RowAt (w W : World) (b : Nat) (s : ByteArray) (j : Nat) (bad : Int) (l : Value) (acc : List (Int × Int)) : Prop where
  pen : PenAt W b s j bad
  row : W.ownsRow w.heap.size 120 2 l acc.length (flat acc)
  gb : w.grownBy W (some b)
theorem RowAt.call {w W W' : World} {b : Nat} {s : ByteArray} {j j' : Nat} {bad bad' : Int} {l : Value} {acc : List (Int × Int)} (h : RowAt w W b s j bad l acc) (hb : b < w.heap.size) (hp : PenAt W' b s j' bad') (hg : W.grownBy W' (some b)) : RowAt w W' b s j' bad' l acc :=
  ⟨hp, h.row.kept hg (Or.inr (fun e => by have := h.row.lt b e; omega)), gb_trans h.gb hg⟩
theorem RowAt.alloc {w W : World} {b : Nat} {s : ByteArray} {j : Nat} {bad : Int} {l : Value} {acc : List (Int × Int)} (h : RowAt w W b s j bad l acc) (o : Obj) : RowAt w (W.alloc o) b s j bad l acc :=
  ⟨h.pen.alloc _, h.row.alloc _, gb_trans h.gb (gb_alloc _ _ _)⟩
theorem RowAt.app {w W W' : World} {b : Nat} {s : ByteArray} {j : Nat} {bad x y : Int} {l v' : Value} {acc : List (Int × Int)} (h : RowAt w W b s j bad l acc) (hb : b < w.heap.size) (hg : W.grownBy W' l.ownBlock)
    (hown : W'.ownsRow w.heap.size 120 2 v' (acc.length + 1) (flat acc ++ [.int .i64 x, .int .i64 y])) : RowAt w W' b s j bad v' (acc ++ [(x, y)]) :=
  ⟨h.pen.kept hg (fun e => by have := h.row.lt b e; omega), by rw [List.length_append]; simpa [flat] using hown, gb_app h.gb hg (fun c hc => (h.row.lt c hc).1)⟩

theorem cell_two_at (w : World) (o : Obj) (x y : Value) (t : TypeId) : ∀ j u, [x, y][j]? = some u → ((w.alloc o).alloc (.cells #[x, y] t)).cell? ((⟨w.heap.size + 1, 0, none⟩ : Addr).add j) = some u := by
  have := cell_two_new (w.alloc o) x y t
  simpa using this

def boolOf : Value → Bool | .bool a => a | _ => false
def idxOf (b : Nat) (w : World) : Nat := match w.cell? ⟨b, 1, none⟩ with | some (.int _ q) => q.toNat | _ => 0
def rowM (n b : Nat) (ag : Value) (w : World) : Nat := if boolOf ag = true then n + 2 - idxOf b w else 0
theorem rowM_true {n b : Nat} {w : World} {s : ByteArray} {j : Nat} {bad : Int} (h : PenAt w b s j bad) : rowM n b (.bool true) w = n + 2 - j := by
  simp [rowM, boolOf, idxOf, h.c1]
theorem rowM_false {n b : Nat} {w : World} : rowM n b (.bool false) w = 0 := by simp [rowM, boolOf]

set_option maxRecDepth 100000 in
set_option maxHeartbeats 4000000 in
theorem row_any (b : Nat) (s : ByteArray) (i : Nat) (bad : Int) (w : World) (h : PenAt w b s i bad) (hs : s.size < 1000) (hin : i ≤ s.size) :
    Calls Tryz.prog 88 #[.pointer (some ⟨b, 0, none⟩)] w fun e w' => ∃ l, e = .returned l ∧ RowAt w w' b s (rowF s (s.size + 1) i bad).2.1 (rowF s (s.size + 1) i bad).2.2 l (rowF s (s.size + 1) i bad).1 := by
  obtain ⟨i0, hi, hz0, hz1, hz2⟩ := info_parts info69
  have lb := h.lt
  obtain ⟨F, hF⟩ : ∃ F, rowF s (s.size + 1) i bad = F := ⟨_, rfl⟩
  rw [hF]
  have HF := hide hF
  clear hF
  go_enter Tryz.func88, Tryz.ntmps88
  go_wp2_with fail
  go_loopw [3, 4] (fun l ag wr => ∃ A : Bool, ag = .bool A ∧ Hid (∃ (j : Nat) (bd : Int) (acc : List (Int × Int)) (n : Nat), RowAt w wr b s j bd l acc ∧ (A = true → F = (acc ++ (rowF s n j bd).1, (rowF s n j bd).2) ∧ s.size < j + n ∧ j ≤ s.size ∧ acc.length ≤ 2 * j) ∧ (A = false → F = (acc, j, bd)))) (fun _ ag wr => rowM s.size b ag wr)
  case atStart => exact ⟨true, rfl, i, bad, [], s.size + 1, ⟨h, World.ownsRow_nil _ _ _ _, gb_refl _ _⟩, fun _ => ⟨by rw [HF.out]; rfl, by omega, hin, by simp⟩, fun e => by cases e⟩
  case round =>
    obtain ⟨A, rfl, hr⟩ := hrel
    obtain ⟨j, bd, acc, n, r0, hT, hFa⟩ := hr.out
    cases A with
    | false =>
      have hFe := hFa rfl
      have HFe := hide hFe
      clear hFe hFa hT hr
      go_wp2
      go_ret
      refine ⟨_, rfl, ?_⟩
      rw [HFe.out]
      exact r0
    | true =>
      obtain ⟨hFe, hn, hjs, hal⟩ := hT rfl
      obtain ⟨m, rfl⟩ : ∃ m, n = m + 1 := ⟨n - 1, by omega⟩
      have HFe := hide hFe
      clear hFe hFa hT hr
      have hple := pointE_le s j bd
      have P0 := hide (rowM_true (n := s.size) r0.pen)
      obtain ⟨X, hX⟩ : ∃ X, numP s j bd = X := ⟨_, rfl⟩
      obtain ⟨Mu, hMu⟩ : ∃ Mu, mustS s X.2 44 = Mu := ⟨_, rfl⟩
      obtain ⟨Y, hY⟩ : ∃ Y, numP s Mu.1 Mu.2 = Y := ⟨_, rfl⟩
      have hE : pointE s j bd = Y.2 := by simp only [pointE, hX, hMu, hY]
      have hL : pointL s j bd = [(X.1, (j : Int)), (Y.1, (Mu.1 : Int))] := by simp only [pointL, hX, hMu, hY]
      rw [hE] at hple
      have k1 := fun W hp => number_any b s j bd W hp (by omega)
      have k2 := fun W hp => must_any b s X.2.1 X.2.2 44 W hp (by decide) (by omega)
      have k3 := fun W hp => number_any b s Mu.1 Mu.2 W hp (by omega)
      have k4 := fun W hp => got_any b s Y.2.1 Y.2.2 32 W hp (by decide) (by omega)
      rw [hX] at k1
      have hMu1 : gotI s X.2.1 X.2.2 44 = Mu.1 := by rw [← hMu]; rfl
      have hMu2 : mustB s X.2.1 X.2.2 44 = Mu.2 := by rw [← hMu]; rfl
      rw [hMu1, hMu2] at k2
      rw [hY] at k3
      have K1 := hide k1
      have K2 := hide k2
      have K3 := hide k3
      have K4 := hide k4
      have HE := hide hE
      have HL := hide hL
      clear k1 k2 k3 k4 hX hMu hY hMu1 hMu2 hE hL
      go_wp2_with fail
      refine (K1.out _ r0.pen).mono ?_
      rintro e w1 ⟨rfl, h1, g1⟩
      have r1 := (r0.call lb h1 g1).alloc (.cells #[.int .i64 X.1, .int .i64 j] 120)
      have x1 : BoxN (w1.alloc (.cells #[.int .i64 X.1, .int .i64 j] 120)) w1.heap.size X.1 j := by constructor <;> simp [go_sem]
      have l1 : b < w1.heap.size := h1.lt
      clear r0 h1 g1
      go_wp2_with fail
      refine (K2.out _ r1.pen).mono ?_
      rintro e w2 ⟨rfl, h2, g2⟩
      have r2 := r1.call lb h2 g2
      have x2 := x1.kept g2 (by simp; omega)
      clear r1 x1 h2 g2
      go_wp2_with fail
      refine (K3.out _ r2.pen).mono ?_
      rintro e w3 ⟨rfl, h3, g3⟩
      have hlo : ∀ c, u3.ownBlock = some c → c < w3.heap.size := fun c hc => ((r2.call lb h3 g3).row.lt c hc).2
      have r3 := (r2.call lb h3 g3).alloc (.cells #[.int .i64 Y.1, .int .i64 Mu.1] 120)
      have x3 := (x2.kept g3 (by simp; omega)).kept (gb_alloc w3 (.cells #[.int .i64 Y.1, .int .i64 Mu.1] 120) none) (by simp)
      have y3 : BoxN (w3.alloc (.cells #[.int .i64 Y.1, .int .i64 Mu.1] 120)) w3.heap.size Y.1 Mu.1 := by constructor <;> simp [go_sem]
      clear r2 x2 h3 g3
      obtain ⟨xc0, xc1, _, _⟩ := id x3
      obtain ⟨yc0, yc1, _, _⟩ := id y3
      go_wp2_with (at_builtin; refine wpList_append_own_at _ rfl _ _ 118 rfl w.heap.size 120 i0 (.agg #[.int .i64 0, .int .i64 0]) 2 16 Tryz.underlying118 hi hz0 hz1 hz2 rfl (by decide) _ _ _ rfl (r3.row.alloc _) ⟨w3.heap.size + 1, 0, none⟩ 1 1 [.int .i64 X.1, .int .i64 j] rfl rfl (cell_two_at _ _ _ _ _) (one2 _ _) (by unfold maxLen; omega) (by omega) ?_ ?_)
      · have := r3.gb.size; simp at this ⊢; omega
      intro v1 w4 hown1 hgrow1 hne1 hob1
      have r4 := (r3.alloc (.cells #[.int .i64 X.1, .int .i64 j] 120)).app lb hgrow1 hown1
      have y4 := (y3.kept (gb_alloc _ (.cells #[.int .i64 X.1, .int .i64 j] 120) none) (by simp)).kept hgrow1 (fun e => by have := hlo _ e; omega)
      clear r3 x3 y3 xc0 xc1 yc0 yc1 hown1 hgrow1 hne1 hob1 hlo
      obtain ⟨yc0, yc1, _, _⟩ := id y4
      go_wp2_with (at_builtin; refine wpList_append_own_at _ rfl _ _ 118 rfl w.heap.size 120 i0 (.agg #[.int .i64 0, .int .i64 0]) 2 16 Tryz.underlying118 hi hz0 hz1 hz2 rfl (by decide) _ _ _ rfl (r4.row.alloc _) ⟨w4.heap.size, 0, none⟩ 1 1 [.int .i64 Y.1, .int .i64 Mu.1] rfl rfl (cell_two_new _ _ _ _) (one2 _ _) (by unfold maxLen; simp; omega) (by simp; omega) ?_ ?_)
      · have := r4.gb.size; simp; omega
      intro v2 w5 hown2 hgrow2 hne2 hob2
      have r5 := (r4.alloc (.cells #[.int .i64 Y.1, .int .i64 Mu.1] 120)).app lb hgrow2 (by rw [List.length_append]; exact hown2)
      clear r4 y4 yc0 yc1 hown2 hgrow2 hne2 hob2
      go_wp2_with fail
      refine (K4.out _ r5.pen).mono ?_
      rintro e w6 ⟨rfl, h6, g6⟩
      have r6 := r5.call lb h6 g6
      have hstep : Hid (∃ (j' : Nat) (bd' : Int) (acc' : List (Int × Int)) (n' : Nat), RowAt w w6 b s j' bd' v2 acc' ∧ (onP s Y.2.1 Y.2.2 32 = true → F = (acc' ++ (rowF s n' j' bd').1, (rowF s n' j' bd').2) ∧ s.size < j' + n' ∧ j' ≤ s.size ∧ acc'.length ≤ 2 * j') ∧ (onP s Y.2.1 Y.2.2 32 = false → F = (acc', j', bd'))) := by
        refine ⟨_, _, _, m, r6, fun ho => ?_, fun ho => ?_⟩
        · have hlt := onP_in ho (by decide)
          have hg : gotI s Y.2.1 Y.2.2 32 = Y.2.1 + 1 := by rw [gotI, ho]; rfl
          rw [hg]
          refine ⟨?_, by omega, by omega, by simp; omega⟩
          rw [HFe.out, rowF]
          simp only [HE.out, ho, if_true, HL.out]
          simp
        · have hg : gotI s Y.2.1 Y.2.2 32 = Y.2.1 := by rw [gotI, ho]; rfl
          rw [hg, HFe.out, rowF]
          simp [HE.out, ho, HL.out]
      have hmeas : Hid (rowM s.size b (.bool (onP s Y.2.1 Y.2.2 32)) w6 < s.size + 2 - j) := by
        cases ho : onP s Y.2.1 Y.2.2 32 with
        | false => show rowM _ _ _ _ < _; rw [rowM_false]; omega
        | true =>
          have hlt := onP_in ho (by decide)
          have hg : gotI s Y.2.1 Y.2.2 32 = Y.2.1 + 1 := by rw [gotI, ho]; rfl
          show rowM _ _ _ _ < _
          rw [rowM_true h6, hg]
          omega
      clear r5 r6 h6 g6 K1 K2 K3 K4 HE HL
      generalize onP s Y.2.1 Y.2.2 32 = D at *
      go_wp2
      go_roundw
      case rel => exact ⟨D, rfl, hstep⟩
      case measure =>
        have e1 := hmeas.out
        have e2 := P0.out
        rw [← e2] at e1
        exact e1

end Go.Proofs.YtkjlkbgdkdcboaaGreat
