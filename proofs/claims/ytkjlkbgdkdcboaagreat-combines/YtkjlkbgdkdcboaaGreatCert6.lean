import Derived.Test.YtkjlkbgdkdcboaaGreatCeB
import Derived.Test.YtkjlkbgdkdcboaaGreatSlA

set_option linter.unusedSimpArgs false
set_option linter.unusedVariables false

set_option linter.unusedSimpArgs false
set_option linter.unusedVariables false

namespace Go.Proofs.YtkjlkbgdkdcboaaGreat
open Go.RowKit Go.Maps
attribute [local go_sem ↓] Go.wp_at_zero Go.wp_at_succ

/-- a fraction that a certificate may have -/
def within (f : Acre.Fc) : Bool := (decide (1 ≤ f.2) && decide (f.2 ≤ 1152)) && ((decide (-(12 * f.2) ≤ f.1) && decide (f.1 ≤ 12 * f.2)) && Acre.g f.1 f.2 == 1)
set_option maxHeartbeats 400000 in
theorem isWithin_any (N D : Int) (w : World) :
    Calls Tryz.prog 40 #[.agg #[.int .i64 N, .int .i64 D], .int .i64 12] w fun e w' => e = .returned (.bool (within (N, D))) ∧ Below w.heap.size w w' := by
  unfold within
  dsimp only
  by_cases h1 : D < 1
  · go_enter Tryz.func40, Tryz.ntmps40
    go_wp2
    go_ret
    exact ⟨ret_bool (by rw [decide_eq_false (show ¬ 1 ≤ D by omega)]; rfl), below1 _ _⟩
  · by_cases h2 : 1152 < D
    · go_enter Tryz.func40, Tryz.ntmps40
      go_wp2
      go_ret
      exact ⟨ret_bool (by rw [decide_eq_false (show ¬ D ≤ 1152 by omega)]; simp), below1 _ _⟩
    · have e1 : decide (1 ≤ D) = true := by simp; omega
      have e2 : decide (D ≤ 1152) = true := by simp; omega
      rw [e1, e2]
      by_cases h3 : -(12 * D) ≤ N
      · by_cases h4 : N ≤ 12 * D
        · go_enter Tryz.func40, Tryz.ntmps40
          go_wp2_with fail
          refine (gcd_any _ _ _ (by omega) (by omega)).mono ?_
          rintro e w1 ⟨rfl, hb1⟩
          go_wp2
          go_ret
          exact ⟨ret_bool (by simp; omega), below_call hb1 (below1 _ _)⟩
        · go_enter Tryz.func40, Tryz.ntmps40
          go_wp2
          go_ret
          exact ⟨ret_bool (by simp; omega), below1 _ _⟩
      · go_enter Tryz.func40, Tryz.ntmps40
        go_wp2
        go_ret
        exact ⟨ret_bool (by simp; omega), below1 _ _⟩
theorem within_ok {f : Acre.Fc} (h : within f = true) : CutOk f := by
  unfold within at h
  simp only [Bool.and_eq_true, decide_eq_true_eq, beq_iff_eq] at h
  obtain ⟨⟨h1, h2⟩, ⟨h3, h4⟩, h5⟩ := h
  have hp : 0 < f.2 := by omega
  refine ⟨⟨⟨hp, h5⟩, ?_, ?_⟩, h2⟩
  · exact (Acre.le_v (f := f) (a := -12) hp).1 (by omega)
  · exact (Acre.v_le (f := f) (a := 12) hp).1 (by omega)
theorem within_sm {f : Acre.Fc} (h : within f = true) : SmF f := by
  have := (within_ok h).n
  exact ⟨by omega, by omega⟩
/-- is there an edge of that number, not upright? -/
def isL (E : List Acre.Ed) (n : Int) : Bool := decide (n < E.length) && !Acre.upr (Acre.gd E n.toNat)

set_option maxRecDepth 100000 in
set_option maxHeartbeats 400000 in
theorem isLine_any (E : List Acre.Ed) (u : Value) (base B : Nat) (n : Int) (w : World) (hE : w.ownsRow base 37 4 u E.length (flatE E)) (hB : w.cell? ⟨B, 0, none⟩ = some u) (h0 : 0 ≤ n) (hEl : E.length ≤ 24) :
    Calls Tryz.prog 101 #[.int .i64 n, .pointer (some ⟨B, 0, none⟩)] w fun e w' => e = .returned (.bool (isL E n)) ∧ Below w.heap.size w w' := by
  obtain ⟨ga, gb, gcap, rfl, hga, hcap⟩ := row_form hE
  by_cases hn : n < E.length
  · obtain ⟨k, rfl⟩ : ∃ k : Nat, n = k := ⟨n.toNat, by omega⟩
    have hk : k < E.length := by omega
    obtain rfl := hga (by omega)
    obtain ⟨x0, x1, x2, x3⟩ := rowE_cells hE k hk
    have hgd : Acre.gd E k = E[k] := by unfold Acre.gd; simp [hk]
    have hr : isL E k = !Acre.upr E[k] := by unfold isL; simp [hgd, hn]
    rw [hr]
    have t1 : decide ((k : Int) < (E.length : Int)) = true := decide_eq_true hn
    obtain ⟨⟨⟨e0, e1⟩, ⟨e2, e3⟩⟩, he⟩ : ∃ e, E[k] = e := ⟨_, rfl⟩
    rw [he] at x0 x1 x2 x3 ⊢
    clear hr hgd he hE
    dsimp only at x0 x1 x2 x3
    go_enter Tryz.func101, Tryz.ntmps101
    go_wp2_with fail
    refine (isUpright_any ((e0, e1), (e2, e3)) w).mono ?_
    rintro e w1 ⟨rfl, hb1⟩
    go_wp2
    go_ret
    exact ⟨rfl, hb1⟩
  · have hr : isL E n = false := by unfold isL; simp; intro h; omega
    rw [hr]
    have t1 : decide (n < (E.length : Int)) = false := decide_eq_false hn
    go_enter Tryz.func101, Tryz.ntmps101
    go_wp2
    go_ret
    exact ⟨rfl, Below.refl _ _⟩

/-- the piece that is written -/
def pieceC (E : List Acre.Ed) (d : Dr) : Option Acre.Pc :=
  if within d.f = true ∧ within d.t = true ∧ Acre.ordF d.f d.t < 0 ∧ isL E d.lo = true ∧ isL E d.hi = true then some ((d.f, d.t), (Acre.gd E d.lo.toNat, Acre.gd E d.hi.toNat)) else none
def pcV (p : Acre.Pc) : Value := .agg (pcL p).toArray
structure PcPost (E : List Acre.Ed) (d : Dr) (w : World) (e : Ending) (w' : World) : Prop where
  bel : Below w.heap.size w w'
  out : (pieceC E d = none ∧ ∃ j, e = misfit j) ∨ (∃ p, pieceC E d = some p ∧ e = .returned (pcV p))

/-- while a piece is made -/
structure PIS (w V : World) (l : List Value) (u : Value) (z : List Value) : Prop where
  bd : Box V w.heap.size l
  be : Box V (w.heap.size + 1) [u]
  bz : Box V (w.heap.size + 1 + 1) z
  bel : Below w.heap.size w V
theorem PIS.later {w V V' : World} {l z : List Value} {u : Value} (h : PIS w V l u z) (hl : 0 < l.length) (hz : 0 < z.length) (hb : Below V.heap.size V V') : PIS w V' l u z :=
  ⟨h.bd.later hl hb, h.be.later (by simp) hb, h.bz.later hz hb, below_call hb h.bel⟩
theorem PIS.drew {w V : World} {l z : List Value} {u : Value} (h : PIS w V l u z) (hl : 0 < l.length) (hz : 0 < z.length) : PIS w V.drew l u z := h.later hl hz (Below.drew (Below.refl _ _))
/-- a way out by a panic -/
theorem PcPost.no {E : List Acre.Ed} {d : Dr} {w w' : World} {e : Ending} (hb : Below w.heap.size w w') (h : pieceC E d = none) (he : ∃ j, e = misfit j) : PcPost E d w e w' := ⟨hb, .inl ⟨h, he⟩⟩

end Go.Proofs.YtkjlkbgdkdcboaaGreat
