import Derived.Test.YtkjlkbgdkdcboaaRows
import Derived.WalkKit
import Derived.ProofKit
import Derived.OpenShut
import Derived.Lib.SmallJoins
namespace Go.Proofs.Ytkjlkbgdkdcboaa
open Go.ChangeShapes Go.WideShapes Go.ChangeAt Go.RowKit Go.Joins

theorem own : ownKnob Try.prog.godebug = none := by kernel_rfl
theorem fcells3 : Try.prog.cellsOf 3 = 1 := by kernel_rfl
theorem fcells28 : Try.prog.cellsOf 28 = 2 := by kernel_rfl
theorem fcells46 : Try.prog.cellsOf 46 = 4 := by kernel_rfl

/-- a point, as it is read -/
def ptD {H : Type} (x y : Int) : DataW H := .agg [.lit (.int .i64 x), .lit (.int .i64 y)]
/-- an edge, as it is read -/
def edD {H : Type} (x y u v : Int) : DataW H := .agg [ptD x y, ptD u v]
abbrev edV (x y u v : Int) : Value := .agg #[.int .i64 x, .int .i64 y, .int .i64 u, .int .i64 v]

theorem open_pt {H : Type} {enc : TypeId × Value → H} {W : World} {base : Nat} {sp : Nat → Bool} {held : Bool} {m : Nat} {c0 c1 : Value} {x : DataW H × List MemPlace} (h : DataW.trod enc Try.prog W base sp held m 28 [c0, c1] = some x) :
    ∃ a b, c0 = .int .i64 a ∧ c1 = .int .i64 b ∧ x = (ptD a b, []) ∧ (Lit.int .i64 a).wf = true ∧ (Lit.int .i64 b).wf = true := by
  obtain ⟨y0, y1, n, rfl, _, h0, h1⟩ := trod_struct2 Try.underlying28 h
  dsimp only at h0 h1
  rw [fcells3] at h0 h1
  obtain ⟨a, e0, rfl, wa⟩ := DataW.trod_int Try.underlying3 h0
  obtain ⟨b, e1, rfl, wb⟩ := DataW.trod_int Try.underlying3 h1
  simp at e0 e1
  exact ⟨a, b, e0, e1, rfl, wa, wb⟩

set_option maxRecDepth 100000 in
theorem open_ed {H : Type} {enc : TypeId × Value → H} {W : World} {base b0 : Nat} {sp : Nat → Bool} {held : Bool} {r : Reach} {v : Value} {d : DataW H} {p : List MemPlace}
    (hv : Value.okWide Try.prog W r b0 46 v) (h : DataW.Trod enc Try.prog W base sp held 46 v d p) :
    ∃ x y u t, v = edV x y u t ∧ d = edD x y u t ∧ p = [] ∧ (Lit.int .i64 x).wf = true ∧ (Lit.int .i64 y).wf = true ∧ (Lit.int .i64 u).wf = true ∧ (Lit.int .i64 t).wf = true := by
  simp only [Value.okWide, Try.underlying46] at hv
  obtain ⟨cs, rfl, hsz, _⟩ := hv
  obtain ⟨c0, c1, c2, c3, rfl⟩ := array4 (hsz.trans fcells46)
  obtain ⟨fuel, hf⟩ := h
  obtain ⟨xs, m, _, hx, _, hlen, hi⟩ := DataW.trod_array Try.underlying46 hf
  match xs, hlen with
  | [z0, z1], _ =>
    have h0 := hi 0 (by omega)
    have h1 := hi 1 (by omega)
    simp only [fcells28] at h0 h1
    simp [Value.cells] at h0 h1
    obtain ⟨a, b, rfl, rfl, rfl, wa, wb⟩ := open_pt h0
    obtain ⟨e, f, rfl, rfl, rfl, we, wf⟩ := open_pt h1
    simp at hx
    exact ⟨a, b, e, f, rfl, hx.1, hx.2, wa, wb, we, wf⟩

set_option maxRecDepth 100000 in
theorem shut_ed {H : Type} {enc : TypeId × Value → H} {W : World} {base : Nat} {sp : Nat → Bool} {held : Bool} {x y u t : Int} (wx : (Lit.int .i64 x).wf = true) (wy : (Lit.int .i64 y).wf = true) (wu : (Lit.int .i64 u).wf = true) (wt : (Lit.int .i64 t).wf = true) :
    DataW.Trod enc Try.prog W base sp held 46 (edV x y u t) (edD x y u t) [] := by
  refine ⟨3, ?_⟩
  simp [DataW.trod, Try.underlying46, Try.underlying28, Try.underlying3, fcells46, fcells28, fcells3, Value.cells, wx, wy, wu, wt, edD, ptD, List.range, List.range.loop]

end Go.Proofs.Ytkjlkbgdkdcboaa
