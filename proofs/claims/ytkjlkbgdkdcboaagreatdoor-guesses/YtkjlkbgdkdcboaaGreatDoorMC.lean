import Derived.Test.YtkjlkbgdkdcboaaGreatDoorProg
import Derived.Test.YtkjlkbgdkdcboaaGreatDoorWaA
import Derived.Test.YtkjlkbgdkdcboaaGreatDoorMaA
import Derived.WalkKit
import Derived.ProofKit
import Derived.WideKeyEntry
import Derived.Maps.OwnSet
import Derived.Maps.RangeWalk
import Derived.BigRegion
import Derived.Lib.SmallJoins
import Derived.Deep.DeepCutAuto
import Derived.Laws.AppendOwn
import Derived.WalkSmall
import Derived.Maps.AppendAt
import Derived.Deep.AppendLies
import Derived.OwnWalk

set_option linter.unusedSimpArgs false
set_option linter.unusedVariables false

set_option linter.unusedSimpArgs false
set_option linter.unusedVariables false
namespace Go.Proofs.YtkjlkbgdkdcboaaGreatDoor
open Go.RowKit Go.Maps Go.WideElems Go.ChangeMaps
open Go.WideMaps (KeyLaw)
theorem laidOut : laidOutB Tryz.prog = true := by kernel_rfl
theorem lawEd : KeyLaw Tryz.prog 42 := deep_law_laid laidOut (m := 3) (by omega) (of_decide_eq_true (by kernel_rfl)) (by kernel_rfl) (by kernel_rfl)
section
variable {P : Program} {w : World} {t k e : TypeId} {b n : Nat} {D : DataW Unit}
end
theorem types_big : 99 < Tryz.prog.types.size := of_decide_eq_true (by kernel_rfl)
theorem cells28 : Tryz.prog.cellsOf 40 = 2 := by kernel_rfl
theorem cells3 : Tryz.prog.cellsOf 3 = 1 := by kernel_rfl
theorem cells46 : Tryz.prog.cellsOf 42 = 4 := by kernel_rfl
def kp (x y : Int) : Lit := .string (keyBytes [.int .i64 x, .int .i64 y])
def ke (x y u v : Int) : Lit := .string (keyBytes [.int .i64 x, .int .i64 y, .int .i64 u, .int .i64 v])
theorem key_ed {x y u v : Int} (hx : (Lit.int .i64 x).wf = true) (hy : (Lit.int .i64 y).wf = true) (hu : (Lit.int .i64 u).wf = true) (hv : (Lit.int .i64 v).wf = true) :
    keyOf Tryz.prog 42 (.agg #[.int .i64 x, .int .i64 y, .int .i64 u, .int .i64 v]) = some (ke x y u v) := by
  have k46 : Tryz.prog.keyType 42 = true := by kernel_rfl
  have f46 : (Value.agg #[Value.int .i64 x, .int .i64 y, .int .i64 u, .int .i64 v]).formed Tryz.prog 42 = true := by simp [Value.formed, Tryz.underlying42, cells46]
  obtain ⟨m, hm⟩ : ∃ m, Tryz.prog.types.size = m + 1 + 1 := ⟨Tryz.prog.types.size - 2, by have := types_big; omega⟩
  unfold keyOf
  rw [Tryz.underlying42, k46, f46, hm]
  have e : Tryz.prog.keyLits (m + 1 + 1 + 1) 42 [Value.int .i64 x, .int .i64 y, .int .i64 u, .int .i64 v] = some [.int .i64 x, .int .i64 y, .int .i64 u, .int .i64 v] := by
    simp [Program.keyLits, Tryz.underlying42, Tryz.underlying40, Tryz.underlying3, hx, hy, hu, hv, cells28, cells3, cells46, List.range, List.range.loop]
  simp only [Value.cells, Bool.and_self, if_true, e, Option.map_some, ke]
end Go.Proofs.YtkjlkbgdkdcboaaGreatDoor
namespace Go.Proofs.YtkjlkbgdkdcboaaGreatDoor
open Go.RowKit Go.Maps
attribute [local go_sem ↓] Go.wp_at_zero Go.wp_at_succ
def keE (e : Acre.Ed) : Lit := ke e.1.1 e.1.2 e.2.1 e.2.2
def SmE (e : Acre.Ed) : Prop := (Sm e.1.1 ∧ Sm e.1.2) ∧ (Sm e.2.1 ∧ Sm e.2.2)
theorem wf_s (n : Int) (h : Sm n) : (Lit.int .i64 n).wf = true := WalkArith.wf_i64 (by omega)
theorem flatE_get (p : List Acre.Ed) (k : Nat) (h : k < p.length) : (flatE p)[k * 4]? = some (.int .i64 p[k].1.1) ∧ (flatE p)[k * 4 + 1]? = some (.int .i64 p[k].1.2) ∧ (flatE p)[k * 4 + 1 + 1]? = some (.int .i64 p[k].2.1) ∧ (flatE p)[k * 4 + 1 + 1 + 1]? = some (.int .i64 p[k].2.2) := by
  induction p generalizing k with
  | nil => simp at h
  | cons a r ih =>
    cases k with
    | zero => simp [flatE]
    | succ k =>
      have := ih k (by simpa using h)
      have e1 : (k + 1) * 4 = k * 4 + 1 + 1 + 1 + 1 := by omega
      simp only [flatE, List.flatMap_cons] at *
      rw [e1]
      simpa using this
theorem rowE_cells {w : World} {base g cap : Nat} {t : TypeId} {ps : List Acre.Ed} (h : w.ownsRow base t 4 (.slice (some ⟨g, 0, none⟩) ps.length cap) ps.length (flatE ps)) (k : Nat) (hk : k < ps.length) :
    w.cell? ⟨g, k * 4, none⟩ = some (.int .i64 ps[k].1.1) ∧ w.cell? ⟨g, k * 4 + 1, none⟩ = some (.int .i64 ps[k].1.2) ∧ w.cell? ⟨g, k * 4 + 1 + 1, none⟩ = some (.int .i64 ps[k].2.1) ∧ w.cell? ⟨g, k * 4 + 1 + 1 + 1, none⟩ = some (.int .i64 ps[k].2.2) := by
  obtain ⟨e1, e2, e3, e4⟩ := flatE_get ps k hk
  exact ⟨(h.cellAt _ (by omega)).trans e1, (h.cellAt _ (by omega)).trans e2, (h.cellAt _ (by omega)).trans e3, (h.cellAt _ (by omega)).trans e4⟩
theorem rowE_form {w : World} {base n size : Nat} {t : TypeId} {v : Value} {xs : List Value} (h : w.ownsRow base t size v n xs) : ∃ ga g cap, v = .slice ga n cap ∧ (0 < n → ga = some ⟨g, 0, none⟩) := by
  rcases h.2 with ⟨rfl, rfl⟩ | ⟨g, cap, cur, rfl, _⟩
  · exact ⟨none, 0, 0, rfl, by simp⟩
  · exact ⟨_, g, cap, rfl, fun _ => rfl⟩
end Go.Proofs.YtkjlkbgdkdcboaaGreatDoor

set_option linter.unusedSimpArgs false
set_option linter.unusedVariables false
namespace Go.Proofs.YtkjlkbgdkdcboaaGreatDoor
open Go.RowKit Go.Maps
attribute [local go_sem ↓] Go.wp_at_zero Go.wp_at_succ
theorem info51 : (Tryz.prog.info? 84).map (fun i => (i.zero, i.size, i.bytes)) = some (some (.agg #[.int .i64 0, .int .i64 0]), 2, 16) := by kernel_rfl
def flat (ps : List Acre.Pt) : List Value := ps.flatMap fun p => [.int .i64 p.1, .int .i64 p.2]
structure E2 (B : Nat) (a b c d e f g h : Int) (w : World) : Prop where
  l0 : B < w.heap.size
  l1 : B + 1 < w.heap.size
  c0 : w.cell? ⟨B, 0, none⟩ = some (.int .i64 a)
  c1 : w.cell? ⟨B, 1, none⟩ = some (.int .i64 b)
  c2 : w.cell? ⟨B, 2, none⟩ = some (.int .i64 c)
  c3 : w.cell? ⟨B, 3, none⟩ = some (.int .i64 d)
  d0 : w.cell? ⟨B + 1, 0, none⟩ = some (.int .i64 e)
  d1 : w.cell? ⟨B + 1, 1, none⟩ = some (.int .i64 f)
  d2 : w.cell? ⟨B + 1, 2, none⟩ = some (.int .i64 g)
  d3 : w.cell? ⟨B + 1, 3, none⟩ = some (.int .i64 h)
theorem row_call {w w' : World} {base size n : Nat} {t : TypeId} {v : Value} {xs : List Value} (h : w.ownsRow base t size v n xs) (hb : Below w.heap.size w w') : w'.ownsRow base t size v n xs :=
  h.kept (row := none) ⟨hb.os, hb.tape, hb.output, hb.size, fun i hi _ => hb.block i hi⟩ (by cases v.ownBlock <;> simp)
theorem one2 (x y : Int) : ∀ u ∈ [Value.int .i64 x, .int .i64 y], u.oneCell' = true := by
  intro u hu; simp at hu; rcases hu with rfl | rfl <;> rfl
end Go.Proofs.YtkjlkbgdkdcboaaGreatDoor
namespace Go.Proofs.YtkjlkbgdkdcboaaGreatDoor
open Go.RowKit
attribute [local go_sem ↓] Go.wp_at_zero Go.wp_at_succ
theorem info66 : (Tryz.prog.info? 80).map (fun i => (i.zero, i.size, i.bytes)) = some (some (.slice none 0 0), 1, 24) := by kernel_rfl
theorem flat_app (p q : List Acre.Pt) : flat (p ++ q) = flat p ++ flat q := by simp [flat]
theorem flat_at (p : List Acre.Pt) (k : Nat) (h : k < p.length) : (flat p)[k * 2]? = some (.int .i64 p[k].1) ∧ (flat p)[k * 2 + 1]? = some (.int .i64 p[k].2) := by
  induction p generalizing k with
  | nil => simp at h
  | cons a r ih =>
    cases k with
    | zero => simp [flat]
    | succ k =>
      have := ih k (by simpa using h)
      have e1 : (k + 1) * 2 = k * 2 + 1 + 1 := by omega
      simp only [flat, List.flatMap_cons] at *
      rw [e1]
      simpa using this
def RingC (w : World) (l : Value) (s : Value) (ps : List Acre.Pt) : Prop :=
  ∃ ga b off cap, s = .slice ga ps.length cap ∧ (0 < ps.length → ga = some ⟨b, off, none⟩ ∧ b < w.heap.size ∧ l.ownBlock ≠ some b) ∧ PtsAt w b off ps
theorem RingC.below {w w' : World} {l s : Value} {ps : List Acre.Pt} (h : RingC w l s ps) (hb : Below w.heap.size w w') : RingC w' l s ps := by
  obtain ⟨ga, b, off, cap, h1, h2, h3⟩ := h
  exact ⟨ga, b, off, cap, h1, fun k => ⟨(h2 k).1, Nat.lt_of_lt_of_le (h2 k).2.1 hb.size, (h2 k).2.2⟩, h3.later hb⟩
theorem RingC.append {w w' : World} {l l' s : Value} {ps : List Acre.Pt} {H : Nat} (h : RingC w l s ps) (hg : w.grownBy w' l.ownBlock) (hl : l'.ownBlock = l.ownBlock ∨ l'.ownBlock = some H) (hH : w.heap.size ≤ H) : RingC w' l' s ps := by
  obtain ⟨ga, b, off, cap, h1, h2, h3⟩ := h
  refine ⟨ga, b, off, cap, h1, fun k => ?_, fun k hk => ?_⟩
  · obtain ⟨e1, e2, e3⟩ := h2 k
    refine ⟨e1, Nat.lt_of_lt_of_le e2 hg.size, ?_⟩
    rcases hl with e | e
    · rw [e]; exact e3
    · rw [e]; intro e'; simp at e'; omega
  · obtain ⟨e1, e2, e3⟩ := h2 (by omega)
    have c := h3 k hk
    exact ⟨hg.cell c.1 (fun e => e3 e.symm), hg.cell c.2 (fun e => e3 e.symm)⟩
theorem RingC.ring {w : World} {l s : Value} {ps : List Acre.Pt} (h : RingC w l s ps) : Ring w s ps := by
  obtain ⟨ga, b, off, cap, h1, h2, h3⟩ := h
  exact ⟨ga, b, off, cap, h1, fun k => ⟨(h2 k).1, (h2 k).2.1⟩, h3⟩
theorem RingC.row {w : World} {l v : Value} {H : Nat} {t : TypeId} {ps : List Acre.Pt} (h : w.ownsRow H t 2 v ps.length (flat ps)) (hl : ∀ c, l.ownBlock = some c → c < H) : RingC w l v ps := by
  rcases h.2 with ⟨rfl, h0⟩ | ⟨g, cap, cur, rfl, hHg, hgg, _⟩
  · refine ⟨none, 0, 0, 0, by rw [h0], fun k => absurd k (by omega), fun k hk => absurd hk (by omega)⟩
  · refine ⟨_, g, 0, cap, rfl, fun _ => ⟨rfl, (Array.getElem?_eq_some_iff.1 hgg).1, fun e => by have := hl g e; omega⟩, fun k hk => ?_⟩
    obtain ⟨e1, e2⟩ := flat_at ps k hk
    simp only [Nat.zero_add]
    exact ⟨(h.cellAt _ (by omega)).trans e1, (h.cellAt _ (by omega)).trans e2⟩
def Copied (w : World) (base : Nat) (l : Value) (R : List (List Acre.Pt)) : Prop :=
  ∃ vs : List Value, vs.length = R.length ∧ (∀ u ∈ vs, u.oneCell' = true) ∧ w.ownsRow base 80 1 l R.length vs ∧ ∀ i (h : i < R.length) (h' : i < vs.length), RingC w l vs[i] R[i]
theorem Copied.rings {w : World} {base : Nat} {l : Value} {R : List (List Acre.Pt)} (h : Copied w base l R) : Rings w l R := by
  obtain ⟨vs, h1, _, h2, h3⟩ := h
  rcases h2.2 with ⟨rfl, h0⟩ | ⟨g, cap, cur, rfl, _⟩
  · exact ⟨none, 0, 0, 0, by rw [h0], fun k => absurd k (by omega), fun i hi => absurd hi (by omega)⟩
  · refine ⟨_, g, 0, cap, rfl, fun _ => rfl, fun i hi => ⟨vs[i], ?_, (h3 i hi (by omega)).ring⟩⟩
    rw [Nat.zero_add]
    exact (h2.cellAt i (by omega)).trans (List.getElem?_eq_getElem (by omega))
end Go.Proofs.YtkjlkbgdkdcboaaGreatDoor
