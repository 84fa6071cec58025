import Derived.Test.YtkjlkbgdkdcboaaGreatDoorWaA
import Derived.Test.YtkjlkbgdkdcboaaGreatDoorMaA
import Derived.Deep.DeepCutAuto
import Derived.Laws.AppendOwn
import Derived.WalkSmall
import Derived.Maps.AppendAt
import Derived.Deep.AppendLies
import Derived.OwnWalk

set_option linter.unusedSimpArgs false
set_option linter.unusedVariables false

set_option linter.unusedSimpArgs false
set_option linter.unusedVariables false

namespace Go.Proofs.YtkjlkbgdkdcboaaGreatDoor
open Go.RowKit Go.Maps
attribute [local go_sem ↓] Go.wp_at_zero Go.wp_at_succ

theorem info51 : (Tryz.prog.info? 84).map (fun i => (i.zero, i.size, i.bytes)) = some (some (.agg #[.int .i64 0, .int .i64 0]), 2, 16) := by kernel_rfl

/-- points as cells -/
def flat (ps : List Acre.Pt) : List Value := ps.flatMap fun p => [.int .i64 p.1, .int .i64 p.2]

/-- two edges in boxes -/
structure E2 (B : Nat) (a b c d e f g h : Int) (w : World) : Prop where
  l0 : B < w.heap.size
  l1 : B + 1 < w.heap.size
  c0 : w.cell? ⟨B, 0, none⟩ = some (.int .i64 a)
  c1 : w.cell? ⟨B, 1, none⟩ = some (.int .i64 b)
  c2 : w.cell? ⟨B, 2, none⟩ = some (.int .i64 c)
  c3 : w.cell? ⟨B, 3, none⟩ = some (.int .i64 d)
  d0 : w.cell? ⟨B + 1, 0, none⟩ = some (.int .i64 e)
  d1 : w.cell? ⟨B + 1, 1, none⟩ = some (.int .i64 f)
  d2 : w.cell? ⟨B + 1, 2, none⟩ = some (.int .i64 g)
  d3 : w.cell? ⟨B + 1, 3, none⟩ = some (.int .i64 h)
theorem E2.low {B : Nat} {a b c d e f g h : Int} {w w' : World} (m : E2 B a b c d e f g h w) (hb : Below (B + 1 + 1) w w') : E2 B a b c d e f g h w' := by
  have cl : ∀ {a : Addr} {v : Value}, a.block < B + 1 + 1 → w.cell? a = some v → w'.cell? a = some v := fun h1 h2 => (hb.cell h1).trans h2
  exact ⟨Nat.lt_of_lt_of_le m.l0 hb.size, Nat.lt_of_lt_of_le m.l1 hb.size, cl (by dsimp only; omega) m.c0, cl (by dsimp only; omega) m.c1, cl (by dsimp only; omega) m.c2, cl (by dsimp only; omega) m.c3, cl (by dsimp only; omega) m.d0, cl (by dsimp only; omega) m.d1, cl (by dsimp only; omega) m.d2, cl (by dsimp only; omega) m.d3⟩
theorem E2.later {B : Nat} {a b c d e f g h : Int} {w w' : World} (m : E2 B a b c d e f g h w) (hb : Below w.heap.size w w') : E2 B a b c d e f g h w' := m.low (hb.mono m.l1)
theorem E2.start (w : World) (a b c d e f g h : Int) (t1 t2 : TypeId) :
    E2 w.heap.size a b c d e f g h ((w.alloc (.cells #[.int .i64 a, .int .i64 b, .int .i64 c, .int .i64 d] t1)).alloc (.cells #[.int .i64 e, .int .i64 f, .int .i64 g, .int .i64 h] t2)) := by
  constructor <;> simp [go_sem]

theorem row_call {w w' : World} {base size n : Nat} {t : TypeId} {v : Value} {xs : List Value} (h : w.ownsRow base t size v n xs) (hb : Below w.heap.size w w') : w'.ownsRow base t size v n xs :=
  h.kept (row := none) ⟨hb.os, hb.tape, hb.output, hb.size, fun i hi _ => hb.block i hi⟩ (by cases v.ownBlock <;> simp)

theorem below_row {w W w3 : World} {t : TypeId} {size n : Nat} {v : Value} {xs : List Value} (q : Below w.heap.size w W) (h : W.ownsRow w.heap.size t size v n xs) (hg : W.grownBy w3 v.ownBlock) : Below w.heap.size w w3 :=
  q.grown hg q.size (fun k hk => (h.lt k hk).1)
theorem one2 (x y : Int) : ∀ u ∈ [Value.int .i64 x, .int .i64 y], u.oneCell' = true := by
  intro u hu; simp at hu; rcases hu with rfl | rfl <;> rfl

def ends1 (a b c d : Acre.Pt) : List Acre.Pt := [a, b].filter fun p => Acre.onE c.1 c.2 d.1 d.2 p.1 1 p.2 1

end Go.Proofs.YtkjlkbgdkdcboaaGreatDoor

namespace Go.Proofs.YtkjlkbgdkdcboaaGreatDoor
open Go.RowKit
attribute [local go_sem ↓] Go.wp_at_zero Go.wp_at_succ

theorem info66 : (Tryz.prog.info? 80).map (fun i => (i.zero, i.size, i.bytes)) = some (some (.slice none 0 0), 1, 24) := by kernel_rfl

theorem flat_app (p q : List Acre.Pt) : flat (p ++ q) = flat p ++ flat q := by simp [flat]
theorem flat_at (p : List Acre.Pt) (k : Nat) (h : k < p.length) : (flat p)[k * 2]? = some (.int .i64 p[k].1) ∧ (flat p)[k * 2 + 1]? = some (.int .i64 p[k].2) := by
  induction p generalizing k with
  | nil => simp at h
  | cons a r ih =>
    cases k with
    | zero => simp [flat]
    | succ k =>
      have := ih k (by simpa using h)
      have e1 : (k + 1) * 2 = k * 2 + 1 + 1 := by omega
      simp only [flat, List.flatMap_cons] at *
      rw [e1]
      simpa using this

/-- a ring that has been copied, away from the row of l -/
def RingC (w : World) (l : Value) (s : Value) (ps : List Acre.Pt) : Prop :=
  ∃ ga b off cap, s = .slice ga ps.length cap ∧ (0 < ps.length → ga = some ⟨b, off, none⟩ ∧ b < w.heap.size ∧ l.ownBlock ≠ some b) ∧ PtsAt w b off ps

theorem RingC.below {w w' : World} {l s : Value} {ps : List Acre.Pt} (h : RingC w l s ps) (hb : Below w.heap.size w w') : RingC w' l s ps := by
  obtain ⟨ga, b, off, cap, h1, h2, h3⟩ := h
  exact ⟨ga, b, off, cap, h1, fun k => ⟨(h2 k).1, Nat.lt_of_lt_of_le (h2 k).2.1 hb.size, (h2 k).2.2⟩, h3.later hb⟩
theorem RingC.append {w w' : World} {l l' s : Value} {ps : List Acre.Pt} {H : Nat} (h : RingC w l s ps) (hg : w.grownBy w' l.ownBlock) (hl : l'.ownBlock = l.ownBlock ∨ l'.ownBlock = some H) (hH : w.heap.size ≤ H) : RingC w' l' s ps := by
  obtain ⟨ga, b, off, cap, h1, h2, h3⟩ := h
  refine ⟨ga, b, off, cap, h1, fun k => ?_, fun k hk => ?_⟩
  · obtain ⟨e1, e2, e3⟩ := h2 k
    refine ⟨e1, Nat.lt_of_lt_of_le e2 hg.size, ?_⟩
    rcases hl with e | e
    · rw [e]; exact e3
    · rw [e]; intro e'; simp at e'; omega
  · obtain ⟨e1, e2, e3⟩ := h2 (by omega)
    have c := h3 k hk
    exact ⟨hg.cell c.1 (fun e => e3 e.symm), hg.cell c.2 (fun e => e3 e.symm)⟩
theorem RingC.ring {w : World} {l s : Value} {ps : List Acre.Pt} (h : RingC w l s ps) : Ring w s ps := by
  obtain ⟨ga, b, off, cap, h1, h2, h3⟩ := h
  exact ⟨ga, b, off, cap, h1, fun k => ⟨(h2 k).1, (h2 k).2.1⟩, h3⟩
theorem RingC.row {w : World} {l v : Value} {H : Nat} {t : TypeId} {ps : List Acre.Pt} (h : w.ownsRow H t 2 v ps.length (flat ps)) (hl : ∀ c, l.ownBlock = some c → c < H) : RingC w l v ps := by
  rcases h.2 with ⟨rfl, h0⟩ | ⟨g, cap, cur, rfl, hHg, hgg, _⟩
  · refine ⟨none, 0, 0, 0, by rw [h0], fun k => absurd k (by omega), fun k hk => absurd hk (by omega)⟩
  · refine ⟨_, g, 0, cap, rfl, fun _ => ⟨rfl, (Array.getElem?_eq_some_iff.1 hgg).1, fun e => by have := hl g e; omega⟩, fun k hk => ?_⟩
    obtain ⟨e1, e2⟩ := flat_at ps k hk
    simp only [Nat.zero_add]
    exact ⟨(h.cellAt _ (by omega)).trans e1, (h.cellAt _ (by omega)).trans e2⟩

/-- what has been copied -/
def Copied (w : World) (base : Nat) (l : Value) (R : List (List Acre.Pt)) : Prop :=
  ∃ vs : List Value, vs.length = R.length ∧ (∀ u ∈ vs, u.oneCell' = true) ∧ w.ownsRow base 80 1 l R.length vs ∧ ∀ i (h : i < R.length) (h' : i < vs.length), RingC w l vs[i] R[i]

theorem Copied.rings {w : World} {base : Nat} {l : Value} {R : List (List Acre.Pt)} (h : Copied w base l R) : Rings w l R := by
  obtain ⟨vs, h1, _, h2, h3⟩ := h
  rcases h2.2 with ⟨rfl, h0⟩ | ⟨g, cap, cur, rfl, _⟩
  · exact ⟨none, 0, 0, 0, by rw [h0], fun k => absurd k (by omega), fun i hi => absurd hi (by omega)⟩
  · refine ⟨_, g, 0, cap, rfl, fun _ => rfl, fun i hi => ⟨vs[i], ?_, (h3 i hi (by omega)).ring⟩⟩
    rw [Nat.zero_add]
    exact (h2.cellAt i (by omega)).trans (List.getElem?_eq_getElem (by omega))

end Go.Proofs.YtkjlkbgdkdcboaaGreatDoor

