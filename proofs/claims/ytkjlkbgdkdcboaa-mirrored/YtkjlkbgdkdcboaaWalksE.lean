import Derived.Test.YtkjlkbgdkdcboaaWalksD
import Derived.Test.YtkjlkbgdkdcboaaPlane2
import Derived.Test.YtkjlkbgdkdcboaaMaps
import Derived.BigRegion
import Derived.Deep.DeepCutAuto
namespace Go.Proofs.Ytkjlkbgdkdcboaa
open Go.RowKit Go.Maps
attribute [local go_sem ↓] Go.wp_at_zero Go.wp_at_succ

theorem wf_i (n : Int) (h : -1000000000 ≤ n ∧ n ≤ 1000000000) : (Lit.int .i64 n).wf = true := WalkArith.wf_i64 (by omega)

/-- what has been gathered -/
structure Got (MB : Nat) (l u : List Acre.Pt) (n : Nat) (w : World) : Prop where
  ex : ∃ D : DataW Unit, w.ownsMap Try.prog 28 (plainElem Try.prog 3) MB n D ∧ Maps.size D = u.length ∧ ∀ p : Acre.Pt, -1000 ≤ p.1 ∧ p.1 ≤ 1000 → -1000 ≤ p.2 ∧ p.2 ≤ 1000 → Maps.has D (kp p.1 p.2) = decide (p ∈ u)

/-- two fractions that are filled as one goes -/
structure XY (B : Nat) (x y : Int × Int) (w : World) : Prop where
  l0 : B < w.heap.size
  l1 : B + 1 < w.heap.size
  x0 : w.cell? ⟨B, 0, none⟩ = some (.int .i64 x.1)
  x1 : w.cell? ⟨B, 1, none⟩ = some (.int .i64 x.2)
  y0 : w.cell? ⟨B + 1, 0, none⟩ = some (.int .i64 y.1)
  y1 : w.cell? ⟨B + 1, 1, none⟩ = some (.int .i64 y.2)
  f0 : w.frozen? ⟨B, 0, none⟩ = false
  f1 : w.frozen? ⟨B, 1, none⟩ = false
  g0 : w.frozen? ⟨B + 1, 0, none⟩ = false
  g1 : w.frozen? ⟨B + 1, 1, none⟩ = false

theorem XY.later {B : Nat} {x y : Int × Int} {w w' : World} (m : XY B x y w) (hb : Below w.heap.size w w') : XY B x y w' := by
  have hl := m.l1
  exact ⟨Nat.lt_of_lt_of_le m.l0 hb.size, Nat.lt_of_lt_of_le m.l1 hb.size, cell_later hb m.x0, cell_later hb m.x1, cell_later hb m.y0, cell_later hb m.y1,
    (hb.frozen (by simp; omega)).trans m.f0, (hb.frozen (by simp; omega)).trans m.f1, (hb.frozen (by simp; omega)).trans m.g0, (hb.frozen (by simp; omega)).trans m.g1⟩

theorem Got.later {MB : Nat} {l u : List Acre.Pt} {n : Nat} {w w' : World} (m : Got MB l u n w) (hb : Below w.heap.size w w') : Got MB l u n w' := by
  obtain ⟨D, h1, h2⟩ := m.ex
  refine ⟨D, ?_, h2⟩
  obtain ⟨es, clock, k1, k2⟩ := h1
  exact ⟨es, clock, (hb.block MB (by have := (Array.getElem?_eq_some_iff.1 k1).1; exact this)).trans k1, k2⟩

theorem index4 (a1 a2 b1 b2 c1 c2 d1 d2 : Int) (k : Nat) (hk : k < 4) : ∃ p : Acre.Pt, [(a1, a2), (b1, b2), (c1, c2), (d1, d2)][k]? = some p ∧ p ∈ [(a1, a2), (b1, b2), (c1, c2), (d1, d2)] ∧
    ∀ w : World, (Instr.index 118 (.agg #[.int .i64 a1, .int .i64 a2, .int .i64 b1, .int .i64 b2, .int .i64 c1, .int .i64 c2, .int .i64 d1, .int .i64 d2]) (.int .i64 k)).run Try.prog w = .ok (.agg #[.int .i64 p.1, .int .i64 p.2]) w := by
  match k, hk with
  | 0, _ => exact ⟨(a1, a2), rfl, by simp, fun w => by kernel_rfl⟩
  | 1, _ => exact ⟨(b1, b2), rfl, by simp, fun w => by kernel_rfl⟩
  | 2, _ => exact ⟨(c1, c2), rfl, by simp, fun w => by kernel_rfl⟩
  | 3, _ => exact ⟨(d1, d2), rfl, by simp, fun w => by kernel_rfl⟩

theorem grown_cell {w w' : World} {r : Nat} (hg : w.grownBy w' (some r)) {a : Addr} {v : Value} (hc : w.cell? a = some v) (hne : a.block ≠ r) : w'.cell? a = some v :=
  (World.cell?_of_block (w := w) (hg.block a.block (World.block_lt_of_cell? _ _ hc) (fun e => hne (by simpa using e)))).trans hc
theorem grown_frozen {w w' : World} {r : Nat} (hg : w.grownBy w' (some r)) {a : Addr} (hl : a.block < w.heap.size) (hne : a.block ≠ r) : w'.frozen? a = w.frozen? a :=
  World.frozen?_of_block (w := w) (hg.block a.block hl (fun e => hne (by simpa using e)))

theorem M8.low {B : Nat} {a b c d e f g h : Int} {w w' : World} (m : M8 B a b c d e f g h w) (hb : Below (B + 1 + 1 + 1 + 1) w w') : M8 B a b c d e f g h w' := by
  have hl := m.l3
  have cl : ∀ {a : Addr} {v : Value}, a.block < B + 1 + 1 + 1 + 1 → w.cell? a = some v → w'.cell? a = some v := fun h1 h2 => (hb.cell h1).trans h2
  exact ⟨Nat.lt_of_lt_of_le m.l0 hb.size, Nat.lt_of_lt_of_le m.l1 hb.size, Nat.lt_of_lt_of_le m.l2 hb.size, Nat.lt_of_lt_of_le m.l3 hb.size, cl (by dsimp only; omega) m.c0, cl (by dsimp only; omega) m.c1, cl (by dsimp only; omega) m.c2, cl (by dsimp only; omega) m.c3, cl (by dsimp only; omega) m.d0, cl (by dsimp only; omega) m.d1, cl (by dsimp only; omega) m.d2, cl (by dsimp only; omega) m.d3,
    cl (by dsimp only; omega) m.r0, cl (by dsimp only; omega) m.r1, cl (by dsimp only; omega) m.s0, cl (by dsimp only; omega) m.s1,
    (hb.frozen (by dsimp only; omega)).trans m.f0, (hb.frozen (by dsimp only; omega)).trans m.f1, (hb.frozen (by dsimp only; omega)).trans m.g0, (hb.frozen (by dsimp only; omega)).trans m.g1⟩

theorem XY.grown {B r : Nat} {x y : Int × Int} {w w' : World} (m : XY B x y w) (hg : w.grownBy w' (some r)) (h1 : B ≠ r) (h2 : B + 1 ≠ r) : XY B x y w' :=
  ⟨Nat.lt_of_lt_of_le m.l0 hg.size, Nat.lt_of_lt_of_le m.l1 hg.size, grown_cell hg m.x0 h1, grown_cell hg m.x1 h1, grown_cell hg m.y0 h2, grown_cell hg m.y1 h2,
    (grown_frozen hg m.l0 h1).trans m.f0, (grown_frozen hg m.l0 h1).trans m.f1, (grown_frozen hg m.l1 h2).trans m.g0, (grown_frozen hg m.l1 h2).trans m.g1⟩

/-- one more that is on both -/
theorem Got.put {MB : Nat} {l u : List Acre.Pt} {n : Nat} {w w3 : World} {p : Acre.Pt} (hp1 : -1000 ≤ p.1 ∧ p.1 ≤ 1000) (hp2 : -1000 ≤ p.2 ∧ p.2 ≤ 1000) (hd : Acre.Diff l u) {D : DataW Unit} {v : DataW Unit}
    (h1 : w.ownsMap Try.prog 28 (plainElem Try.prog 3) MB n D) (h2 : Maps.size D = u.length) (h3 : ∀ p : Acre.Pt, -1000 ≤ p.1 ∧ p.1 ≤ 1000 → -1000 ≤ p.2 ∧ p.2 ≤ 1000 → Maps.has D (kp p.1 p.2) = decide (p ∈ u))
    (h4 : w3.ownsMap Try.prog 28 (plainElem Try.prog 3) MB (n + 1) (D.put (kp p.1 p.2) v)) : ∃ u', Acre.Diff (l ++ [p]) u' ∧ Got MB (l ++ [p]) u' (n + 1) w3 := by
  have KK : Keyed Try.prog 28 := Keyed.of_law lawPt
  have hkey : keyOf Try.prog 28 (.agg #[.int .i64 p.1, .int .i64 p.2]) = some (kp p.1 p.2) := key_pt (wf_i _ (by omega)) (wf_i _ (by omega))
  have hsz := size_put (k := kp p.1 p.2) (h1.tidy KK) v
  have hhas : ∀ q : Acre.Pt, -1000 ≤ q.1 ∧ q.1 ≤ 1000 → -1000 ≤ q.2 ∧ q.2 ≤ 1000 → Maps.has (D.put (kp p.1 p.2) v) (kp q.1 q.2) = (decide (q = p) || Maps.has D (kp q.1 q.2)) := by
    intro q hq1 hq2
    by_cases e : q = p
    · subst e; rw [has_put_same h1.isMap (KK.key hkey)]; simp
    · have hkq : keyOf Try.prog 28 (.agg #[.int .i64 q.1, .int .i64 q.2]) = some (kp q.1 q.2) := key_pt (wf_i _ (by omega)) (wf_i _ (by omega))
      have hne : kp q.1 q.2 ≠ kp p.1 p.2 := by
        intro e'
        have := KK.inj hkq (e' ▸ hkey)
        simp at this
        exact e (Prod.ext this.1 this.2)
      rw [has_put_other hne]; simp [e]
  by_cases hu : p ∈ u
  · refine ⟨u, hd.old hu, ⟨_, h4, ?_, ?_⟩⟩
    · rw [hsz, h3 p hp1 hp2]; simp [hu, h2]
    · intro q hq1 hq2
      rw [hhas q hq1 hq2, h3 q hq1 hq2]
      by_cases e : q = p
      · subst e; simp [hu]
      · simp [e]
  · refine ⟨u ++ [p], hd.new hu, ⟨_, h4, ?_, ?_⟩⟩
    · rw [hsz, h3 p hp1 hp2]; simp [hu, h2]
    · intro q hq1 hq2
      rw [hhas q hq1 hq2, h3 q hq1 hq2]
      by_cases e : q = p
      · subst e; simp
      · simp [e]

def Rel (w : World) (a b c d : Acre.Pt) (k : Nat) (wr : World) : Prop :=
  M8 w.heap.size a.1 a.2 b.1 b.2 c.1 c.2 d.1 d.2 wr ∧ (∃ u, Acre.Diff (([a, b, c, d].take k).filter (Acre.on2 a b c d)) u ∧ Got (w.heap.size + 1 + 1 + 1 + 1) (([a, b, c, d].take k).filter (Acre.on2 a b c d)) u k wr) ∧
  (∃ x y, XY (w.heap.size + 1 + 1 + 1 + 1 + 1) x y wr ∧ ∀ p, (([a, b, c, d].take k).filter (Acre.on2 a b c d)).getLast? = some p → x = (p.1, 1) ∧ y = (p.2, 1)) ∧ Below w.heap.size w wr


end Go.Proofs.Ytkjlkbgdkdcboaa
