import Derived.Test.YtkjlkbgdkdcboaaWalksC
namespace Go.Proofs.Ytkjlkbgdkdcboaa
open Go.RowKit
attribute [local go_sem ↓] Go.wp_at_zero Go.wp_at_succ

/-- two edges in boxes, and two fractions to be handed back -/
structure M8 (B : Nat) (a b c d e f g h : Int) (w : World) : Prop where
  l0 : B < w.heap.size
  l1 : B + 1 < w.heap.size
  l2 : B + 1 + 1 < w.heap.size
  l3 : B + 1 + 1 + 1 < w.heap.size
  c0 : w.cell? ⟨B, 0, none⟩ = some (.int .i64 a)
  c1 : w.cell? ⟨B, 1, none⟩ = some (.int .i64 b)
  c2 : w.cell? ⟨B, 2, none⟩ = some (.int .i64 c)
  c3 : w.cell? ⟨B, 3, none⟩ = some (.int .i64 d)
  d0 : w.cell? ⟨B + 1, 0, none⟩ = some (.int .i64 e)
  d1 : w.cell? ⟨B + 1, 1, none⟩ = some (.int .i64 f)
  d2 : w.cell? ⟨B + 1, 2, none⟩ = some (.int .i64 g)
  d3 : w.cell? ⟨B + 1, 3, none⟩ = some (.int .i64 h)
  r0 : w.cell? ⟨B + 1 + 1, 0, none⟩ = some (.int .i64 0)
  r1 : w.cell? ⟨B + 1 + 1, 1, none⟩ = some (.int .i64 0)
  s0 : w.cell? ⟨B + 1 + 1 + 1, 0, none⟩ = some (.int .i64 0)
  s1 : w.cell? ⟨B + 1 + 1 + 1, 1, none⟩ = some (.int .i64 0)
  f0 : w.frozen? ⟨B + 1 + 1, 0, none⟩ = false
  f1 : w.frozen? ⟨B + 1 + 1, 1, none⟩ = false
  g0 : w.frozen? ⟨B + 1 + 1 + 1, 0, none⟩ = false
  g1 : w.frozen? ⟨B + 1 + 1 + 1, 1, none⟩ = false

theorem M8.later {B : Nat} {a b c d e f g h : Int} {w w' : World} (m : M8 B a b c d e f g h w) (hb : Below w.heap.size w w') : M8 B a b c d e f g h w' := by
  have hl := m.l3
  exact ⟨Nat.lt_of_lt_of_le m.l0 hb.size, Nat.lt_of_lt_of_le m.l1 hb.size, Nat.lt_of_lt_of_le m.l2 hb.size, Nat.lt_of_lt_of_le m.l3 hb.size, cell_later hb m.c0, cell_later hb m.c1, cell_later hb m.c2, cell_later hb m.c3, cell_later hb m.d0, cell_later hb m.d1, cell_later hb m.d2, cell_later hb m.d3,
    cell_later hb m.r0, cell_later hb m.r1, cell_later hb m.s0, cell_later hb m.s1,
    (hb.frozen (by simp; omega)).trans m.f0, (hb.frozen (by simp; omega)).trans m.f1, (hb.frozen (by simp; omega)).trans m.g0, (hb.frozen (by simp; omega)).trans m.g1⟩

theorem M8.start (w : World) (a b c d e f g h : Int) (t1 t2 t3 t4 : TypeId) :
    M8 w.heap.size a b c d e f g h ((((w.alloc (.cells #[.int .i64 a, .int .i64 b, .int .i64 c, .int .i64 d] t1)).alloc (.cells #[.int .i64 e, .int .i64 f, .int .i64 g, .int .i64 h] t2)).alloc (.cells #[.int .i64 0, .int .i64 0] t3)).alloc (.cells #[.int .i64 0, .int .i64 0] t4)) := by
  constructor <;> simp [go_sem] <;> omega

theorem below4 (w : World) (a b c d : Obj) : Below w.heap.size w ((((w.alloc a).alloc b).alloc c).alloc d) :=
  ((((Below.refl _ _).alloc (Nat.le_refl _) _).alloc (by simp) _).alloc (by simp; omega) _).alloc (by simp; omega) _

/-- a number and two fractions, as they are handed back -/
def resV (r : Int × (Int × Int) × (Int × Int)) : Value := .tuple #[.int .i64 r.1, .agg #[.int .i64 r.2.1.1, .int .i64 r.2.1.2], .agg #[.int .i64 r.2.2.1, .int .i64 r.2.2.2]]

theorem isInBox_any' (x0 y0 x1 y1 : Int) (x y : Int × Int) (w : World) (hx0 : Sm x0) (hy0 : Sm y0) (hx1 : Sm x1) (hy1 : Sm y1) (hx : Fr x.1 x.2) (hy : Fr y.1 y.2) :
    Calls Try.prog 55 #[.agg #[.int .i64 x0, .int .i64 y0, .int .i64 x1, .int .i64 y1], .agg #[.int .i64 x.1, .int .i64 x.2], .agg #[.int .i64 y.1, .int .i64 y.2]] w fun e w' => e = .returned (.bool (Acre.boxed x0 y0 x1 y1 x y)) ∧ Below w.heap.size w w' :=
  isInBox_any x0 y0 x1 y1 x.1 x.2 y.1 y.2 w hx0 hy0 hx1 hy1 hx hy

/-- what a cell holds, whatever it is -/
def peek (w : World) (a : Addr) : Value := (w.cell? a).getD .nilIface
theorem peek_some {w : World} {a : Addr} {v : Value} (h : w.cell? a = some v) : w.cell? a = some (peek w a) := by
  unfold peek; rw [h]; rfl
theorem peek_later {w w' : World} {a : Addr} (hb : Below w.heap.size w w') (h : w.cell? a = some (peek w a)) : w'.cell? a = some (peek w' a) :=
  peek_some (cell_later hb h)
theorem peek_drew {w : World} {a : Addr} (h : w.cell? a = some (peek w a)) : w.drew.cell? a = some (peek w.drew a) :=
  peek_some (v := peek w a) (by simpa using h)
theorem peek_set2 {w : World} {a p q : Addr} {x y : Value} (h : w.cell? a = some (peek w a)) : ((w.setCell p x).setCell q y).cell? a = some (peek ((w.setCell p x).setCell q y) a) := by
  obtain ⟨v, hv⟩ := cell?_setCell_some (p := p) (x := x) h
  obtain ⟨v', hv'⟩ := cell?_setCell_some (p := q) (x := y) hv
  exact peek_some hv'
theorem frozen_later {w w' : World} {a : Addr} {v : Value} (hb : Below w.heap.size w w') (h : w.cell? a = some v) (hf : w.frozen? a = false) : w'.frozen? a = false :=
  (hb.frozen (World.block_lt_of_cell? _ _ h)).trans hf
theorem cell_set2 {w : World} {a p q : Addr} {x y v : Value} (h : w.cell? a = some v) (hp : p.block ≠ a.block) (hq : q.block ≠ a.block) : ((w.setCell p x).setCell q y).cell? a = some v := by
  rw [World.cell?_setCell_far _ _ _ _ hq, World.cell?_setCell_far _ _ _ _ hp]; exact h
theorem frozen_set2 {w : World} {a p q : Addr} {x y : Value} (h : w.frozen? a = false) : ((w.setCell p x).setCell q y).frozen? a = false := by
  simpa [go_sem] using h

/-- what is held while the two places are reckoned -/
def CrS (w : World) (B1 : Nat) (a1 a2 p q : Int) (W : World) : Prop := W.cell? ⟨w.heap.size, 0, none⟩ = some (.int .i64 a1) ∧ W.cell? ⟨w.heap.size, 1, none⟩ = some (.int .i64 a2) ∧ W.cell? ⟨B1, 0, none⟩ = some (.int .i64 p) ∧ W.cell? ⟨B1, 1, none⟩ = some (.int .i64 q) ∧ Below w.heap.size w W ∧ W.cell? ⟨w.heap.size + 1 + 1, 0, none⟩ = some (peek W ⟨w.heap.size + 1 + 1, 0, none⟩) ∧ W.frozen? ⟨w.heap.size + 1 + 1, 0, none⟩ = false ∧ W.cell? ⟨w.heap.size + 1 + 1, 1, none⟩ = some (peek W ⟨w.heap.size + 1 + 1, 1, none⟩) ∧ W.frozen? ⟨w.heap.size + 1 + 1, 1, none⟩ = false ∧ W.cell? ⟨w.heap.size + 1 + 1 + 1, 0, none⟩ = some (peek W ⟨w.heap.size + 1 + 1 + 1, 0, none⟩) ∧ W.frozen? ⟨w.heap.size + 1 + 1 + 1, 0, none⟩ = false ∧ W.cell? ⟨w.heap.size + 1 + 1 + 1, 1, none⟩ = some (peek W ⟨w.heap.size + 1 + 1 + 1, 1, none⟩) ∧ W.frozen? ⟨w.heap.size + 1 + 1 + 1, 1, none⟩ = false
theorem CrS.call {w V W : World} {B1 : Nat} {a1 a2 p q : Int} (hb : Below V.heap.size V W) (h : CrS w B1 a1 a2 p q V) : CrS w B1 a1 a2 p q W := by
  obtain ⟨s1, s2, s3, s4, s5, p0, z0, p1, z1, p2, z2, p3, z3⟩ := h
  exact ⟨cell_later hb s1, cell_later hb s2, cell_later hb s3, cell_later hb s4, below_call hb s5, peek_later hb p0, frozen_later hb p0 z0, peek_later hb p1, frozen_later hb p1 z1, peek_later hb p2, frozen_later hb p2 z2, peek_later hb p3, frozen_later hb p3 z3⟩
theorem CrS.drew {w V : World} {B1 : Nat} {a1 a2 p q : Int} (h : CrS w B1 a1 a2 p q V) : CrS w B1 a1 a2 p q V.drew :=
  CrS.call (Below.drew (Below.refl _ _)) h
theorem CrS.set2 {w V : World} {B1 : Nat} {a1 a2 p q : Int} {x y : Addr} {u v : Value} (h : CrS w B1 a1 a2 p q V) (hx : w.heap.size < x.block) (hy : w.heap.size < y.block) (kx : x.block < B1) (ky : y.block < B1) : CrS w B1 a1 a2 p q ((V.setCell x u).setCell y v) := by
  obtain ⟨s1, s2, s3, s4, s5, p0, z0, p1, z1, p2, z2, p3, z3⟩ := h
  exact ⟨cell_set2 s1 (by simp; omega) (by simp; omega), cell_set2 s2 (by simp; omega) (by simp; omega), cell_set2 s3 (by simp; omega) (by simp; omega), cell_set2 s4 (by simp; omega) (by simp; omega), (s5.setCell (by omega) _).setCell (by omega) _, peek_set2 p0, frozen_set2 z0, peek_set2 p1, frozen_set2 z1, peek_set2 p2, frozen_set2 z2, peek_set2 p3, frozen_set2 z3⟩

/-- two fractions, as they are handed back -/
def crV (x y : Int × Int) : Value := .tuple #[.agg #[.int .i64 x.1, .int .i64 x.2], .agg #[.int .i64 y.1, .int .i64 y.2]]

set_option maxHeartbeats 8000000 in
theorem crossing_any (a1 a2 b1 b2 c1 c2 d1 d2 t : Int) (w : World) (h1 : Sm a1) (h2 : Sm a2) (h3 : Sm b1) (h4 : Sm b2) (h5 : Sm c1) (h6 : Sm c2) (h7 : Sm d1) (h8 : Sm d2) (ht : -1352 ≤ t ∧ t ≤ 1352) (ht0 : t ≠ 0) :
    Calls Try.prog 62 #[.agg #[.int .i64 a1, .int .i64 a2, .int .i64 b1, .int .i64 b2], .agg #[.int .i64 c1, .int .i64 c2, .int .i64 d1, .int .i64 d2], .int .i64 t] w fun e w' => e = .returned (crV (Acre.crossX a1 a2 b1 c1 c2 d1 d2 t) (Acre.crossY a1 a2 b2 c1 c2 d1 d2 t)) ∧ Below w.heap.size w w' := by
  have m0 := M8.start w a1 a2 b1 b2 c1 c2 d1 d2 46 46 37 37
  have q0 := below4 w (.cells #[.int .i64 a1, .int .i64 a2, .int .i64 b1, .int .i64 b2] 46) (.cells #[.int .i64 c1, .int .i64 c2, .int .i64 d1, .int .i64 d2] 46) (.cells #[.int .i64 0, .int .i64 0] 37) (.cells #[.int .i64 0, .int .i64 0] 37)
  have b1' := Acre.mul_bd (c1 - a1) (d2 - c2) 26 26 (by omega) (by omega)
  have b2' := Acre.mul_bd (c2 - a2) (d1 - c1) 26 26 (by omega) (by omega)
  have hsh : -1352 ≤ Acre.share a1 a2 c1 c2 d1 d2 ∧ Acre.share a1 a2 c1 c2 d1 d2 ≤ 1352 := by unfold Acre.share; omega
  have e1 := Acre.mul_bd a1 t 13 1352 h1 ht
  have e2 := Acre.mul_bd a2 t 13 1352 h2 ht
  have e3 := Acre.mul_bd (Acre.share a1 a2 c1 c2 d1 d2) (b1 - a1) 1352 26 hsh (by omega)
  have e4 := Acre.mul_bd (Acre.share a1 a2 c1 c2 d1 d2) (b2 - a2) 1352 26 hsh (by omega)
  have hX : Hid (Acre.low (a1 * t + Acre.share a1 a2 c1 c2 d1 d2 * (b1 - a1)) t = Acre.crossX a1 a2 b1 c1 c2 d1 d2 t) := rfl
  have hY : Hid (Acre.low (a2 * t + Acre.share a1 a2 c1 c2 d1 d2 * (b2 - a2)) t = Acre.crossY a1 a2 b2 c1 c2 d1 d2 t) := rfl
  unfold Acre.share at e3 e4 hX hY hsh
  go_enter Try.func62, Try.ntmps62
  go_wp2_with fail
  refine (along_any _ _ _ _ _ (by omega) (by omega)).mono ?_
  rintro e w1 ⟨rfl, hb1⟩
  have m1 := m0.later hb1
  have q1 := below_call hb1 q0
  clear hb1 m0 q0
  go_wp2_with fail
  have m2 := m1.later (below1 w1 (.cells #[.int .i64 (b1 - a1), .int .i64 (b2 - a2)] 28))
  have q2 := below_call (below1 w1 (.cells #[.int .i64 (b1 - a1), .int .i64 (b2 - a2)] 28)) q1
  have v0 : (w1.alloc (.cells #[.int .i64 (b1 - a1), .int .i64 (b2 - a2)] 28)).cell? ⟨w1.heap.size, 0, none⟩ = some (.int .i64 (b1 - a1)) := by simp [go_sem]
  have v1 : (w1.alloc (.cells #[.int .i64 (b1 - a1), .int .i64 (b2 - a2)] 28)).cell? ⟨w1.heap.size, 1, none⟩ = some (.int .i64 (b2 - a2)) := by simp [go_sem]
  generalize w1.alloc (.cells #[.int .i64 (b1 - a1), .int .i64 (b2 - a2)] 28) = W at *
  have n1 := m1.l3
  clear m1 q1
  obtain ⟨lt0, lt1, lt2, lt3, c0, c1', c2', c3, d0, d1', d2', d3, r0, r1, s0, s1, f0, f1, g0, g1⟩ := id m2
  go_region_held3 (fun w' => w'.cell? ⟨w.heap.size, 0, none⟩ = some (.int .i64 a1) ∧ w'.cell? ⟨w.heap.size, 1, none⟩ = some (.int .i64 a2) ∧ w'.cell? ⟨w.heap.size + 1, 0, none⟩ = some (.int .i64 c1) ∧ w'.cell? ⟨w.heap.size + 1, 1, none⟩ = some (.int .i64 c2) ∧ w'.cell? ⟨w.heap.size + 1, 2, none⟩ = some (.int .i64 d1) ∧ w'.cell? ⟨w.heap.size + 1, 3, none⟩ = some (.int .i64 d2) ∧ Below W.heap.size W w')
    ((go_split_ands; refine ⟨?_, ?_, ?_, ?_, ?_, ?_, ?_⟩ <;> first | assumption | exact Below.drew (Below.refl _ _) | exact cell_later (by assumption) (by assumption) | exact below_call (by assumption) (by assumption)))
    (first | (go_at_call 61; refine (difference_any _ _ _ _ _ ?_ ?_).mono ?_; omega; omega; rintro e w' ⟨rfl, hb⟩) | (go_at_call 35; refine (along_any _ _ _ _ _ ?_ ?_).mono ?_; omega; omega; rintro e w' ⟨rfl, hb⟩) | (go_at_call 34; refine (cross_any _ _ _ _ _ ?_ ?_).mono ?_; omega; omega; rintro e w' ⟨rfl, hb⟩))
  go_split_ands
  have hW' : Below W.heap.size W w' := by assumption
  have m3 := m2.later hW'
  have q3 := below_call hW' q2
  have v0' := cell_later hW' v0
  have v1' := cell_later hW' v1
  obtain ⟨lt03, lt13, lt23, lt33, c03, c13, c23, c33, d03, d13, d23, d33, r03, r13, s03, s13, f03, f13, g03, g13⟩ := id m3
  clear m2 q2 v0 v1 c0 c1' c2' c3 d0 d1' d2' d3 r0 r1 s0 s1 f0 f1 g0 g1 lt0 lt1 lt2 lt3 hW'
  have x1 := wrap_in (a1 * t) (by omega)
  have x2 := wrap_in (((c1 - a1) * (d2 - c2) - (c2 - a2) * (d1 - c1)) * (b1 - a1)) (by omega)
  have x3 := wrap_in (a1 * t + ((c1 - a1) * (d2 - c2) - (c2 - a2) * (d1 - c1)) * (b1 - a1)) (by omega)
  have y1 := wrap_in (a2 * t) (by omega)
  have y2 := wrap_in (((c1 - a1) * (d2 - c2) - (c2 - a2) * (d1 - c1)) * (b2 - a2)) (by omega)
  have y3 := wrap_in (a2 * t + ((c1 - a1) * (d2 - c2) - (c2 - a2) * (d1 - c1)) * (b2 - a2)) (by omega)
  go_wp2_with fail
  have z0 := peek_some r03
  have z1 := peek_some r13
  have z2 := peek_some s03
  have z3 := peek_some s13
  clear r03 r13 s03 s13 m3 c23 c33 d03 d13 d23 d33
  have hS : CrS w w1.heap.size a1 a2 (b1 - a1) (b2 - a2) w' := ⟨c03, c13, v0', v1', q3, z0, f03, z1, f13, z2, g03, z3, g13⟩
  clear lt03 lt13 lt23 lt33
  go_region_held3 (fun w'' => w''.cell? ⟨w.heap.size, 0, none⟩ = some (.int .i64 a1) ∧ w''.cell? ⟨w.heap.size, 1, none⟩ = some (.int .i64 a2) ∧ w''.cell? ⟨w1.heap.size, 0, none⟩ = some (.int .i64 (b1 - a1)) ∧ w''.cell? ⟨w1.heap.size, 1, none⟩ = some (.int .i64 (b2 - a2)) ∧ Below w.heap.size w w'' ∧ w''.cell? ⟨w.heap.size + 1 + 1, 0, none⟩ = some (peek w'' ⟨w.heap.size + 1 + 1, 0, none⟩) ∧ w''.frozen? ⟨w.heap.size + 1 + 1, 0, none⟩ = false ∧ w''.cell? ⟨w.heap.size + 1 + 1, 1, none⟩ = some (peek w'' ⟨w.heap.size + 1 + 1, 1, none⟩) ∧ w''.frozen? ⟨w.heap.size + 1 + 1, 1, none⟩ = false ∧ w''.cell? ⟨w.heap.size + 1 + 1 + 1, 0, none⟩ = some (peek w'' ⟨w.heap.size + 1 + 1 + 1, 0, none⟩) ∧ w''.frozen? ⟨w.heap.size + 1 + 1 + 1, 0, none⟩ = false ∧ w''.cell? ⟨w.heap.size + 1 + 1 + 1, 1, none⟩ = some (peek w'' ⟨w.heap.size + 1 + 1 + 1, 1, none⟩) ∧ w''.frozen? ⟨w.heap.size + 1 + 1 + 1, 1, none⟩ = false)
    ((show CrS w w1.heap.size a1 a2 (b1 - a1) (b2 - a2) _
      first
        | exact hS
        | exact hS.drew
        | exact CrS.call (by assumption) (by assumption)
        | exact CrS.call (by assumption) ⟨by assumption, by assumption, by assumption, by assumption, by assumption, by assumption, by assumption, by assumption, by assumption, by assumption, by assumption, by assumption, by assumption⟩
        | exact CrS.set2 (by assumption) (by simp; omega) (by simp; omega) (by simp; omega) (by simp; omega)
        | exact CrS.set2 ⟨by assumption, by assumption, by assumption, by assumption, by assumption, by assumption, by assumption, by assumption, by assumption, by assumption, by assumption, by assumption, by assumption⟩ (by simp; omega) (by simp; omega) (by simp; omega) (by simp; omega)))
    ((go_at_call 74; try simp only [x1, x2, x3, y1, y2, y3]
      refine (lowest_any _ _ _ ?_ ?_ ht0).mono ?_
      omega
      omega
      rintro e w'' ⟨rfl, hb⟩))
  have hS2 : CrS w w1.heap.size a1 a2 (b1 - a1) (b2 - a2) w'' := CrS.call hb (CrS.call (by assumption) hS.drew)
  obtain ⟨s1', s2', s3', s4', s5, p0, k0, p1, k1, p2, k2, p3, k3⟩ := id hS2
  go_wp2
  refine bodyPost_ret (v := crV (Acre.crossX a1 a2 b1 c1 c2 d1 d2 t) (Acre.crossY a1 a2 b2 c1 c2 d1 d2 t)) ?_ rfl ⟨rfl, ?_⟩
  · rw [← hX.out, ← hY.out]; simp [results, Try.results62, go_sem, crV, p0, p1, p2, p3]
  · exact (((s5.setCell (by simp; omega) _).setCell (by simp; omega) _).setCell (by simp; omega) _).setCell (by simp; omega) _

set_option maxHeartbeats 2000000 in
theorem meetAcross_any (a1 a2 b1 b2 c1 c2 d1 d2 t : Int) (w : World) (h1 : Sm a1) (h2 : Sm a2) (h3 : Sm b1) (h4 : Sm b2) (h5 : Sm c1) (h6 : Sm c2) (h7 : Sm d1) (h8 : Sm d2) (ht : -1352 ≤ t ∧ t ≤ 1352) (ht0 : t ≠ 0) :
    Calls Try.prog 36 #[.agg #[.int .i64 a1, .int .i64 a2, .int .i64 b1, .int .i64 b2], .agg #[.int .i64 c1, .int .i64 c2, .int .i64 d1, .int .i64 d2], .int .i64 t] w fun e w' => e = .returned (resV (Acre.across a1 a2 b1 b2 c1 c2 d1 d2 t)) ∧ Below w.heap.size w w' := by
  have m0 := M8.start w a1 a2 b1 b2 c1 c2 d1 d2 46 46 37 37
  have q0 := below4 w (.cells #[.int .i64 a1, .int .i64 a2, .int .i64 b1, .int .i64 b2] 46) (.cells #[.int .i64 c1, .int .i64 c2, .int .i64 d1, .int .i64 d2] 46) (.cells #[.int .i64 0, .int .i64 0] 37) (.cells #[.int .i64 0, .int .i64 0] 37)
  have b1' := Acre.mul_bd (c1 - a1) (d2 - c2) 26 26 (by omega) (by omega)
  have b2' := Acre.mul_bd (c2 - a2) (d1 - c1) 26 26 (by omega) (by omega)
  have hsh : -1352 ≤ Acre.share a1 a2 c1 c2 d1 d2 ∧ Acre.share a1 a2 c1 c2 d1 d2 ≤ 1352 := by unfold Acre.share; omega
  have e1 := Acre.mul_bd a1 t 13 1352 h1 ht
  have e2 := Acre.mul_bd a2 t 13 1352 h2 ht
  have e3 := Acre.mul_bd (Acre.share a1 a2 c1 c2 d1 d2) (b1 - a1) 1352 26 hsh (by omega)
  have e4 := Acre.mul_bd (Acre.share a1 a2 c1 c2 d1 d2) (b2 - a2) 1352 26 hsh (by omega)
  have lx := Acre.low_bd (a1 * t + Acre.share a1 a2 c1 c2 d1 d2 * (b1 - a1)) t
  have ly := Acre.low_bd (a2 * t + Acre.share a1 a2 c1 c2 d1 d2 * (b2 - a2)) t
  have fx : Fr (Acre.crossX a1 a2 b1 c1 c2 d1 d2 t).1 (Acre.crossX a1 a2 b1 c1 c2 d1 d2 t).2 := by unfold Acre.crossX; constructor <;> omega
  have fy : Fr (Acre.crossY a1 a2 b2 c1 c2 d1 d2 t).1 (Acre.crossY a1 a2 b2 c1 c2 d1 d2 t).2 := by unfold Acre.crossY; constructor <;> omega
  clear lx ly e1 e2 e3 e4 hsh b1' b2'
  go_enter Try.func36, Try.ntmps36
  go_wp2_with fail
  refine (crossing_any _ _ _ _ _ _ _ _ _ _ h1 h2 h3 h4 h5 h6 h7 h8 ht ht0).mono ?_
  rintro e w4 ⟨rfl, hb4⟩
  have m4 := m0.later hb4
  have q4 := below_call hb4 q0
  obtain ⟨lt05, lt15, lt25, lt35, c05, c15, c25, c35, d05, d15, d25, d35, r05, r15, s05, s15, f05, f15, g05, g15⟩ := id m4
  have hac : Hid _ := Acre.across_eq a1 a2 b1 b2 c1 c2 d1 d2 t _ _ rfl rfl
  generalize Acre.crossX a1 a2 b1 c1 c2 d1 d2 t = x at *
  generalize Acre.crossY a1 a2 b2 c1 c2 d1 d2 t = y at *
  unfold crV
  go_wp2_with fail
  refine (isInBox_any' _ _ _ _ x y _ ⟨by omega, by omega⟩ ⟨by omega, by omega⟩ ⟨by omega, by omega⟩ ⟨by omega, by omega⟩ ⟨by omega, by omega⟩ ⟨by omega, by omega⟩).mono ?_
  rintro e w6 ⟨rfl, hb6⟩
  have m6 := (m4.later (below2 _ _ _)).later hb6
  have q6 := below_call hb6 (below_call (below2 _ _ _) q4)
  have X06 := cell_later hb6 (a := ⟨w4.heap.size, 0, none⟩) (v := .int .i64 x.1) (by simp [go_sem])
  have X16 := cell_later hb6 (a := ⟨w4.heap.size, 1, none⟩) (v := .int .i64 x.2) (by simp [go_sem])
  have Y06 := cell_later hb6 (a := ⟨w4.heap.size + 1, 0, none⟩) (v := .int .i64 y.1) (by simp [go_sem])
  have Y16 := cell_later hb6 (a := ⟨w4.heap.size + 1, 1, none⟩) (v := .int .i64 y.2) (by simp [go_sem])
  obtain ⟨lt06, lt16, lt26, lt36, c06, c16, c26, c36, d06, d16, d26, d36, r06, r16, s06, s16, f06, f16, g06, g16⟩ := id m6
  cases hBE : Acre.boxed a1 a2 b1 b2 x y
  · go_wp2
    refine bodyPost_ret (v := resV (0, (0, 0), (0, 0))) ?_ rfl ⟨?_, ?_⟩
    · simp [results, Try.results36, go_sem, resV, r06, r16, s06, s16]
    · rw [hac.out, hBE]; rfl
    · exact (((q6.setCell (by simp; omega) _).setCell (by simp; omega) _).setCell (by simp; omega) _).setCell (by simp; omega) _
  · go_wp2_with fail
    refine (isInBox_any' _ _ _ _ x y _ ⟨by omega, by omega⟩ ⟨by omega, by omega⟩ ⟨by omega, by omega⟩ ⟨by omega, by omega⟩ ⟨by omega, by omega⟩ ⟨by omega, by omega⟩).mono ?_
    rintro e w7 ⟨rfl, hb7⟩
    have m7 := m6.later hb7
    have q7 := below_call hb7 q6
    have X07 := cell_later hb7 X06
    have X17 := cell_later hb7 X16
    have Y07 := cell_later hb7 Y06
    have Y17 := cell_later hb7 Y16
    obtain ⟨lt07, lt17, lt27, lt37, c07, c17, c27, c37, d07, d17, d27, d37, r07, r17, s07, s17, f07, f17, g07, g17⟩ := id m7
    cases hBF : Acre.boxed c1 c2 d1 d2 x y
    · go_wp2
      refine bodyPost_ret (v := resV (0, (0, 0), (0, 0))) ?_ rfl ⟨?_, ?_⟩
      · simp [results, Try.results36, go_sem, resV, r07, r17, s07, s17]
      · rw [hac.out, hBE, hBF]; rfl
      · exact (((q7.setCell (by simp; omega) _).setCell (by simp; omega) _).setCell (by simp; omega) _).setCell (by simp; omega) _
    · go_wp2
      go_region
      go_wp2
      refine bodyPost_ret (v := resV (1, x, y)) ?_ rfl ⟨?_, ?_⟩
      · simp [results, Try.results36, go_sem, resV, r07, r17, s07, s17]
      · rw [hac.out, hBE, hBF]; rfl
      · exact ((((q7.setCell (by simp; omega) _).setCell (by simp; omega) _).setCell (by simp; omega) _).setCell (by simp; omega) _).drew

end Go.Proofs.Ytkjlkbgdkdcboaa
