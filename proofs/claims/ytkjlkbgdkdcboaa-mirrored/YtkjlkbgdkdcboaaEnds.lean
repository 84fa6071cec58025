import Derived.Test.YtkjlkbgdkdcboaaWalksG
import Derived.Maps.AppendAt
namespace Go.Proofs.Ytkjlkbgdkdcboaa
open Go.RowKit Go.Maps
attribute [local go_sem ↓] Go.wp_at_zero Go.wp_at_succ

theorem info51 : (Try.prog.info? 51).map (fun i => (i.zero, i.size, i.bytes)) = some (some (.agg #[.int .i64 0, .int .i64 0]), 2, 16) := by kernel_rfl

/-- points as cells -/
def flat (ps : List Acre.Pt) : List Value := ps.flatMap fun p => [.int .i64 p.1, .int .i64 p.2]

/-- two edges in boxes -/
structure E2 (B : Nat) (a b c d e f g h : Int) (w : World) : Prop where
  l0 : B < w.heap.size
  l1 : B + 1 < w.heap.size
  c0 : w.cell? ⟨B, 0, none⟩ = some (.int .i64 a)
  c1 : w.cell? ⟨B, 1, none⟩ = some (.int .i64 b)
  c2 : w.cell? ⟨B, 2, none⟩ = some (.int .i64 c)
  c3 : w.cell? ⟨B, 3, none⟩ = some (.int .i64 d)
  d0 : w.cell? ⟨B + 1, 0, none⟩ = some (.int .i64 e)
  d1 : w.cell? ⟨B + 1, 1, none⟩ = some (.int .i64 f)
  d2 : w.cell? ⟨B + 1, 2, none⟩ = some (.int .i64 g)
  d3 : w.cell? ⟨B + 1, 3, none⟩ = some (.int .i64 h)
theorem E2.low {B : Nat} {a b c d e f g h : Int} {w w' : World} (m : E2 B a b c d e f g h w) (hb : Below (B + 1 + 1) w w') : E2 B a b c d e f g h w' := by
  have cl : ∀ {a : Addr} {v : Value}, a.block < B + 1 + 1 → w.cell? a = some v → w'.cell? a = some v := fun h1 h2 => (hb.cell h1).trans h2
  exact ⟨Nat.lt_of_lt_of_le m.l0 hb.size, Nat.lt_of_lt_of_le m.l1 hb.size, cl (by dsimp only; omega) m.c0, cl (by dsimp only; omega) m.c1, cl (by dsimp only; omega) m.c2, cl (by dsimp only; omega) m.c3, cl (by dsimp only; omega) m.d0, cl (by dsimp only; omega) m.d1, cl (by dsimp only; omega) m.d2, cl (by dsimp only; omega) m.d3⟩
theorem E2.later {B : Nat} {a b c d e f g h : Int} {w w' : World} (m : E2 B a b c d e f g h w) (hb : Below w.heap.size w w') : E2 B a b c d e f g h w' := m.low (hb.mono m.l1)
theorem E2.start (w : World) (a b c d e f g h : Int) (t1 t2 : TypeId) :
    E2 w.heap.size a b c d e f g h ((w.alloc (.cells #[.int .i64 a, .int .i64 b, .int .i64 c, .int .i64 d] t1)).alloc (.cells #[.int .i64 e, .int .i64 f, .int .i64 g, .int .i64 h] t2)) := by
  constructor <;> simp [go_sem]

theorem row_call {w w' : World} {base size n : Nat} {t : TypeId} {v : Value} {xs : List Value} (h : w.ownsRow base t size v n xs) (hb : Below w.heap.size w w') : w'.ownsRow base t size v n xs :=
  h.kept (row := none) ⟨hb.os, hb.tape, hb.output, hb.size, fun i hi _ => hb.block i hi⟩ (by cases v.ownBlock <;> simp)

theorem ron1 (x0 y0 x1 y1 x y : Int) (w : World) (hx0 : Sm x0) (hy0 : Sm y0) (hx1 : Sm x1) (hy1 : Sm y1) (hx : Sm x) (hy : Sm y) :
    Calls Try.prog 40 #[.agg #[.int .i64 x0, .int .i64 y0, .int .i64 x1, .int .i64 y1], .agg #[.int .i64 x, .int .i64 1], .agg #[.int .i64 y, .int .i64 1]] w fun e w' => e = .returned (.bool (Acre.onE x0 y0 x1 y1 x 1 y 1)) ∧ Below w.heap.size w w' :=
  ron_any x0 y0 x1 y1 x 1 y 1 w hx0 hy0 hx1 hy1 ⟨⟨by omega, by omega⟩, by omega⟩ ⟨⟨by omega, by omega⟩, by omega⟩ (by omega) (by omega)

theorem below_row {w W w3 : World} {t : TypeId} {size n : Nat} {v : Value} {xs : List Value} (q : Below w.heap.size w W) (h : W.ownsRow w.heap.size t size v n xs) (hg : W.grownBy w3 v.ownBlock) : Below w.heap.size w w3 :=
  q.grown hg q.size (fun k hk => (h.lt k hk).1)
theorem one2 (x y : Int) : ∀ u ∈ [Value.int .i64 x, .int .i64 y], u.oneCell' = true := by
  intro u hu; simp at hu; rcases hu with rfl | rfl <;> rfl

def ends1 (a b c d : Acre.Pt) : List Acre.Pt := [a, b].filter fun p => Acre.onE c.1 c.2 d.1 d.2 p.1 1 p.2 1

set_option maxHeartbeats 2000000 in
theorem ends_any (a1 a2 b1 b2 c1 c2 d1 d2 : Int) (w : World) (h1 : Sm a1) (h2 : Sm a2) (h3 : Sm b1) (h4 : Sm b2) (h5 : Sm c1) (h6 : Sm c2) (h7 : Sm d1) (h8 : Sm d2) :
    Calls Try.prog 41 #[.agg #[.int .i64 a1, .int .i64 a2, .int .i64 b1, .int .i64 b2], .agg #[.int .i64 c1, .int .i64 c2, .int .i64 d1, .int .i64 d2]] w fun e w' => ∃ v, e = .returned v ∧ w'.ownsRow w.heap.size 51 2 v (ends1 (a1, a2) (b1, b2) (c1, c2) (d1, d2)).length (flat (ends1 (a1, a2) (b1, b2) (c1, c2) (d1, d2))) ∧ Below w.heap.size w w' := by
  obtain ⟨i0, hi, hz0, hz1, hz2⟩ := info_parts info51
  have m0 := E2.start w a1 a2 b1 b2 c1 c2 d1 d2 53 53
  have q0 := below2 w (.cells #[.int .i64 a1, .int .i64 a2, .int .i64 b1, .int .i64 b2] 53) (.cells #[.int .i64 c1, .int .i64 c2, .int .i64 d1, .int .i64 d2] 53)
  go_enter Try.func41, Try.ntmps41
  go_wp2_with fail
  refine (ron1 _ _ _ _ _ _ _ h5 h6 h7 h8 h1 h2).mono ?_
  rintro e w1 ⟨rfl, hb1⟩
  have m1 := m0.later hb1
  have q1 := below_call hb1 q0
  clear m0 q0 hb1
  obtain ⟨l0, l1, e0, e1, e2, e3, k0, k1, k2, k3⟩ := id m1
  cases hA : Acre.onE c1 c2 d1 d2 a1 1 a2 1
  · have HA : Hid _ := hA
    go_wp2_with fail
    refine (ron1 _ _ _ _ _ _ _ h5 h6 h7 h8 h3 h4).mono ?_
    rintro e w2 ⟨rfl, hb2⟩
    have m2 := m1.later hb2
    have q2 := below_call hb2 q1
    obtain ⟨l02, l12, e02, e12, e22, e32, _, _, _, _⟩ := id m2
    cases hB : Acre.onE c1 c2 d1 d2 b1 1 b2 1
    · have HB : Hid _ := hB
      go_wp2
      go_ret
      exact ⟨_, rfl, by simp [ends1, HA.out, HB.out, flat]; exact World.ownsRow_nil _ _ _ _, q2⟩
    · have HB : Hid _ := hB
      go_wp2_with (at_builtin; refine wpList_append_own_at _ rfl _ _ 66 rfl w.heap.size 51 i0 (.agg #[.int .i64 0, .int .i64 0]) 2 16 Try.underlying66 hi hz0 hz1 hz2 rfl (by decide) _ _ _ rfl (World.ownsRow_nil _ _ _ _) ⟨w2.heap.size, 0, none⟩ 1 1 [.int .i64 b1, .int .i64 b2] rfl rfl (cell_two_new _ _ _ _) (one2 _ _) (by unfold maxLen; omega) (by omega) ?_ ?_)
      · exact Nat.le_trans q2.size (by simp)
      · intro v' w3 hown hg hnil hloc
        have q3 := below_row (below_call (below1 _ _) q2) (World.ownsRow_nil _ _ 51 2) hg
        go_wp2
        go_ret
        exact ⟨_, rfl, by simp [ends1, HA.out, HB.out, flat]; exact hown, q3⟩
  · have HA : Hid _ := hA
    go_wp2_with (at_builtin; refine wpList_append_own_at _ rfl _ _ 66 rfl w.heap.size 51 i0 (.agg #[.int .i64 0, .int .i64 0]) 2 16 Try.underlying66 hi hz0 hz1 hz2 rfl (by decide) _ _ _ rfl (World.ownsRow_nil _ _ _ _) ⟨w1.heap.size, 0, none⟩ 1 1 [.int .i64 a1, .int .i64 a2] rfl rfl (cell_two_new _ _ _ _) (one2 _ _) (by unfold maxLen; omega) (by omega) ?_ ?_)
    · exact Nat.le_trans q1.size (by simp)
    · intro v' w3 hown hg hnil hloc
      have q3 := below_row (below_call (below1 _ _) q1) (World.ownsRow_nil _ _ 51 2) hg
      have m3 := m1.later (Below.trans (below1 w1 _) ⟨hg.os, hg.tape, hg.output, hg.size, fun i hi => hg.block i (by simp; omega) (by simp [Value.ownBlock])⟩)
      obtain ⟨l03, l13, e03, e13, e23, e33, k03, k13, k23, k33⟩ := id m3
      go_wp2_with fail
      refine (ron1 _ _ _ _ _ _ _ h5 h6 h7 h8 h3 h4).mono ?_
      rintro e w4 ⟨rfl, hb4⟩
      have m4 := m3.later hb4
      have q4 := below_call hb4 q3
      have hown4 := row_call hown hb4
      obtain ⟨l04, l14, e04, e14, e24, e34, _, _, _, _⟩ := id m4
      cases hB : Acre.onE c1 c2 d1 d2 b1 1 b2 1
      · have HB : Hid _ := hB
        go_wp2
        go_ret
        exact ⟨_, rfl, by simp [ends1, HA.out, HB.out, flat]; exact hown4, q4⟩
      · have HB : Hid _ := hB
        go_wp2_with (at_builtin; refine wpList_append_own_at _ rfl _ _ 66 rfl w.heap.size 51 i0 (.agg #[.int .i64 0, .int .i64 0]) 2 16 Try.underlying66 hi hz0 hz1 hz2 rfl (by decide) _ _ _ rfl (hown4.alloc _) ⟨w4.heap.size, 0, none⟩ 1 1 [.int .i64 b1, .int .i64 b2] rfl rfl (cell_two_new _ _ _ _) (one2 _ _) (by unfold maxLen; omega) (by omega) ?_ ?_)
        · exact Nat.le_trans q4.size (by simp)
        · intro v5 w5 hown5 hg5 hnil5 hloc5
          have q5 := below_row (below_call (below1 _ _) q4) (hown4.alloc _) hg5
          go_wp2
          go_ret
          exact ⟨_, rfl, by simp [ends1, HA.out, HB.out, flat]; exact hown5, q5⟩

end Go.Proofs.Ytkjlkbgdkdcboaa
