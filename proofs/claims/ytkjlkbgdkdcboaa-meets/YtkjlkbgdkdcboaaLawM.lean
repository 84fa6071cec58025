import Derived.Test.YtkjlkbgdkdcboaaWalksH
import Derived.Deep.Light
namespace Go.Proofs.Ytkjlkbgdkdcboaa
open Go.RowKit Go.Maps
attribute [local go_sem ↓] Go.wp_at_zero Go.wp_at_succ

theorem blt {W w1 : World} (hb : Below W.heap.size W w1) : ∀ b, b < W.heap.size → b < w1.heap.size := fun _ h => Nat.lt_of_lt_of_le h hb.size

theorem undrew {W w1 : World} (hb : Below W.drew.heap.size W.drew w1) : Below W.heap.size W w1 := ⟨hb.os, hb.tape, hb.output, hb.size, hb.block⟩

theorem lt2 (n : Nat) : n < n + 1 + 1 := by omega
theorem lt3 (n : Nat) : n < n + 1 + 1 + 1 := by omega
theorem lt4 (n : Nat) : n < n + 1 + 1 + 1 + 1 := by omega
theorem lt5 (n : Nat) : n < n + 1 + 1 + 1 + 1 + 1 := by omega
theorem lt6 (n : Nat) : n < n + 1 + 1 + 1 + 1 + 1 + 1 := by omega
attribute [local simp] lt2 lt3 lt4 lt5 lt6
attribute [local go_sem] lt2 lt3 lt4 lt5 lt6

theorem s9 {B : Nat} {a b c d e f g h : Int} {W w : World} (m0 : E2 B a b c d e f g h W) (hb : Below W.heap.size W w) : w.cell? ⟨B, 0, none⟩ = some (.int .i64 a) ∧ w.cell? ⟨B, 1, none⟩ = some (.int .i64 b) ∧ w.cell? ⟨B, 2, none⟩ = some (.int .i64 c) ∧ w.cell? ⟨B, 3, none⟩ = some (.int .i64 d) ∧ w.cell? ⟨B + 1, 0, none⟩ = some (.int .i64 e) ∧ w.cell? ⟨B + 1, 1, none⟩ = some (.int .i64 f) ∧ w.cell? ⟨B + 1, 2, none⟩ = some (.int .i64 g) ∧ w.cell? ⟨B + 1, 3, none⟩ = some (.int .i64 h) ∧ Below W.heap.size W w :=
  have m := m0.later hb
  ⟨m.c0, m.c1, m.c2, m.c3, m.d0, m.d1, m.d2, m.d3, hb⟩

set_option maxHeartbeats 400000 in
theorem edge_exact (x0 y0 x1 y1 : Int) (w : World) :
    Calls Try.prog 17 #[.agg #[.int .i64 x0, .int .i64 y0, .int .i64 x1, .int .i64 y1]] w fun e w' => e = .returned (.agg #[.int .i64 x0, .int .i64 y0, .int .i64 x1, .int .i64 y1]) ∧ w' = (w.alloc (.cells #[.int .i64 x0, .int .i64 y0, .int .i64 x1, .int .i64 y1] 46)).alloc (.cells #[.int .i64 x0, .int .i64 y0, .int .i64 x1, .int .i64 y1] 53) := by
  go_enter Try.func17, Try.ntmps17
  go_wp2
  exact bodyPost_ret (v := .agg #[.int .i64 x0, .int .i64 y0, .int .i64 x1, .int .i64 y1]) (by simp [results, Try.results17, go_sem]) rfl ⟨rfl, rfl⟩

/-- two fractions, in two boxes -/
structure F2 (B C : Nat) (x y : Int × Int) (w : World) : Prop where
  x0 : w.cell? ⟨B, 0, none⟩ = some (.int .i64 x.1)
  x1 : w.cell? ⟨B, 1, none⟩ = some (.int .i64 x.2)
  y0 : w.cell? ⟨C, 0, none⟩ = some (.int .i64 y.1)
  y1 : w.cell? ⟨C, 1, none⟩ = some (.int .i64 y.2)
theorem F2.later {B C : Nat} {x y : Int × Int} {w w' : World} (m : F2 B C x y w) (hb : Below w.heap.size w w') : F2 B C x y w' :=
  ⟨cell_later hb m.x0, cell_later hb m.x1, cell_later hb m.y0, cell_later hb m.y1⟩

set_option maxRecDepth 100000 in
theorem eql42 (u v x y : Int) (w' : World) : (binOp .eql 42 (.agg #[.int .i64 u, .int .i64 v]) (.agg #[.int .i64 x, .int .i64 y])).run Try.prog w' = .ok (.bool (u == x && v == y)) w' := by
  go_simp
  by_cases h1 : u = x <;> by_cases h2 : v = y <;> simp [h1, h2]

set_option maxRecDepth 100000 in
set_option maxHeartbeats 20000000 in
theorem meets_walk (a1 a2 b1 b2 c1 c2 d1 d2 : Int) (w : World) :
    Calls Try.prog 5 #[.agg #[.int .i64 a1, .int .i64 a2, .int .i64 b1, .int .i64 b2], .agg #[.int .i64 c1, .int .i64 c2, .int .i64 d1, .int .i64 d2]] w fun e w' => e = .returned (.bool true) ∧ Below w.heap.size w w' := by
  have m0 := E2.start w a1 a2 b1 b2 c1 c2 d1 d2 46 46
  have q0 := below2 w (.cells #[.int .i64 a1, .int .i64 a2, .int .i64 b1, .int .i64 b2] 46) (.cells #[.int .i64 c1, .int .i64 c2, .int .i64 d1, .int .i64 d2] 46)
  obtain ⟨r, hr⟩ : ∃ r, Acre.meet (a1, a2) (b1, b2) (c1, c2) (d1, d2) = r := ⟨_, rfl⟩
  have k15 : ∀ W : World, Calls Try.prog 15 #[.agg #[.int .i64 a1, .int .i64 a2, .int .i64 b1, .int .i64 b2], .agg #[.int .i64 c1, .int .i64 c2, .int .i64 d1, .int .i64 d2]] W fun e w' => e = .returned (.tuple #[.int .i64 r.1, .agg #[.int .i64 r.2.1.1, .int .i64 r.2.1.2], .agg #[.int .i64 r.2.2.1, .int .i64 r.2.2.2]]) ∧ Below W.heap.size W w' := fun W => by
    have := meet_any a1 a2 b1 b2 c1 c2 d1 d2 W; rw [hr] at this; exact this
  have k16 : ∀ W : World, Calls Try.prog 16 #[.agg #[.int .i64 a1, .int .i64 a2, .int .i64 b1, .int .i64 b2], .agg #[.int .i64 c1, .int .i64 c2, .int .i64 d1, .int .i64 d2]] W fun e w' => e = .returned (.tuple #[.int .i64 r.1, .agg #[.int .i64 r.2.1.1, .int .i64 r.2.1.2], .agg #[.int .i64 r.2.2.1, .int .i64 r.2.2.2]]) ∧ Below W.heap.size W w' := fun W => by
    have := rmeet_any a1 a2 b1 b2 c1 c2 d1 d2 W; rw [hr] at this; exact this
  clear hr
  have H15 : Hid _ := k15
  have H16 : Hid _ := k16
  clear k15 k16
  go_enter Try.func5, Try.ntmps5
  go_wp2_with fail
  refine (H15.out _).mono ?_
  rintro e w1 ⟨rfl, hb1⟩
  have m1 := m0.later hb1
  have q1 := below_call hb1 q0
  clear m0 q0 hb1
  go_wp2_with fail
  have fx : F2 w1.heap.size (w1.heap.size + 1) r.2.1 r.2.2 ((w1.alloc (.cells #[.int .i64 r.2.1.1, .int .i64 r.2.1.2] 37)).alloc (.cells #[.int .i64 r.2.2.1, .int .i64 r.2.2.2] 37)) := by
    constructor <;> simp [go_sem]
  have m2 := m1.later (below2 w1 (.cells #[.int .i64 r.2.1.1, .int .i64 r.2.1.2] 37) (.cells #[.int .i64 r.2.2.1, .int .i64 r.2.2.2] 37))
  have q2 := below_call (below2 w1 (.cells #[.int .i64 r.2.1.1, .int .i64 r.2.1.2] 37) (.cells #[.int .i64 r.2.2.1, .int .i64 r.2.2.2] 37)) q1
  generalize ((w1.alloc (.cells #[.int .i64 r.2.1.1, .int .i64 r.2.1.2] 37)).alloc (.cells #[.int .i64 r.2.2.1, .int .i64 r.2.2.2] 37)) = W at *
  clear m1 q1
  obtain ⟨l0, l1, e0, e1, e2, e3, k0, k1, k2, k3⟩ := id m2
  have dr : Below W.heap.size W W.drew := Below.drew (Below.refl _ _)
  go_cut [8, 9, 10] (fun v8 v9 v10 wc => ∃ bu bv : Nat, v8 = .int .i64 r.1 ∧ v9 = .pointer (some ⟨bu, 0, none⟩) ∧ v10 = .pointer (some ⟨bv, 0, none⟩) ∧ Below W.heap.size W wc ∧ F2 bu bv r.2.1 r.2.2 wc)
  case first =>
    go_region_held3 (fun w' => w'.cell? ⟨w.heap.size, 0, none⟩ = some (.int .i64 a1) ∧ w'.cell? ⟨w.heap.size, 1, none⟩ = some (.int .i64 a2) ∧ w'.cell? ⟨w.heap.size, 2, none⟩ = some (.int .i64 b1) ∧ w'.cell? ⟨w.heap.size, 3, none⟩ = some (.int .i64 b2) ∧ w'.cell? ⟨w.heap.size + 1, 0, none⟩ = some (.int .i64 c1) ∧ w'.cell? ⟨w.heap.size + 1, 1, none⟩ = some (.int .i64 c2) ∧ w'.cell? ⟨w.heap.size + 1, 2, none⟩ = some (.int .i64 d1) ∧ w'.cell? ⟨w.heap.size + 1, 3, none⟩ = some (.int .i64 d2) ∧ Below W.heap.size W w')
      ((refine s9 m2 ?_; go_light; first | (go_split_ands; first | exact below_call (below1 _ _) (by assumption) | exact below_call (below2 _ _ _) (by assumption) | exact below_call hb (by assumption)) | (repeat (first | exact Below.refl _ _ | refine below_call (below1 _ _) ?_ | refine Below.setCell ?_ (by have hz := hb.size; simp at hz; dsimp only; omega) _ | refine Below.drew ?_ | refine below_call hb ?_))))
      (first | (go_at_call 17; refine (edge_exact _ _ _ _ _).mono ?_; rintro e w' ⟨rfl, rfl⟩) | (go_at_call 16; refine (H16.out _).mono ?_; rintro e w' ⟨rfl, hb⟩; first | (obtain ⟨hc, hf⟩ := bcell (undrew hb); have hs := blt (undrew hb)) | (obtain ⟨hc, hf⟩ := bcell hb; have hs := blt hb)))
    all_goals go_wp2_with fail
    all_goals go_meet
    all_goals go_light
    all_goals refine ⟨_, _, rfl, rfl, rfl, by go_split_ands; assumption, ?_⟩
    all_goals (constructor <;> simp [go_sem, *])
  case rest =>
    obtain ⟨bu, bv, rfl, rfl, rfl, qc, fu⟩ := hcut
    have fx2 := fx.later qc
    have q3 := below_call qc q2
    obtain ⟨x0, x1, y0, y1⟩ := id fx2
    obtain ⟨u0, u1, v0, v1⟩ := id fu
    have hne := eql42
    have hrr : (r.1 == r.1) = true := by simp
    have hxx : (r.2.1.1 == r.2.1.1 && r.2.1.2 == r.2.1.2) = true := by simp
    have hyy : (r.2.2.1 == r.2.2.1 && r.2.2.2 == r.2.2.2) = true := by simp
    go_wp2_with fail
    go_region_held3 (fun w' => w'.cell? ⟨w1.heap.size, 0, none⟩ = some (.int .i64 r.2.1.1) ∧ w'.cell? ⟨w1.heap.size, 1, none⟩ = some (.int .i64 r.2.1.2) ∧ w'.cell? ⟨w1.heap.size + 1, 0, none⟩ = some (.int .i64 r.2.2.1) ∧ w'.cell? ⟨w1.heap.size + 1, 1, none⟩ = some (.int .i64 r.2.2.2) ∧ w'.cell? ⟨bu, 0, none⟩ = some (.int .i64 r.2.1.1) ∧ w'.cell? ⟨bu, 1, none⟩ = some (.int .i64 r.2.1.2) ∧ w'.cell? ⟨bv, 0, none⟩ = some (.int .i64 r.2.2.1) ∧ w'.cell? ⟨bv, 1, none⟩ = some (.int .i64 r.2.2.2) ∧ Below wc.heap.size wc w')
      ((go_split_ands; refine ⟨?_, ?_, ?_, ?_, ?_, ?_, ?_, ?_, ?_⟩ <;> first | assumption | exact Below.drew (Below.refl _ _) | exact cell_later (by assumption) (by assumption) | exact below_call (by assumption) (by assumption)))
      (first | (go_at_call 14; refine (frac_any _ _ _).mono ?_; rintro e w' ⟨rfl, hb⟩))
    go_split_ands
    go_wp2
    go_ret
    exact ⟨rfl, below_call (by assumption) q3⟩

end Go.Proofs.Ytkjlkbgdkdcboaa
