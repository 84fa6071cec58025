import Derived.Test.YtkjlkbgdkdcboaaGreatDoorProg
import Derived.Test.YtkjlkbgdkdcboaaGreatDoorMaA
import Derived.WalkKit
import Derived.WalkSpells
import Derived.WalkLawsBesides
import Derived.Deep.QuietTactic
import Derived.BigQuiet
import Derived.Deep.RegionHeld3
import Derived.Deep.DrawnRows
import Derived.Deep.AppendLies
import Derived.OwnWalk

set_option linter.unusedSimpArgs false
set_option linter.unusedVariables false

set_option linter.unusedSimpArgs false
set_option linter.unusedVariables false
namespace Go.Proofs.YtkjlkbgdkdcboaaGreatDoor
open Go.RowKit
attribute [local go_sem ↓] Go.wp_at_zero Go.wp_at_succ
theorem ret_int {k : IntKind} {a b : Int} (h : a = b) : Ending.returned (.int k a) = .returned (.int k b) := by rw [h]
theorem ret_bool {a b : Bool} (h : a = b) : Ending.returned (.bool a) = .returned (.bool b) := by rw [h]
set_option maxHeartbeats 400000 in
theorem sign_any (n : Int) (w : World) :
    Calls Tryz.prog 176 #[.int .i64 n] w fun e w' => e = .returned (.int .i64 (Acre.sgn n)) ∧ w' = w := by
  by_cases h1 : n < 0
  · go_enter Tryz.func176, Tryz.ntmps176
    go_wp2
    go_ret
    exact ⟨ret_int (Acre.sgn_neg h1).symm, rfl⟩
  · by_cases h2 : 0 < n
    · go_enter Tryz.func176, Tryz.ntmps176
      go_wp2
      go_ret
      exact ⟨ret_int (Acre.sgn_pos h2).symm, rfl⟩
    · go_enter Tryz.func176, Tryz.ntmps176
      go_wp2
      go_ret
      exact ⟨ret_int (Acre.sgn_zero (by omega) (by omega)).symm, rfl⟩
set_option maxHeartbeats 400000 in
theorem compare_any (N D n : Int) (w : World) (h1 : -1000000000 ≤ N ∧ N ≤ 1000000000) (h2 : -1000000000 ≤ n * D ∧ n * D ≤ 1000000000) :
    Calls Tryz.prog 148 #[.agg #[.int .i64 N, .int .i64 D], .int .i64 n] w fun e w' => e = .returned (.int .i64 (Acre.sgn (N - n * D))) ∧ Below w.heap.size w w' := by
  go_enter Tryz.func148, Tryz.ntmps148
  go_wp2_with (go_at_call 176; refine (sign_any _ _).mono ?_; rintro e w' ⟨rfl, rfl⟩)
  go_ret
  exact ⟨rfl, (Below.refl _ _).alloc (Nat.le_refl _) _⟩
set_option maxHeartbeats 400000 in
theorem keepsSide_any (n : Int) (w : World) :
    Calls Tryz.prog 139 #[.int .i64 n] w fun e w' => e = .returned (.bool (decide (-12 ≤ n ∧ n ≤ 12))) ∧ w' = w := by
  by_cases h1 : -12 ≤ n
  · by_cases h2 : n ≤ 12
    · go_enter Tryz.func139, Tryz.ntmps139
      go_wp2
      go_ret
      exact ⟨ret_bool (by simp; omega), rfl⟩
    · go_enter Tryz.func139, Tryz.ntmps139
      go_wp2
      go_ret
      exact ⟨ret_bool (by simp; omega), rfl⟩
  · go_enter Tryz.func139, Tryz.ntmps139
    go_wp2
    go_ret
    exact ⟨ret_bool (by simp; omega), rfl⟩
theorem wrap_in (n : Int) (h : -9223372036854775808 ≤ n ∧ n ≤ 9223372036854775807) : IntKind.i64.wrap n = n := by
  rw [IntKind.wrap_i64]; omega
theorem bcell {W w1 : World} (hb : Below W.heap.size W w1) : (∀ b o, b < W.heap.size → w1.cell? ⟨b, o, none⟩ = W.cell? ⟨b, o, none⟩) ∧ (∀ b o, b < W.heap.size → w1.frozen? ⟨b, o, none⟩ = W.frozen? ⟨b, o, none⟩) :=
  ⟨fun b o h => hb.cell (p := ⟨b, o, none⟩) h, fun b o h => hb.frozen (p := ⟨b, o, none⟩) h⟩
theorem below_call {W w1 w2 : World} (hb : Below w1.heap.size w1 w2) (h : Below W.heap.size W w1) : Below W.heap.size W w2 := h.trans (hb.mono h.size)
abbrev Fr (N D : Int) : Prop := (-60000 ≤ N ∧ N ≤ 60000) ∧ (-2000 ≤ D ∧ D ≤ 2000)
abbrev Sm (x : Int) : Prop := -13 ≤ x ∧ x ≤ 13
set_option maxHeartbeats 400000 in
theorem between_any (N D a b : Int) (w : World) (h1 : -1000000000 ≤ N ∧ N ≤ 1000000000) (h2 : -1000000000 ≤ a * D ∧ a * D ≤ 1000000000) (h3 : -1000000000 ≤ b * D ∧ b * D ≤ 1000000000) :
    Calls Tryz.prog 104 #[.agg #[.int .i64 N, .int .i64 D], .int .i64 a, .int .i64 b] w fun e w' => e = .returned (.bool (Acre.btw N D a b)) ∧ Below w.heap.size w w' := by
  have s1 := Acre.sgn_bd (N - a * D)
  have s2 := Acre.sgn_bd (N - b * D)
  have s3 := Acre.mul_bd _ _ 1 1 s1 s2
  go_enter Tryz.func104, Tryz.ntmps104
  go_wp2_with fail
  have hB : Below w.heap.size w (w.alloc (.cells #[.int .i64 N, .int .i64 D] 38)) := (Below.refl _ _).alloc (Nat.le_refl _) _
  have c0 : (w.alloc (.cells #[.int .i64 N, .int .i64 D] 38)).cell? ⟨w.heap.size, 0, none⟩ = some (.int .i64 N) := by simp [go_sem]
  have c1 : (w.alloc (.cells #[.int .i64 N, .int .i64 D] 38)).cell? ⟨w.heap.size, 1, none⟩ = some (.int .i64 D) := by simp [go_sem]
  generalize w.alloc (.cells #[.int .i64 N, .int .i64 D] 38) = W at *
  go_region_held3 (fun w' => w'.cell? ⟨w.heap.size, 0, none⟩ = some (.int .i64 N) ∧ w'.cell? ⟨w.heap.size, 1, none⟩ = some (.int .i64 D) ∧ Below W.heap.size W w')
    ((go_split_ands; refine ⟨?_, ?_, ?_⟩ <;> first | assumption | exact Below.drew (Below.refl _ _) | exact cell_later (by assumption) (by assumption) | exact below_call (by assumption) (by assumption)))
    (first | (go_at_call 148; refine (compare_any _ _ _ _ ?_ ?_).mono ?_; assumption; assumption; rintro e w' ⟨rfl, hb⟩))
  go_wp2
  go_ret
  go_split_ands
  exact ⟨ret_bool (by rw [wrap_in _ (by omega)]; exact Acre.btw_prog N D a b), below_call (by assumption) hB⟩
theorem mulOk (a D : Int) (ha : Sm a) (hD : -2000 ≤ D ∧ D ≤ 2000) : -1000000000 ≤ a * D ∧ a * D ≤ 1000000000 := by
  have := Acre.mul_bd a D 13 2000 ha hD; omega
end Go.Proofs.YtkjlkbgdkdcboaaGreatDoor
namespace Go.Proofs.YtkjlkbgdkdcboaaGreatDoor
open Go.RowKit
attribute [local go_sem ↓] Go.wp_at_zero Go.wp_at_succ
theorem below3 (w : World) (a b c : Obj) : Below w.heap.size w (((w.alloc a).alloc b).alloc c) :=
  (((Below.refl _ _).alloc (Nat.le_refl _) _).alloc (by simp) _).alloc (by simp; omega) _
theorem below2 (w : World) (a b : Obj) : Below w.heap.size w ((w.alloc a).alloc b) :=
  ((Below.refl _ _).alloc (Nat.le_refl _) _).alloc (by simp) _
theorem below1 (w : World) (a : Obj) : Below w.heap.size w (w.alloc a) := (Below.refl _ _).alloc (Nat.le_refl _) _
set_option maxHeartbeats 400000 in
theorem difference_any (px py qx qy : Int) (w : World) (h1 : -1000 ≤ px - qx ∧ px - qx ≤ 1000) (h2 : -1000 ≤ py - qy ∧ py - qy ≤ 1000) :
    Calls Tryz.prog 146 #[.agg #[.int .i64 px, .int .i64 py], .agg #[.int .i64 qx, .int .i64 qy]] w fun e w' => e = .returned (.agg #[.int .i64 (px - qx), .int .i64 (py - qy)]) ∧ Below w.heap.size w w' := by
  go_enter Tryz.func146, Tryz.ntmps146
  go_wp2
  exact bodyPost_ret (v := .agg #[.int .i64 (px - qx), .int .i64 (py - qy)]) (by simp [results, Tryz.results146, go_sem]) rfl ⟨rfl, below3 _ _ _ _⟩
set_option maxHeartbeats 400000 in
theorem along_any (x0 y0 x1 y1 : Int) (w : World) (h1 : -1000 ≤ x1 - x0 ∧ x1 - x0 ≤ 1000) (h2 : -1000 ≤ y1 - y0 ∧ y1 - y0 ≤ 1000) :
    Calls Tryz.prog 102 #[.agg #[.int .i64 x0, .int .i64 y0, .int .i64 x1, .int .i64 y1]] w fun e w' => e = .returned (.agg #[.int .i64 (x1 - x0), .int .i64 (y1 - y0)]) ∧ Below w.heap.size w w' := by
  go_enter Tryz.func102, Tryz.ntmps102
  go_wp2_with fail
  refine (difference_any _ _ _ _ _ h1 h2).mono ?_
  rintro e w1 ⟨rfl, hb1⟩
  obtain ⟨hc, hf⟩ := bcell hb1
  have hz := hb1.size
  go_wp2
  exact bodyPost_ret (v := .agg #[.int .i64 (x1 - x0), .int .i64 (y1 - y0)]) (by simp [results, Tryz.results102, go_sem, hc]) rfl ⟨rfl, ((below_call hb1 (below2 _ _ _)).setCell (by simp) _).setCell (by simp) _⟩
set_option maxHeartbeats 400000 in
theorem cross_any (vx vy wx wy : Int) (w : World) (h1 : -10000000 ≤ vx * wy ∧ vx * wy ≤ 10000000) (h2 : -10000000 ≤ vy * wx ∧ vy * wx ≤ 10000000) :
    Calls Tryz.prog 101 #[.agg #[.int .i64 vx, .int .i64 vy], .agg #[.int .i64 wx, .int .i64 wy]] w fun e w' => e = .returned (.int .i64 (vx * wy - vy * wx)) ∧ Below w.heap.size w w' := by
  go_enter Tryz.func101, Tryz.ntmps101
  go_wp2
  go_ret
  exact ⟨rfl, below2 _ _ _⟩
theorem gcd_step (a b : Int) (h : b ≠ 0) : Int.gcd b (a.tmod b) = Int.gcd a b ∧ (a.tmod b).natAbs < b.natAbs := by
  refine ⟨?_, ?_⟩
  · rw [Int.gcd_comm b]
    unfold Int.gcd
    rw [Int.natAbs_tmod, ← Nat.gcd_rec, Nat.gcd_comm]
  · rw [Int.natAbs_tmod]; exact Nat.mod_lt _ (by omega)
set_option maxHeartbeats 400000 in
theorem gcd_any (a b : Int) (w : World) (ha : -1000000000 ≤ a ∧ a ≤ 1000000000) (hb : -1000000000 ≤ b ∧ b ≤ 1000000000) :
    Calls Tryz.prog 170 #[.int .i64 a, .int .i64 b] w fun e w' => e = .returned (.int .i64 (Acre.g a b)) ∧ Below w.heap.size w w' := by
  go_enter Tryz.func170, Tryz.ntmps170
  go_wp2
  go_loopw [0, 1] (fun x y wr => ∃ p q : Int, x = .int .i64 p ∧ y = .int .i64 q ∧ (-1000000000 ≤ p ∧ p ≤ 1000000000) ∧ (-1000000000 ≤ q ∧ q ≤ 1000000000) ∧ Hid (Int.gcd p q = Int.gcd a b) ∧ Below w.heap.size w wr) (fun _ y _ => (intOf y).natAbs)
  case atStart => exact ⟨a, b, rfl, rfl, ha, hb, rfl, Below.refl _ _⟩
  case round =>
    obtain ⟨p, q, rfl, rfl, hp, hq, hg, hw⟩ := hrel
    by_cases h0 : q = 0
    · subst h0
      have hg' : Hid (p.natAbs = Int.gcd a b) := by have h := hg.out; simp at h; exact h
      by_cases h1 : p < 0
      · go_wp2
        go_ret
        exact ⟨ret_int (by unfold Acre.g; rw [← hg'.out]; omega), hw⟩
      · go_wp2
        go_ret
        exact ⟨ret_int (by unfold Acre.g; rw [← hg'.out]; omega), hw⟩
    · have hs := gcd_step p q h0
      have h00 : (q == 0) = false := by simpa using h0
      have h01 : (q != 0) = true := by simpa using h0
      have H1 : Hid _ := hs.1
      have h2 := hs.2
      clear hs
      have hm : -1000000000 ≤ p.tmod q ∧ p.tmod q ≤ 1000000000 := by omega
      go_wp2
      go_quiet (fail)
      go_wp2
      go_roundw
      case rel => exact ⟨q, p.tmod q, rfl, rfl, hq, hm, (H1.out.trans hg.out : _), below_drewN hw _⟩
      case measure => simpa [intOf] using h2
set_option maxHeartbeats 400000 in
theorem lowest_any (n d : Int) (w : World) (hn : -1000000 ≤ n ∧ n ≤ 1000000) (hd : -1000000 ≤ d ∧ d ≤ 1000000) (h0 : d ≠ 0) :
    Calls Tryz.prog 147 #[.int .i64 n, .int .i64 d] w fun e w' => e = .returned (.agg #[.int .i64 (Acre.low n d).1, .int .i64 (Acre.low n d).2]) ∧ Below w.heap.size w w' := by
  obtain ⟨k1, k2⟩ := Acre.com_bd n d h0
  have t1 := Acre.tdiv_bd n (Acre.g n d * Acre.sgn d)
  have t2 := Acre.tdiv_bd d (Acre.g n d * Acre.sgn d)
  have k3 : (Acre.g n d * Acre.sgn d == 0) = false := by simpa using k2
  go_enter Tryz.func147, Tryz.ntmps147
  go_wp2_with fail
  refine (gcd_any _ _ _ (by omega) (by omega)).mono ?_
  rintro e w1 ⟨rfl, hb1⟩
  obtain ⟨hc, hf⟩ := bcell hb1
  have hz := hb1.size
  go_wp2_with fail
  refine (sign_any _ _).mono ?_
  rintro e w2 ⟨rfl, h2⟩
  subst h2
  go_wp2_with fail
  go_region
  go_wp2
  refine bodyPost_ret (v := .agg #[.int .i64 (Acre.low n d).1, .int .i64 (Acre.low n d).2]) ?_ rfl ⟨rfl, ?_⟩
  · simp [results, Tryz.results147, go_sem, hc]
    exact ⟨rfl, rfl⟩
  · exact (((below_call hb1 (below1 _ _)).setCell (Nat.le_refl _) _).setCell (Nat.le_refl _) _).drew
def PtsAt (w : World) (b off : Nat) (ps : List (Int × Int)) : Prop :=
  ∀ k, (h : k < ps.length) → w.cell? ⟨b, off + k * 2, none⟩ = some (.int .i64 ps[k].1) ∧ w.cell? ⟨b, off + k * 2 + 1, none⟩ = some (.int .i64 ps[k].2)
end Go.Proofs.YtkjlkbgdkdcboaaGreatDoor
namespace Go.Proofs.YtkjlkbgdkdcboaaGreatDoor
open Go.RowKit
attribute [local go_sem ↓] Go.wp_at_zero Go.wp_at_succ
end Go.Proofs.YtkjlkbgdkdcboaaGreatDoor
namespace Go.Proofs.YtkjlkbgdkdcboaaGreatDoor
open Go.RowKit
attribute [local go_sem ↓] Go.wp_at_zero Go.wp_at_succ
structure M8 (B : Nat) (a b c d e f g h : Int) (w : World) : Prop where
  l0 : B < w.heap.size
  l1 : B + 1 < w.heap.size
  l2 : B + 1 + 1 < w.heap.size
  l3 : B + 1 + 1 + 1 < w.heap.size
  c0 : w.cell? ⟨B, 0, none⟩ = some (.int .i64 a)
  c1 : w.cell? ⟨B, 1, none⟩ = some (.int .i64 b)
  c2 : w.cell? ⟨B, 2, none⟩ = some (.int .i64 c)
  c3 : w.cell? ⟨B, 3, none⟩ = some (.int .i64 d)
  d0 : w.cell? ⟨B + 1, 0, none⟩ = some (.int .i64 e)
  d1 : w.cell? ⟨B + 1, 1, none⟩ = some (.int .i64 f)
  d2 : w.cell? ⟨B + 1, 2, none⟩ = some (.int .i64 g)
  d3 : w.cell? ⟨B + 1, 3, none⟩ = some (.int .i64 h)
  r0 : w.cell? ⟨B + 1 + 1, 0, none⟩ = some (.int .i64 0)
  r1 : w.cell? ⟨B + 1 + 1, 1, none⟩ = some (.int .i64 0)
  s0 : w.cell? ⟨B + 1 + 1 + 1, 0, none⟩ = some (.int .i64 0)
  s1 : w.cell? ⟨B + 1 + 1 + 1, 1, none⟩ = some (.int .i64 0)
  f0 : w.frozen? ⟨B + 1 + 1, 0, none⟩ = false
  f1 : w.frozen? ⟨B + 1 + 1, 1, none⟩ = false
  g0 : w.frozen? ⟨B + 1 + 1 + 1, 0, none⟩ = false
  g1 : w.frozen? ⟨B + 1 + 1 + 1, 1, none⟩ = false
theorem M8.later {B : Nat} {a b c d e f g h : Int} {w w' : World} (m : M8 B a b c d e f g h w) (hb : Below w.heap.size w w') : M8 B a b c d e f g h w' := by
  have hl := m.l3
  exact ⟨Nat.lt_of_lt_of_le m.l0 hb.size, Nat.lt_of_lt_of_le m.l1 hb.size, Nat.lt_of_lt_of_le m.l2 hb.size, Nat.lt_of_lt_of_le m.l3 hb.size, cell_later hb m.c0, cell_later hb m.c1, cell_later hb m.c2, cell_later hb m.c3, cell_later hb m.d0, cell_later hb m.d1, cell_later hb m.d2, cell_later hb m.d3,
    cell_later hb m.r0, cell_later hb m.r1, cell_later hb m.s0, cell_later hb m.s1,
    (hb.frozen (by simp; omega)).trans m.f0, (hb.frozen (by simp; omega)).trans m.f1, (hb.frozen (by simp; omega)).trans m.g0, (hb.frozen (by simp; omega)).trans m.g1⟩
theorem M8.start (w : World) (a b c d e f g h : Int) (t1 t2 t3 t4 : TypeId) :
    M8 w.heap.size a b c d e f g h ((((w.alloc (.cells #[.int .i64 a, .int .i64 b, .int .i64 c, .int .i64 d] t1)).alloc (.cells #[.int .i64 e, .int .i64 f, .int .i64 g, .int .i64 h] t2)).alloc (.cells #[.int .i64 0, .int .i64 0] t3)).alloc (.cells #[.int .i64 0, .int .i64 0] t4)) := by
  constructor <;> simp [go_sem] <;> omega
theorem below4 (w : World) (a b c d : Obj) : Below w.heap.size w ((((w.alloc a).alloc b).alloc c).alloc d) :=
  ((((Below.refl _ _).alloc (Nat.le_refl _) _).alloc (by simp) _).alloc (by simp; omega) _).alloc (by simp; omega) _
def peek (w : World) (a : Addr) : Value := (w.cell? a).getD .nilIface
theorem peek_some {w : World} {a : Addr} {v : Value} (h : w.cell? a = some v) : w.cell? a = some (peek w a) := by
  unfold peek; rw [h]; rfl
theorem peek_later {w w' : World} {a : Addr} (hb : Below w.heap.size w w') (h : w.cell? a = some (peek w a)) : w'.cell? a = some (peek w' a) :=
  peek_some (cell_later hb h)
theorem peek_set2 {w : World} {a p q : Addr} {x y : Value} (h : w.cell? a = some (peek w a)) : ((w.setCell p x).setCell q y).cell? a = some (peek ((w.setCell p x).setCell q y) a) := by
  obtain ⟨v, hv⟩ := cell?_setCell_some (p := p) (x := x) h
  obtain ⟨v', hv'⟩ := cell?_setCell_some (p := q) (x := y) hv
  exact peek_some hv'
theorem frozen_later {w w' : World} {a : Addr} {v : Value} (hb : Below w.heap.size w w') (h : w.cell? a = some v) (hf : w.frozen? a = false) : w'.frozen? a = false :=
  (hb.frozen (World.block_lt_of_cell? _ _ h)).trans hf
theorem cell_set2 {w : World} {a p q : Addr} {x y v : Value} (h : w.cell? a = some v) (hp : p.block ≠ a.block) (hq : q.block ≠ a.block) : ((w.setCell p x).setCell q y).cell? a = some v := by
  rw [World.cell?_setCell_far _ _ _ _ hq, World.cell?_setCell_far _ _ _ _ hp]; exact h
theorem frozen_set2 {w : World} {a p q : Addr} {x y : Value} (h : w.frozen? a = false) : ((w.setCell p x).setCell q y).frozen? a = false := by
  simpa [go_sem] using h
def CrS (w : World) (B1 : Nat) (a1 a2 p q : Int) (W : World) : Prop := W.cell? ⟨w.heap.size, 0, none⟩ = some (.int .i64 a1) ∧ W.cell? ⟨w.heap.size, 1, none⟩ = some (.int .i64 a2) ∧ W.cell? ⟨B1, 0, none⟩ = some (.int .i64 p) ∧ W.cell? ⟨B1, 1, none⟩ = some (.int .i64 q) ∧ Below w.heap.size w W ∧ W.cell? ⟨w.heap.size + 1 + 1, 0, none⟩ = some (peek W ⟨w.heap.size + 1 + 1, 0, none⟩) ∧ W.frozen? ⟨w.heap.size + 1 + 1, 0, none⟩ = false ∧ W.cell? ⟨w.heap.size + 1 + 1, 1, none⟩ = some (peek W ⟨w.heap.size + 1 + 1, 1, none⟩) ∧ W.frozen? ⟨w.heap.size + 1 + 1, 1, none⟩ = false ∧ W.cell? ⟨w.heap.size + 1 + 1 + 1, 0, none⟩ = some (peek W ⟨w.heap.size + 1 + 1 + 1, 0, none⟩) ∧ W.frozen? ⟨w.heap.size + 1 + 1 + 1, 0, none⟩ = false ∧ W.cell? ⟨w.heap.size + 1 + 1 + 1, 1, none⟩ = some (peek W ⟨w.heap.size + 1 + 1 + 1, 1, none⟩) ∧ W.frozen? ⟨w.heap.size + 1 + 1 + 1, 1, none⟩ = false
theorem CrS.call {w V W : World} {B1 : Nat} {a1 a2 p q : Int} (hb : Below V.heap.size V W) (h : CrS w B1 a1 a2 p q V) : CrS w B1 a1 a2 p q W := by
  obtain ⟨s1, s2, s3, s4, s5, p0, z0, p1, z1, p2, z2, p3, z3⟩ := h
  exact ⟨cell_later hb s1, cell_later hb s2, cell_later hb s3, cell_later hb s4, below_call hb s5, peek_later hb p0, frozen_later hb p0 z0, peek_later hb p1, frozen_later hb p1 z1, peek_later hb p2, frozen_later hb p2 z2, peek_later hb p3, frozen_later hb p3 z3⟩
theorem CrS.drew {w V : World} {B1 : Nat} {a1 a2 p q : Int} (h : CrS w B1 a1 a2 p q V) : CrS w B1 a1 a2 p q V.drew :=
  CrS.call (Below.drew (Below.refl _ _)) h
theorem CrS.set2 {w V : World} {B1 : Nat} {a1 a2 p q : Int} {x y : Addr} {u v : Value} (h : CrS w B1 a1 a2 p q V) (hx : w.heap.size < x.block) (hy : w.heap.size < y.block) (kx : x.block < B1) (ky : y.block < B1) : CrS w B1 a1 a2 p q ((V.setCell x u).setCell y v) := by
  obtain ⟨s1, s2, s3, s4, s5, p0, z0, p1, z1, p2, z2, p3, z3⟩ := h
  exact ⟨cell_set2 s1 (by simp; omega) (by simp; omega), cell_set2 s2 (by simp; omega) (by simp; omega), cell_set2 s3 (by simp; omega) (by simp; omega), cell_set2 s4 (by simp; omega) (by simp; omega), (s5.setCell (by omega) _).setCell (by omega) _, peek_set2 p0, frozen_set2 z0, peek_set2 p1, frozen_set2 z1, peek_set2 p2, frozen_set2 z2, peek_set2 p3, frozen_set2 z3⟩
def crV (x y : Int × Int) : Value := .tuple #[.agg #[.int .i64 x.1, .int .i64 x.2], .agg #[.int .i64 y.1, .int .i64 y.2]]
set_option maxHeartbeats 8000000 in
theorem crossing_any (a1 a2 b1 b2 c1 c2 d1 d2 t : Int) (w : World) (h1 : Sm a1) (h2 : Sm a2) (h3 : Sm b1) (h4 : Sm b2) (h5 : Sm c1) (h6 : Sm c2) (h7 : Sm d1) (h8 : Sm d2) (ht : -1352 ≤ t ∧ t ≤ 1352) (ht0 : t ≠ 0) :
    Calls Tryz.prog 103 #[.agg #[.int .i64 a1, .int .i64 a2, .int .i64 b1, .int .i64 b2], .agg #[.int .i64 c1, .int .i64 c2, .int .i64 d1, .int .i64 d2], .int .i64 t] w fun e w' => e = .returned (crV (Acre.crossX a1 a2 b1 c1 c2 d1 d2 t) (Acre.crossY a1 a2 b2 c1 c2 d1 d2 t)) ∧ Below w.heap.size w w' := by
  have m0 := M8.start w a1 a2 b1 b2 c1 c2 d1 d2 42 42 38 38
  have q0 := below4 w (.cells #[.int .i64 a1, .int .i64 a2, .int .i64 b1, .int .i64 b2] 42) (.cells #[.int .i64 c1, .int .i64 c2, .int .i64 d1, .int .i64 d2] 42) (.cells #[.int .i64 0, .int .i64 0] 38) (.cells #[.int .i64 0, .int .i64 0] 38)
  have b1' := Acre.mul_bd (c1 - a1) (d2 - c2) 26 26 (by omega) (by omega)
  have b2' := Acre.mul_bd (c2 - a2) (d1 - c1) 26 26 (by omega) (by omega)
  have hsh : -1352 ≤ Acre.share a1 a2 c1 c2 d1 d2 ∧ Acre.share a1 a2 c1 c2 d1 d2 ≤ 1352 := by unfold Acre.share; omega
  have e1 := Acre.mul_bd a1 t 13 1352 h1 ht
  have e2 := Acre.mul_bd a2 t 13 1352 h2 ht
  have e3 := Acre.mul_bd (Acre.share a1 a2 c1 c2 d1 d2) (b1 - a1) 1352 26 hsh (by omega)
  have e4 := Acre.mul_bd (Acre.share a1 a2 c1 c2 d1 d2) (b2 - a2) 1352 26 hsh (by omega)
  have hX : Hid (Acre.low (a1 * t + Acre.share a1 a2 c1 c2 d1 d2 * (b1 - a1)) t = Acre.crossX a1 a2 b1 c1 c2 d1 d2 t) := rfl
  have hY : Hid (Acre.low (a2 * t + Acre.share a1 a2 c1 c2 d1 d2 * (b2 - a2)) t = Acre.crossY a1 a2 b2 c1 c2 d1 d2 t) := rfl
  unfold Acre.share at e3 e4 hX hY hsh
  go_enter Tryz.func103, Tryz.ntmps103
  go_wp2_with fail
  refine (along_any _ _ _ _ _ (by omega) (by omega)).mono ?_
  rintro e w1 ⟨rfl, hb1⟩
  have m1 := m0.later hb1
  have q1 := below_call hb1 q0
  clear hb1 m0 q0
  go_wp2_with fail
  have m2 := m1.later (below1 w1 (.cells #[.int .i64 (b1 - a1), .int .i64 (b2 - a2)] 40))
  have q2 := below_call (below1 w1 (.cells #[.int .i64 (b1 - a1), .int .i64 (b2 - a2)] 40)) q1
  have v0 : (w1.alloc (.cells #[.int .i64 (b1 - a1), .int .i64 (b2 - a2)] 40)).cell? ⟨w1.heap.size, 0, none⟩ = some (.int .i64 (b1 - a1)) := by simp [go_sem]
  have v1 : (w1.alloc (.cells #[.int .i64 (b1 - a1), .int .i64 (b2 - a2)] 40)).cell? ⟨w1.heap.size, 1, none⟩ = some (.int .i64 (b2 - a2)) := by simp [go_sem]
  generalize w1.alloc (.cells #[.int .i64 (b1 - a1), .int .i64 (b2 - a2)] 40) = W at *
  have n1 := m1.l3
  clear m1 q1
  obtain ⟨lt0, lt1, lt2, lt3, c0, c1', c2', c3, d0, d1', d2', d3, r0, r1, s0, s1, f0, f1, g0, g1⟩ := id m2
  go_region_held3 (fun w' => w'.cell? ⟨w.heap.size, 0, none⟩ = some (.int .i64 a1) ∧ w'.cell? ⟨w.heap.size, 1, none⟩ = some (.int .i64 a2) ∧ w'.cell? ⟨w.heap.size + 1, 0, none⟩ = some (.int .i64 c1) ∧ w'.cell? ⟨w.heap.size + 1, 1, none⟩ = some (.int .i64 c2) ∧ w'.cell? ⟨w.heap.size + 1, 2, none⟩ = some (.int .i64 d1) ∧ w'.cell? ⟨w.heap.size + 1, 3, none⟩ = some (.int .i64 d2) ∧ Below W.heap.size W w')
    ((go_split_ands; refine ⟨?_, ?_, ?_, ?_, ?_, ?_, ?_⟩ <;> first | assumption | exact Below.drew (Below.refl _ _) | exact cell_later (by assumption) (by assumption) | exact below_call (by assumption) (by assumption)))
    (first | (go_at_call 146; refine (difference_any _ _ _ _ _ ?_ ?_).mono ?_; omega; omega; rintro e w' ⟨rfl, hb⟩) | (go_at_call 102; refine (along_any _ _ _ _ _ ?_ ?_).mono ?_; omega; omega; rintro e w' ⟨rfl, hb⟩) | (go_at_call 101; refine (cross_any _ _ _ _ _ ?_ ?_).mono ?_; omega; omega; rintro e w' ⟨rfl, hb⟩))
  go_split_ands
  have hW' : Below W.heap.size W w' := by assumption
  have m3 := m2.later hW'
  have q3 := below_call hW' q2
  have v0' := cell_later hW' v0
  have v1' := cell_later hW' v1
  obtain ⟨lt03, lt13, lt23, lt33, c03, c13, c23, c33, d03, d13, d23, d33, r03, r13, s03, s13, f03, f13, g03, g13⟩ := id m3
  clear m2 q2 v0 v1 c0 c1' c2' c3 d0 d1' d2' d3 r0 r1 s0 s1 f0 f1 g0 g1 lt0 lt1 lt2 lt3 hW'
  have x1 := wrap_in (a1 * t) (by omega)
  have x2 := wrap_in (((c1 - a1) * (d2 - c2) - (c2 - a2) * (d1 - c1)) * (b1 - a1)) (by omega)
  have x3 := wrap_in (a1 * t + ((c1 - a1) * (d2 - c2) - (c2 - a2) * (d1 - c1)) * (b1 - a1)) (by omega)
  have y1 := wrap_in (a2 * t) (by omega)
  have y2 := wrap_in (((c1 - a1) * (d2 - c2) - (c2 - a2) * (d1 - c1)) * (b2 - a2)) (by omega)
  have y3 := wrap_in (a2 * t + ((c1 - a1) * (d2 - c2) - (c2 - a2) * (d1 - c1)) * (b2 - a2)) (by omega)
  go_wp2_with fail
  have z0 := peek_some r03
  have z1 := peek_some r13
  have z2 := peek_some s03
  have z3 := peek_some s13
  clear r03 r13 s03 s13 m3 c23 c33 d03 d13 d23 d33
  have hS : CrS w w1.heap.size a1 a2 (b1 - a1) (b2 - a2) w' := ⟨c03, c13, v0', v1', q3, z0, f03, z1, f13, z2, g03, z3, g13⟩
  clear lt03 lt13 lt23 lt33
  go_region_held3 (fun w'' => w''.cell? ⟨w.heap.size, 0, none⟩ = some (.int .i64 a1) ∧ w''.cell? ⟨w.heap.size, 1, none⟩ = some (.int .i64 a2) ∧ w''.cell? ⟨w1.heap.size, 0, none⟩ = some (.int .i64 (b1 - a1)) ∧ w''.cell? ⟨w1.heap.size, 1, none⟩ = some (.int .i64 (b2 - a2)) ∧ Below w.heap.size w w'' ∧ w''.cell? ⟨w.heap.size + 1 + 1, 0, none⟩ = some (peek w'' ⟨w.heap.size + 1 + 1, 0, none⟩) ∧ w''.frozen? ⟨w.heap.size + 1 + 1, 0, none⟩ = false ∧ w''.cell? ⟨w.heap.size + 1 + 1, 1, none⟩ = some (peek w'' ⟨w.heap.size + 1 + 1, 1, none⟩) ∧ w''.frozen? ⟨w.heap.size + 1 + 1, 1, none⟩ = false ∧ w''.cell? ⟨w.heap.size + 1 + 1 + 1, 0, none⟩ = some (peek w'' ⟨w.heap.size + 1 + 1 + 1, 0, none⟩) ∧ w''.frozen? ⟨w.heap.size + 1 + 1 + 1, 0, none⟩ = false ∧ w''.cell? ⟨w.heap.size + 1 + 1 + 1, 1, none⟩ = some (peek w'' ⟨w.heap.size + 1 + 1 + 1, 1, none⟩) ∧ w''.frozen? ⟨w.heap.size + 1 + 1 + 1, 1, none⟩ = false)
    ((show CrS w w1.heap.size a1 a2 (b1 - a1) (b2 - a2) _
      first
        | exact hS
        | exact hS.drew
        | exact CrS.call (by assumption) (by assumption)
        | exact CrS.call (by assumption) ⟨by assumption, by assumption, by assumption, by assumption, by assumption, by assumption, by assumption, by assumption, by assumption, by assumption, by assumption, by assumption, by assumption⟩
        | exact CrS.set2 (by assumption) (by simp; omega) (by simp; omega) (by simp; omega) (by simp; omega)
        | exact CrS.set2 ⟨by assumption, by assumption, by assumption, by assumption, by assumption, by assumption, by assumption, by assumption, by assumption, by assumption, by assumption, by assumption, by assumption⟩ (by simp; omega) (by simp; omega) (by simp; omega) (by simp; omega)))
    ((go_at_call 147; try simp only [x1, x2, x3, y1, y2, y3]
      refine (lowest_any _ _ _ ?_ ?_ ht0).mono ?_
      omega
      omega
      rintro e w'' ⟨rfl, hb⟩))
  have hS2 : CrS w w1.heap.size a1 a2 (b1 - a1) (b2 - a2) w'' := CrS.call hb (CrS.call (by assumption) hS.drew)
  obtain ⟨s1', s2', s3', s4', s5, p0, k0, p1, k1, p2, k2, p3, k3⟩ := id hS2
  go_wp2
  refine bodyPost_ret (v := crV (Acre.crossX a1 a2 b1 c1 c2 d1 d2 t) (Acre.crossY a1 a2 b2 c1 c2 d1 d2 t)) ?_ rfl ⟨rfl, ?_⟩
  · rw [← hX.out, ← hY.out]; simp [results, Tryz.results103, go_sem, crV, p0, p1, p2, p3]
  · exact (((s5.setCell (by simp; omega) _).setCell (by simp; omega) _).setCell (by simp; omega) _).setCell (by simp; omega) _
end Go.Proofs.YtkjlkbgdkdcboaaGreatDoor
namespace Go.Proofs.YtkjlkbgdkdcboaaGreatDoor
open Go.RowKit
attribute [local go_sem ↓] Go.wp_at_zero Go.wp_at_succ
end Go.Proofs.YtkjlkbgdkdcboaaGreatDoor
namespace Go.Proofs.YtkjlkbgdkdcboaaGreatDoor
open Go.RowKit
attribute [local go_sem ↓] Go.wp_at_zero Go.wp_at_succ
def Ring (w : World) (s : Value) (ps : List Acre.Pt) : Prop :=
  ∃ ga b off cap, s = .slice ga ps.length cap ∧ (0 < ps.length → ga = some ⟨b, off, none⟩ ∧ b < w.heap.size) ∧ PtsAt w b off ps
def Rings (w : World) (v : Value) (R : List (List Acre.Pt)) : Prop :=
  ∃ ga b off cap, v = .slice ga R.length cap ∧ (0 < R.length → ga = some ⟨b, off, none⟩) ∧ ∀ i (h : i < R.length), ∃ s, w.cell? ⟨b, off + i, none⟩ = some s ∧ Ring w s R[i]
theorem PtsAt.later {w w' : World} {b off : Nat} {ps : List Acre.Pt} (h : PtsAt w b off ps) (hb : Below w.heap.size w w') : PtsAt w' b off ps :=
  fun k hk => ⟨cell_later hb (h k hk).1, cell_later hb (h k hk).2⟩
theorem Ring.later {w w' : World} {s : Value} {ps : List Acre.Pt} (h : Ring w s ps) (hb : Below w.heap.size w w') : Ring w' s ps := by
  obtain ⟨ga, b, off, cap, h1, h2, h3⟩ := h
  exact ⟨ga, b, off, cap, h1, fun h => ⟨(h2 h).1, Nat.lt_of_lt_of_le (h2 h).2 hb.size⟩, h3.later hb⟩
theorem Rings.later {w w' : World} {v : Value} {R : List (List Acre.Pt)} (h : Rings w v R) (hb : Below w.heap.size w w') : Rings w' v R := by
  obtain ⟨ga, b, off, cap, h1, h2, h3⟩ := h
  refine ⟨ga, b, off, cap, h1, h2, fun i hi => ?_⟩
  obtain ⟨s, k1, k2⟩ := h3 i hi
  exact ⟨s, cell_later hb k1, k2.later hb⟩
end Go.Proofs.YtkjlkbgdkdcboaaGreatDoor
namespace Go.Proofs.YtkjlkbgdkdcboaaGreatDoor
open Go.RowKit
attribute [local go_sem ↓] Go.wp_at_zero Go.wp_at_succ
theorem info46 : (Tryz.prog.info? 42).map (fun i => (i.zero, i.size, i.bytes)) = some (some (.agg #[.int .i64 0, .int .i64 0, .int .i64 0, .int .i64 0]), 4, 32) := by kernel_rfl
def flatE (es : List Acre.Ed) : List Value := es.flatMap fun e => [.int .i64 e.1.1, .int .i64 e.1.2, .int .i64 e.2.1, .int .i64 e.2.2]
theorem flatE_append (a b : List Acre.Ed) : flatE (a ++ b) = flatE a ++ flatE b := by simp [flatE]
theorem edgesOf_take (R : List (List Acre.Pt)) (k : Nat) (h : k < R.length) : Acre.edgesOf (R.take (k + 1)) = Acre.edgesOf (R.take k) ++ Acre.edgesTo R[k] R[k].length := by
  unfold Acre.edgesOf
  rw [List.take_succ_eq_append_getElem h, List.flatMap_append]; simp
theorem fieldOk_ring {R : List (List Acre.Pt)} (h : Acre.fieldOk R = true) (k : Nat) (hk : k < R.length) : 3 ≤ R[k].length ∧ R[k].length ≤ 6 := by
  unfold Acre.fieldOk at h
  simp only [Bool.and_eq_true, decide_eq_true_eq, List.all_eq_true] at h
  have := h.2 R[k] (List.getElem_mem hk)
  unfold Acre.ringOk at this
  simp only [Bool.and_eq_true, decide_eq_true_eq] at this
  exact this.1
theorem fieldOk_len {R : List (List Acre.Pt)} (h : Acre.fieldOk R = true) : R.length ≤ 2 := by
  unfold Acre.fieldOk at h
  simp only [Bool.and_eq_true, decide_eq_true_eq] at h
  exact h.1
set_option maxRecDepth 100000 in
set_option maxHeartbeats 4000000 in
theorem edgesOf_any (R : List (List Acre.Pt)) (v : Value) (w : World) (hR : Rings w v R) (hF : Acre.fieldOk R = true) :
    Calls Tryz.prog 24 #[v] w fun e w' => ∃ u, e = .returned u ∧ w'.ownsRow w.heap.size 42 4 u (Acre.edgesOf R).length (flatE (Acre.edgesOf R)) ∧ Below w.heap.size w w' := by
  obtain ⟨ga, b, off, cap, rfl, hga, hcs⟩ := hR
  obtain ⟨i0, hi, hz0, hz1, hz2⟩ := info_parts info46
  have hR2 := fieldOk_len hF
  have hrk := fieldOk_ring hF
  have Hrk : Hid _ := hrk
  clear hF hrk
  go_enter Tryz.func24, Tryz.ntmps24
  go_wp2
  go_loopw [3, 10] (fun l i wr => ∃ k : Nat, i = .int .i64 k ∧ k ≤ R.length ∧ Hid ((Acre.edgesOf (R.take k)).length ≤ 6 * k ∧ wr.ownsRow w.heap.size 42 4 l (Acre.edgesOf (R.take k)).length (flatE (Acre.edgesOf (R.take k))) ∧ Below w.heap.size w wr)) (fun _ i _ => R.length - (intOf i).toNat)
  case atStart => exact ⟨0, rfl, Nat.zero_le _, by simp [Acre.edgesOf], World.ownsRow_nil _ _ _ _, Below.refl _ _⟩
  case round =>
    obtain ⟨k, rfl, hk, hr⟩ := hrel
    by_cases hlt : k < R.length
    · obtain ⟨hE, o1, hw⟩ := hr.out
      obtain rfl := hga (by omega)
      obtain ⟨s, hs, hring⟩ := hcs k hlt
      have hs' := cell_later hw hs
      obtain ⟨hr3, hr6⟩ := Hrk.out k hlt
      obtain ⟨ra, rb, roff, rcap, rfl, hra, hpts0⟩ := hring
      have het := edgesOf_take R k hlt
      obtain ⟨r, hrr⟩ : ∃ r, R[k] = r := ⟨_, rfl⟩
      rw [hrr] at hs' hr3 hr6 hra hpts0 het
      obtain ⟨rfl, hrb⟩ := hra (by omega)
      obtain ⟨E, hEE⟩ : ∃ E, Acre.edgesOf (R.take k) = E := ⟨_, rfl⟩
      rw [hEE] at hE o1 het
      have Het : Hid _ := het
      clear het hs hrr hEE hr
      go_wp2
      go_loopw [3, 16] (fun l i w2 => ∃ j : Nat, i = .int .i64 j ∧ j ≤ r.length ∧ Hid (w2.ownsRow w.heap.size 42 4 l (E.length + j) (flatE (E ++ Acre.edgesTo r j)) ∧ Below w.heap.size w w2)) (fun _ i _ => r.length - (intOf i).toNat)
      case atStart => exact ⟨0, rfl, Nat.zero_le _, by simpa [Acre.edgesTo] using o1, hw⟩
      case round =>
        obtain ⟨j, rfl, hj, hr2⟩ := hrel
        by_cases hjl : j < r.length
        · obtain ⟨o2, hw2⟩ := hr2.out
          have hpts := hpts0.later hw2
          obtain ⟨p0, p1⟩ := hpts j hjl
          obtain ⟨jn, hjn⟩ : ∃ jn, (j + 1) % r.length = jn := ⟨_, rfl⟩
          have hjl' : jn < r.length := by rw [← hjn]; exact Nat.mod_lt _ (by omega)
          have hmod : ((j : Int) + 1) % (r.length : Int) = (jn : Int) := by rw [← hjn]; simp
          obtain ⟨n0, n1⟩ := hpts jn hjl'
          go_wp2_with fail
          have q0 := below1 wr (.cells #[.int .i64 r[j].1, .int .i64 r[j].2] 40)
          have c0 : (wr.alloc (.cells #[.int .i64 r[j].1, .int .i64 r[j].2] 40)).cell? ⟨wr.heap.size, 0, none⟩ = some (.int .i64 r[j].1) := by simp [go_sem]
          have c1 : (wr.alloc (.cells #[.int .i64 r[j].1, .int .i64 r[j].2] 40)).cell? ⟨wr.heap.size, 1, none⟩ = some (.int .i64 r[j].2) := by simp [go_sem]
          have n0' := cell_later q0 n0
          have n1' := cell_later q0 n1
          have o2' := o2.alloc (.cells #[.int .i64 r[j].1, .int .i64 r[j].2] 40)
          have hu : ∀ c, u3.ownBlock = some c → w.heap.size ≤ c ∧ c < wr.heap.size := o2.lt
          have hwP := below_call q0 hw2
          have lP : wr.heap.size < (wr.alloc (.cells #[.int .i64 r[j].1, .int .i64 r[j].2] 40)).heap.size := World.block_lt_of_cell? _ _ c0
          generalize wr.alloc (.cells #[.int .i64 r[j].1, .int .i64 r[j].2] 40) = WP at *
          have lb : rb < WP.heap.size := World.block_lt_of_cell? _ _ n0'
          have av : u3.ownBlock ≠ some wr.heap.size := fun e => by have := hu _ e; omega
          have ak : u3.ownBlock ≠ some rb := fun e => by have := hu _ e; omega
          have hj0 : (0 : Int) ≤ (jn : Int) := Int.natCast_nonneg _
          have hj1 : (jn : Int) < (r.length : Int) := by omega
          have hd : r.getD j (0, 0) = r[j] := by simp [List.getD, hjl]
          have hdn : r.getD jn (0, 0) = r[jn] := by simp [List.getD, hjl']
          have hes : Acre.edgesTo r (j + 1) = Acre.edgesTo r j ++ [(r[j], r[jn])] := by rw [Acre.edgesTo_succ, hjn, hd, hdn]
          have Hes : Hid _ := hes
          clear hes hd hdn hjn p0 p1 n0 n1 q0
          have hrm : ((j : Int) + 1).tmod (r.length : Int) = (jn : Int) := by rw [Int.tmod_eq_emod_of_nonneg (by omega)]; exact hmod
          have hnil : ¬ r = [] := fun e => by rw [e] at hr3; simp at hr3
          have hsum : IntKind.i64.wrap ((j : Int) + 1) = (j : Int) + 1 := wrap_in _ (by omega)
          clear hmod
          generalize r[j] = pj at *
          generalize r[jn] = pn at *
          go_region_held3 (fun w' => w'.cell? ⟨wr.heap.size, 0, none⟩ = some (.int .i64 pj.1) ∧ w'.cell? ⟨wr.heap.size, 1, none⟩ = some (.int .i64 pj.2) ∧ w'.cell? ⟨rb, roff + jn * 2, none⟩ = some (.int .i64 pn.1) ∧ w'.cell? ⟨rb, roff + jn * 2 + 1, none⟩ = some (.int .i64 pn.2))
            (first
              | go_keep
              | (go_split_ands
                 refine ⟨?_, ?_, ?_, ?_⟩
                 · (rw [hgrow.cell_far _ (Nat.lt_trans lP (by simp)) (Ne.symm av)]; assumption)
                 · (rw [hgrow.cell_far _ (Nat.lt_trans lP (by simp)) (Ne.symm av)]; assumption)
                 · (rw [hgrow.cell_far _ (Nat.lt_trans lb (by simp)) (Ne.symm ak)]; assumption)
                 · (rw [hgrow.cell_far _ (Nat.lt_trans lb (by simp)) (Ne.symm ak)]; assumption)))
            ((refine step_append_lies _ (by rfl) _ _ _ (by rfl) w.heap.size 42 i0 _ 4 32 Tryz.underlying46 hi hz0 hz1 hz2 rfl (by omega) u3 (E.length + j) (flatE (E ++ Acre.edgesTo r j)) (by rfl) ((o2'.alloc _).drew)
                ⟨WP.heap.size, 0, none⟩ 1 1 [.int .i64 pj.1, .int .i64 pj.2, .int .i64 pn.1, .int .i64 pn.2] (by rfl) (by rfl) (World.news_of_block (cs := #[.int .i64 pj.1, .int .i64 pj.2, .int .i64 pn.1, .int .i64 pn.2]) (t := 42) (fr := (0, 0)) (heap_alloc_new WP _)) (by simp [Value.oneCell'])
                (by omega) (by unfold maxLen; omega) (by omega) (by have := hwP.size; simp; omega) (WP.heap.size + 1) (by simp) ?_; intro gg cap' w1 hown1 hgrow hat hlt'))
          have n1 : w1.ownsRow w.heap.size 42 4 (.slice (some ⟨gg, 0, none⟩) (E.length + j + 1) cap') (E.length + (j + 1)) (flatE (E ++ Acre.edgesTo r (j + 1))) := by
            rw [Hes.out, ← List.append_assoc, flatE_append]; exact hown1
          have n2 : Below w.heap.size w w1 := (Below.drew (hwP.alloc hwP.size _)).grown hgrow (by have := hwP.size; simp; omega) (fun c hc => (hu c hc).1)
          have NN : Hid (w1.ownsRow w.heap.size 42 4 (.slice (some ⟨gg, 0, none⟩) (E.length + j + 1) cap') (E.length + (j + 1)) (flatE (E ++ Acre.edgesTo r (j + 1))) ∧ Below w.heap.size w w1) := ⟨n1, n2⟩
          clear n1 n2 hown1 hgrow
          go_wp2
          go_roundw
          case rel => exact ⟨j + 1, by go_num, by omega, NN⟩
          case measure => simp [intOf]; omega
        · obtain rfl : j = r.length := by omega
          obtain ⟨o2, hw2⟩ := hr2.out
          rw [← Het.out] at o2
          have hlen : (Acre.edgesOf (R.take (k + 1))).length = E.length + r.length := by
            rw [Het.out, List.length_append]; simp [Acre.edgesTo]
          rw [← hlen] at o2
          have NN : Hid ((Acre.edgesOf (R.take (k + 1))).length ≤ 6 * (k + 1) ∧ wr.ownsRow w.heap.size 42 4 u3 (Acre.edgesOf (R.take (k + 1))).length (flatE (Acre.edgesOf (R.take (k + 1)))) ∧ Below w.heap.size w wr) := ⟨by omega, o2, hw2⟩
          clear o2 hw2 hlen
          go_wp2
          go_roundw
          case rel => exact ⟨k + 1, by go_num, by omega, NN⟩
          case measure => simp [intOf]; omega
    · obtain rfl : k = R.length := by omega
      obtain ⟨hE, o1, hw⟩ := hr.out
      rw [List.take_of_length_le (Nat.le_refl _)] at o1
      go_wp2
      go_ret
      exact ⟨_, rfl, o1, hw⟩
end Go.Proofs.YtkjlkbgdkdcboaaGreatDoor
