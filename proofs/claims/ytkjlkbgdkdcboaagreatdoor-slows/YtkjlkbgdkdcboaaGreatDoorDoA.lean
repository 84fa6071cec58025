import Derived.Test.YtkjlkbgdkdcboaaGreatDoorWaA
import Derived.Test.YtkjlkbgdkdcboaaGreatDoorPeA

set_option linter.unusedSimpArgs false
set_option linter.unusedVariables false

set_option linter.unusedSimpArgs false
set_option linter.unusedVariables false

namespace Go.Proofs.YtkjlkbgdkdcboaaGreatDoor.Ref
open Go.RowKit
attribute [local go_sem ↓] Go.wp_at_zero Go.wp_at_succ

set_option maxHeartbeats 400000 in
theorem rgcd_wide (a b : Int) (w : World) (ha : 0 ≤ a ∧ a ≤ 1000000000000000000) (hb : 0 ≤ b ∧ b ≤ 1000000000000000000) :
    Calls Tryz.prog 117 #[.int .i64 a, .int .i64 b] w fun e w' => e = .returned (.int .i64 (Acre.g a b)) ∧ Below w.heap.size w w' := by
  go_enter Tryz.func117, Tryz.ntmps117
  go_wp2
  go_loopw [0, 1] (fun x y wr => ∃ p q : Int, x = .int .i64 p ∧ y = .int .i64 q ∧ (0 ≤ p ∧ p ≤ 1000000000000000000) ∧ (0 ≤ q ∧ q ≤ 1000000000000000000) ∧ Hid (Int.gcd p q = Int.gcd a b) ∧ Below w.heap.size w wr) (fun _ y _ => (intOf y).natAbs)
  case atStart => exact ⟨a, b, rfl, rfl, ha, hb, rfl, Below.refl _ _⟩
  case round =>
    obtain ⟨p, q, rfl, rfl, hp, hq, hg, hw⟩ := hrel
    by_cases h0 : q = 0
    · subst h0
      have hg' : Hid (p.natAbs = Int.gcd a b) := by have h := hg.out; simp at h; exact h
      go_wp2
      go_ret
      exact ⟨ret_int (by unfold Acre.g; rw [← hg'.out]; omega), hw⟩
    · have hs := gcd_step p q h0
      have h00 : (q == 0) = false := by simpa using h0
      have h01 : (q != 0) = true := by simpa using h0
      have H1 : Hid _ := hs.1
      have h2 := hs.2
      clear hs
      have hm0 : 0 ≤ p.tmod q := Int.tmod_nonneg _ hp.1
      have hm : 0 ≤ p.tmod q ∧ p.tmod q ≤ 1000000000000000000 := by omega
      go_wp2
      go_quiet (fail)
      go_wp2
      go_roundw
      case rel =>
        have he : p.tmod q = p % q := Int.tmod_eq_emod_of_nonneg hp.1
        rw [he] at hm
        exact ⟨q, p % q, rfl, rfl, hq, hm, (by have h := H1.out.trans hg.out; rw [he] at h; exact h), below_drewN hw _⟩
      case measure => simp only [intOf]; rw [← Int.tmod_eq_emod_of_nonneg hp.1]; exact h2

set_option maxHeartbeats 400000 in
theorem abs_wide (n : Int) (w : World) (h : -1000000000000000000 ≤ n ∧ n ≤ 1000000000000000000) :
    Calls Tryz.prog 118 #[.int .i64 n] w fun e w' => e = .returned (.int .i64 (n.natAbs : Int)) ∧ w' = w := by
  by_cases h1 : n < 0
  · go_enter Tryz.func118, Tryz.ntmps118
    go_wp2
    go_ret
    exact ⟨ret_int (by omega), rfl⟩
  · go_enter Tryz.func118, Tryz.ntmps118
    go_wp2
    go_ret
    exact ⟨ret_int (by omega), rfl⟩

set_option maxHeartbeats 400000 in
theorem of_wide (n d : Int) (w : World) (hn : -1000000000000000000 ≤ n ∧ n ≤ 1000000000000000000) (hd : -1000000000000000000 ≤ d ∧ d ≤ 1000000000000000000) (h0 : d ≠ 0) :
    Calls Tryz.prog 71 #[.int .i64 n, .int .i64 d] w fun e w' => e = .returned (.agg #[.int .i64 (Acre.low n d).1, .int .i64 (Acre.low n d).2]) ∧ Below w.heap.size w w' := by
  have g1 := Acre.g_pos n d h0
  have g2 := Acre.g_le n d h0
  have g3 : (Acre.g n d == 0) = false := by simp; omega
  by_cases h1 : d < 0
  · have t1 := Acre.tdiv_bd (-n) (Acre.g n d)
    have t2 := Acre.tdiv_bd (-d) (Acre.g n d)
    rw [Int.neg_tdiv] at t1 t2
    have hl := Acre.low_neg n d h1
    have HL : Hid _ := hl
    clear hl
    go_enter Tryz.func71, Tryz.ntmps71
    go_wp2_with fail
    refine (abs_wide _ _ (by omega)).mono ?_
    rintro e w2 ⟨rfl, h2⟩
    subst h2
    go_wp2_with fail
    refine (rgcd_wide _ _ _ (by omega) (by omega)).mono ?_
    rintro e w1 ⟨rfl, hb1⟩
    rw [Acre.g_neg]
    obtain ⟨hc, hf⟩ := bcell hb1
    have hz := hb1.size
    go_wp2_with fail
    go_region
    go_wp2
    refine bodyPost_ret (v := .agg #[.int .i64 (Acre.low n d).1, .int .i64 (Acre.low n d).2]) ?_ rfl ⟨rfl, ?_⟩
    · rw [HL.out]
      simp [results, Tryz.results71, go_sem, hc]
    · exact (((below_call hb1 (below1 _ _)).setCell (Nat.le_refl _) _).setCell (Nat.le_refl _) _).drew
  · have t1 := Acre.tdiv_bd n (Acre.g n d)
    have t2 := Acre.tdiv_bd d (Acre.g n d)
    have hl := Acre.low_pos n d (by omega)
    have HL : Hid _ := hl
    clear hl
    go_enter Tryz.func71, Tryz.ntmps71
    go_wp2_with fail
    refine (abs_wide _ _ (by omega)).mono ?_
    rintro e w2 ⟨rfl, h2⟩
    subst h2
    go_wp2_with fail
    refine (rgcd_wide _ _ _ (by omega) (by omega)).mono ?_
    rintro e w1 ⟨rfl, hb1⟩
    rw [Acre.g_abs]
    obtain ⟨hc, hf⟩ := bcell hb1
    have hz := hb1.size
    go_wp2_with fail
    go_region
    go_wp2
    refine bodyPost_ret (v := .agg #[.int .i64 (Acre.low n d).1, .int .i64 (Acre.low n d).2]) ?_ rfl ⟨rfl, ?_⟩
    · rw [HL.out]
      simp [results, Tryz.results71, go_sem, hc]
    · exact (((below_call hb1 (below1 _ _)).setCell (Nat.le_refl _) _).setCell (Nat.le_refl _) _).drew


set_option maxHeartbeats 400000 in
theorem rbelow_any (an ad bn bd : Int) (w : World) (h1 : -1000000000000000000 ≤ an * bd ∧ an * bd ≤ 1000000000000000000) (h2 : -1000000000000000000 ≤ bn * ad ∧ bn * ad ≤ 1000000000000000000) :
    Calls Tryz.prog 65 #[.agg #[.int .i64 an, .int .i64 ad], .agg #[.int .i64 bn, .int .i64 bd]] w fun e w' => e = .returned (.bool (decide (an * bd < bn * ad))) ∧ Below w.heap.size w w' := by
  go_enter Tryz.func65, Tryz.ntmps65
  go_wp2
  go_ret
  exact ⟨rfl, below2 _ _ _⟩

set_option maxHeartbeats 400000 in
theorem rupright_any (a b c d : Int) (w : World) :
    Calls Tryz.prog 66 #[.agg #[.int .i64 a, .int .i64 b, .int .i64 c, .int .i64 d]] w fun e w' => e = .returned (.bool (decide (a = c))) ∧ Below w.heap.size w w' := by
  go_enter Tryz.func66, Tryz.ntmps66
  go_wp2
  go_ret
  exact ⟨ret_bool (by first | rfl | simp), below1 _ _⟩

/-- an edge from its left end on -/
def leftE (e : Acre.Ed) : Acre.Ed := if e.2.1 < e.1.1 then (e.2, e.1) else e

set_option maxHeartbeats 400000 in
theorem rleft_any (a b c d : Int) (w : World) :
    Calls Tryz.prog 156 #[.agg #[.int .i64 a, .int .i64 b, .int .i64 c, .int .i64 d]] w fun e w' => e = .returned (.agg #[.int .i64 (leftE ((a, b), (c, d))).1.1, .int .i64 (leftE ((a, b), (c, d))).1.2, .int .i64 (leftE ((a, b), (c, d))).2.1, .int .i64 (leftE ((a, b), (c, d))).2.2]) ∧ Below w.heap.size w w' := by
  by_cases h : c < a
  · have hl : leftE ((a, b), (c, d)) = ((c, d), (a, b)) := if_pos h
    rw [hl]
    go_enter Tryz.func156, Tryz.ntmps156
    go_wp2
    refine bodyPost_ret (v := .agg #[.int .i64 c, .int .i64 d, .int .i64 a, .int .i64 b]) (by simp [results, Tryz.results156, go_sem]) rfl ⟨rfl, ?_⟩
    exact below2 _ _ _
  · have hl : leftE ((a, b), (c, d)) = ((a, b), (c, d)) := if_neg h
    rw [hl]
    go_enter Tryz.func156, Tryz.ntmps156
    go_wp2
    refine bodyPost_ret (v := .agg #[.int .i64 a, .int .i64 b, .int .i64 c, .int .i64 d]) (by simp [results, Tryz.results156, go_sem]) rfl ⟨rfl, ?_⟩
    exact below2 _ _ _

/-- what the op makes of two answers -/
def opB (op : Int) (a b : Bool) : Bool := if op = 0 then a && b else if op = 1 then a || b else if op = 2 then a && !b else a != b

set_option maxHeartbeats 400000 in
theorem rop_any (op : Int) (a b : Bool) (w : World) :
    Calls Tryz.prog 121 #[.int .i64 op, .bool a, .bool b] w fun e w' => e = .returned (.bool (opB op a b)) ∧ Below w.heap.size w w' := by
  by_cases h0 : op = 0
  · subst h0
    cases a <;> cases b <;> (go_enter Tryz.func121, Tryz.ntmps121; go_wp2; go_ret; exact ⟨rfl, Below.refl _ _⟩)
  · by_cases h1 : op = 1
    · subst h1
      cases a <;> cases b <;> (go_enter Tryz.func121, Tryz.ntmps121; go_wp2; go_ret; exact ⟨rfl, Below.refl _ _⟩)
    · by_cases h2 : op = 2
      · subst h2
        cases a <;> cases b <;> (go_enter Tryz.func121, Tryz.ntmps121; go_wp2; go_ret; exact ⟨rfl, Below.refl _ _⟩)
      · have e : opB op a b = (a != b) := by simp [opB, h0, h1, h2]
        rw [e]
        cases a <;> cases b <;> (go_enter Tryz.func121, Tryz.ntmps121; go_wp2; go_ret; exact ⟨rfl, Below.refl _ _⟩)

/-- between two fractions -/
def midF (x y : Int × Int) : Int × Int := Acre.low (x.1 * y.2 + y.1 * x.2) (2 * x.2 * y.2)

set_option maxHeartbeats 400000 in
theorem rmiddle_any (an ad bn bd : Int) (w : World) (h1 : -1000000000000000 ≤ an * bd ∧ an * bd ≤ 1000000000000000) (h2 : -1000000000000000 ≤ bn * ad ∧ bn * ad ≤ 1000000000000000) (h3 : -1000000000000000 ≤ 2 * ad ∧ 2 * ad ≤ 1000000000000000) (h4 : -1000000000000000000 ≤ 2 * ad * bd ∧ 2 * ad * bd ≤ 1000000000000000000) (h0 : 2 * ad * bd ≠ 0) :
    Calls Tryz.prog 36 #[.agg #[.int .i64 an, .int .i64 ad], .agg #[.int .i64 bn, .int .i64 bd]] w fun e w' => e = .returned (.agg #[.int .i64 (midF (an, ad) (bn, bd)).1, .int .i64 (midF (an, ad) (bn, bd)).2]) ∧ Below w.heap.size w w' := by
  go_enter Tryz.func36, Tryz.ntmps36
  go_wp2_with fail
  refine (of_wide _ _ _ (by omega) (by omega) (by omega)).mono ?_
  rintro e w1 ⟨rfl, hb1⟩
  obtain ⟨hc, hf⟩ := bcell hb1
  have hz := hb1.size
  go_wp2
  refine bodyPost_ret (v := .agg #[.int .i64 (midF (an, ad) (bn, bd)).1, .int .i64 (midF (an, ad) (bn, bd)).2]) (by simp [results, Tryz.results36, go_sem, hc]; try exact ⟨rfl, rfl⟩) rfl ⟨rfl, ?_⟩
  exact ((below_call hb1 (below3 _ _ _ _)).setCell (by simp; try omega) _).setCell (by simp; try omega) _

/-- the height of an edge's line, at x -/
def hgtF (e : Acre.Ed) (x : Int × Int) : Int × Int :=
  Acre.low (e.1.2 * (e.2.1 - e.1.1) * x.2 + (e.2.2 - e.1.2) * (x.1 - e.1.1 * x.2)) ((e.2.1 - e.1.1) * x.2)

theorem mul_bd {p q P Q : Int} (hp : -P ≤ p ∧ p ≤ P) (hq : -Q ≤ q ∧ q ≤ Q) : -(P * Q) ≤ p * q ∧ p * q ≤ P * Q := by
  have h1 : p.natAbs ≤ P.natAbs := by omega
  have h2 : q.natAbs ≤ Q.natAbs := by omega
  have h3 := Nat.mul_le_mul h1 h2
  rw [← Int.natAbs_mul, ← Int.natAbs_mul] at h3
  have h4 : 0 ≤ P * Q := Int.mul_nonneg (by omega) (by omega)
  omega

set_option maxHeartbeats 400000 in
theorem rheight_any (a b c d n m : Int) (w : World) (h1 : Sm a) (h2 : Sm b) (h3 : Sm c) (h4 : Sm d) (h5 : -1000000000000 ≤ n ∧ n ≤ 1000000000000) (h6 : -1000000000000 ≤ m ∧ m ≤ 1000000000000) (h0 : c ≠ a) (h00 : m ≠ 0) :
    Calls Tryz.prog 69 #[.agg #[.int .i64 a, .int .i64 b, .int .i64 c, .int .i64 d], .agg #[.int .i64 n, .int .i64 m]] w fun e w' => e = .returned (.agg #[.int .i64 (hgtF ((a, b), (c, d)) (n, m)).1, .int .i64 (hgtF ((a, b), (c, d)) (n, m)).2]) ∧ Below w.heap.size w w' := by
  have m1 := mul_bd (p := a) (q := m) (P := 13) h1 h6
  have m2 := mul_bd (p := d - b) (q := n - a * m) (P := 26) (Q := 14000000000000) (by omega) (by omega)
  have m3 := mul_bd (p := b) (q := c - a) (P := 13) (Q := 26) h2 (by omega)
  have m4 := mul_bd (p := b * (c - a)) (q := m) (by exact m3) h6
  have m5 := mul_bd (p := c - a) (q := m) (P := 26) (by omega) h6
  have m6 : (c - a) * m ≠ 0 := Int.mul_ne_zero (by omega) h00
  simp only [Int.reduceMul] at m1 m2 m3 m4 m5
  go_enter Tryz.func69, Tryz.ntmps69
  go_wp2_with fail
  refine (of_wide _ _ _ (by omega) (by omega) (by exact m6)).mono ?_
  rintro e w1 ⟨rfl, hb1⟩
  obtain ⟨hc, hf⟩ := bcell hb1
  have hz := hb1.size
  go_wp2
  refine bodyPost_ret (v := .agg #[.int .i64 (hgtF ((a, b), (c, d)) (n, m)).1, .int .i64 (hgtF ((a, b), (c, d)) (n, m)).2]) (by simp [results, Tryz.results69, go_sem, hc]; try exact ⟨rfl, rfl⟩) rfl ⟨rfl, ?_⟩
  exact ((below_call hb1 (below3 _ _ _ _)).setCell (by simp; try omega) _).setCell (by simp; try omega) _

/-- the x at which the lines through two edges meet -/
def crossX (e f : Acre.Ed) : Int × Int :=
  let d := (e.2.1 - e.1.1) * (f.2.2 - f.1.2) - (e.2.2 - e.1.2) * (f.2.1 - f.1.1)
  Acre.low (e.1.1 * d + ((f.1.1 - e.1.1) * (f.2.2 - f.1.2) - (f.1.2 - e.1.2) * (f.2.1 - f.1.1)) * (e.2.1 - e.1.1)) d

/-- do they meet, and is none upright? -/
def crossB (e f : Acre.Ed) : Bool :=
  !(decide ((e.2.1 - e.1.1) * (f.2.2 - f.1.2) - (e.2.2 - e.1.2) * (f.2.1 - f.1.1) = 0) || decide (e.2.1 - e.1.1 = 0) || decide (f.2.1 - f.1.1 = 0))

def crossV (x : Int × Int) (b : Bool) : Value := .tuple #[.agg #[.int .i64 x.1, .int .i64 x.2], .bool b]

set_option maxHeartbeats 1000000 in
theorem rcrossing_any (a1 a2 b1 b2 c1 c2 d1 d2 : Int) (w : World) (h1 : Sm a1) (h2 : Sm a2) (h3 : Sm b1) (h4 : Sm b2) (h5 : Sm c1) (h6 : Sm c2) (h7 : Sm d1) (h8 : Sm d2) :
    Calls Tryz.prog 68 #[.agg #[.int .i64 a1, .int .i64 a2, .int .i64 b1, .int .i64 b2], .agg #[.int .i64 c1, .int .i64 c2, .int .i64 d1, .int .i64 d2]] w fun e w' =>
      e = .returned (if crossB ((a1, a2), (b1, b2)) ((c1, c2), (d1, d2)) then crossV (crossX ((a1, a2), (b1, b2)) ((c1, c2), (d1, d2))) true else crossV (0, 0) false) ∧ Below w.heap.size w w' := by
  have m1 := mul_bd (p := b1 - a1) (q := d2 - c2) (P := 26) (Q := 26) (by omega) (by omega)
  have m2 := mul_bd (p := b2 - a2) (q := d1 - c1) (P := 26) (Q := 26) (by omega) (by omega)
  have m3 := mul_bd (p := c1 - a1) (q := d2 - c2) (P := 26) (Q := 26) (by omega) (by omega)
  have m4 := mul_bd (p := c2 - a2) (q := d1 - c1) (P := 26) (Q := 26) (by omega) (by omega)
  simp only [Int.reduceMul] at m1 m2 m3 m4
  have m5 := mul_bd (p := a1) (q := (b1 - a1) * (d2 - c2) - (b2 - a2) * (d1 - c1)) (P := 13) (Q := 1352) h1 (by omega)
  have m6 := mul_bd (p := (c1 - a1) * (d2 - c2) - (c2 - a2) * (d1 - c1)) (q := b1 - a1) (P := 1352) (Q := 26) (by omega) (by omega)
  simp only [Int.reduceMul] at m5 m6
  by_cases k1 : (b1 - a1) * (d2 - c2) - (b2 - a2) * (d1 - c1) = 0
  · have e : crossB ((a1, a2), (b1, b2)) ((c1, c2), (d1, d2)) = false := by simp [crossB, k1]
    rw [e]
    have k1' : ((b1 - a1) * (d2 - c2) - (b2 - a2) * (d1 - c1) == 0) = true := by simpa using k1
    go_enter Tryz.func68, Tryz.ntmps68
    go_wp2
    refine bodyPost_ret (v := crossV (0, 0) false) (by simp [results, Tryz.results68, go_sem, crossV]) rfl ⟨rfl, ?_⟩
    repeat first | exact Below.refl _ _ | refine Below.alloc ?_ (by simp; try omega) _ | refine Below.setCell ?_ (by simp; try omega) _ | refine Below.drew ?_
  · have k1' : ((b1 - a1) * (d2 - c2) - (b2 - a2) * (d1 - c1) == 0) = false := by simpa using k1
    by_cases k2 : b1 - a1 = 0
    · have e : crossB ((a1, a2), (b1, b2)) ((c1, c2), (d1, d2)) = false := by simp [crossB, k2]
      rw [e]
      have k2' : (b1 - a1 == 0) = true := by simpa using k2
      have q1 : ¬ (b2 - a2) * (d1 - c1) = 0 := by rw [k2] at k1; omega
      have q2 : b2 - a2 ≠ 0 := fun h => q1 (by rw [h]; simp)
      have q3 : d1 - c1 ≠ 0 := fun h => q1 (by rw [h]; simp)
      have q4 : (-((b2 - a2) * (d1 - c1)) == 0) = false := by simp; exact ⟨by omega, by omega⟩
      clear k1 k1' m5 m6
      go_enter Tryz.func68, Tryz.ntmps68
      go_wp2
      refine bodyPost_ret (v := crossV (0, 0) false) (by simp [results, Tryz.results68, go_sem, crossV]) rfl ⟨rfl, ?_⟩
      repeat first | exact Below.refl _ _ | refine Below.alloc ?_ (by simp; try omega) _ | refine Below.setCell ?_ (by simp; try omega) _ | refine Below.drew ?_
    · have k2' : (b1 - a1 == 0) = false := by simpa using k2
      by_cases k3 : d1 - c1 = 0
      · have e : crossB ((a1, a2), (b1, b2)) ((c1, c2), (d1, d2)) = false := by simp [crossB, k3]
        rw [e]
        have k3' : (d1 - c1 == 0) = true := by simpa using k3
        have q1 : ¬ (b1 - a1) * (d2 - c2) = 0 := by rw [k3] at k1; omega
        have q2 : b1 - a1 ≠ 0 := fun h => q1 (by rw [h]; simp)
        have q3 : d2 - c2 ≠ 0 := fun h => q1 (by rw [h]; simp)
        have q4 : ((b1 - a1) * (d2 - c2) == 0) = false := by simp; exact ⟨by omega, by omega⟩
        clear k1 k1' m5 m6
        go_enter Tryz.func68, Tryz.ntmps68
        go_wp2
        refine bodyPost_ret (v := crossV (0, 0) false) (by simp [results, Tryz.results68, go_sem, crossV]) rfl ⟨rfl, ?_⟩
        repeat first | exact Below.refl _ _ | refine Below.alloc ?_ (by simp; try omega) _ | refine Below.setCell ?_ (by simp; try omega) _ | refine Below.drew ?_
      · have k3' : (d1 - c1 == 0) = false := by simpa using k3
        have e : crossB ((a1, a2), (b1, b2)) ((c1, c2), (d1, d2)) = true := by simp [crossB, k1, k2, k3]
        rw [e]
        go_enter Tryz.func68, Tryz.ntmps68
        go_wp2_with fail
        refine (of_wide _ _ _ (by omega) (by omega) (by exact k1)).mono ?_
        rintro e w1 ⟨rfl, hb1⟩
        obtain ⟨hc, hf⟩ := bcell hb1
        have hz := hb1.size
        go_wp2
        refine bodyPost_ret (v := crossV (crossX ((a1, a2), (b1, b2)) ((c1, c2), (d1, d2))) true) (by simp [results, Tryz.results68, go_sem, hc, crossV]; try exact ⟨rfl, rfl⟩) rfl ⟨rfl, ?_⟩
        exact ((below_call hb1 (below3 _ _ _ _)).setCell (by simp; try omega) _).setCell (by simp; try omega) _

/-- is a line of this height at X below the place? -/
def lowerB (y : Int × Int) (ov : Bool) (h : Int × Int) : Bool := if ov then !decide (y.1 * h.2 < h.1 * y.2) else decide (h.1 * y.2 < y.1 * h.2)

set_option maxHeartbeats 400000 in
theorem rlower_any (xn xd yn yd hn hd : Int) (ov : Bool) (w : World) (h1 : -1000000000000000000 ≤ hn * yd ∧ hn * yd ≤ 1000000000000000000) (h2 : -1000000000000000000 ≤ yn * hd ∧ yn * hd ≤ 1000000000000000000) :
    Calls Tryz.prog 159 #[.agg #[.int .i64 xn, .int .i64 xd, .int .i64 yn, .int .i64 yd, .bool ov], .agg #[.int .i64 hn, .int .i64 hd]] w fun e w' => e = .returned (.bool (lowerB (yn, yd) ov (hn, hd))) ∧ Below w.heap.size w w' := by
  cases ov
  · go_enter Tryz.func159, Tryz.ntmps159
    go_wp2_with fail
    refine (rbelow_any _ _ _ _ _ h1 h2).mono ?_
    rintro e w1 ⟨rfl, hb1⟩
    go_wp2
    go_ret
    exact ⟨rfl, below_call hb1 (below2 _ _ _)⟩
  · go_enter Tryz.func159, Tryz.ntmps159
    go_wp2_with fail
    refine (rbelow_any _ _ _ _ _ h2 h1).mono ?_
    rintro e w1 ⟨rfl, hb1⟩
    go_wp2
    go_ret
    exact ⟨rfl, below_call hb1 (below2 _ _ _)⟩

/-- is the place's Y from the lesser to the greater of two numbers? -/
def covB (y : Int × Int) (ov : Bool) (a b : Int) : Bool :=
  if ov then !decide (y.1 < min a b * y.2) && decide (y.1 < max a b * y.2) else decide (min a b * y.2 ≤ y.1) && decide (y.1 ≤ max a b * y.2)

end Go.Proofs.YtkjlkbgdkdcboaaGreatDoor.Ref

set_option linter.unusedSimpArgs false
set_option linter.unusedVariables false

namespace Go.Proofs.YtkjlkbgdkdcboaaGreatDoor.Ref
open Go.RowKit
attribute [local go_sem ↓] Go.wp_at_zero Go.wp_at_succ

/-- is the place's Y, or just above it, from lo to hi? -/
def covU (yn yd lo hi : Int) : Bool := !decide (yn * 1 < lo * yd) && decide (yn * 1 < hi * yd)

set_option maxHeartbeats 1000000 in
theorem rcoveredU_any (xn xd yn yd a b : Int) (w : World) (ha : -100 ≤ a ∧ a ≤ 100) (hb : -100 ≤ b ∧ b ≤ 100) (hn : -1000000000000000 ≤ yn ∧ yn ≤ 1000000000000000) (hd : -1000000000000000 ≤ yd ∧ yd ≤ 1000000000000000) :
    Calls Tryz.prog 157 #[.agg #[.int .i64 xn, .int .i64 xd, .int .i64 yn, .int .i64 yd, .bool true], .int .i64 a, .int .i64 b] w fun e w' => e = .returned (.bool (covU yn yd (min a b) (max a b))) ∧ Below w.heap.size w w' := by
  have m1 := mul_bd (p := a) (q := yd) (P := 100) (Q := 1000000000000000) ha hd
  have m2 := mul_bd (p := b) (q := yd) (P := 100) (Q := 1000000000000000) hb hd
  simp only [Int.reduceMul] at m1 m2
  obtain ⟨lo, hlo⟩ : ∃ lo, lo = min a b := ⟨_, rfl⟩
  obtain ⟨hi, hhi⟩ : ∃ hi, hi = max a b := ⟨_, rfl⟩
  have l1 : lo = a ∧ hi = b ∨ lo = b ∧ hi = a := by omega
  have m3 : -100000000000000000 ≤ lo * yd ∧ lo * yd ≤ 100000000000000000 := by rcases l1 with ⟨e, _⟩ | ⟨e, _⟩ <;> rw [e] <;> assumption
  have m4 : -100000000000000000 ≤ hi * yd ∧ hi * yd ≤ 100000000000000000 := by rcases l1 with ⟨_, e⟩ | ⟨_, e⟩ <;> rw [e] <;> assumption
  rw [← hlo, ← hhi]
  have hB1 := fun W => rbelow_any yn yd lo 1 W (by omega) (by omega)
  have hB2 := fun W => rbelow_any yn yd hi 1 W (by omega) (by omega)
  obtain ⟨B1, eB1⟩ : ∃ B, decide (yn * 1 < lo * yd) = B := ⟨_, rfl⟩
  obtain ⟨B2, eB2⟩ : ∃ B, decide (yn * 1 < hi * yd) = B := ⟨_, rfl⟩
  unfold covU
  rw [eB1, eB2]
  rw [eB1] at hB1
  rw [eB2] at hB2
  have HB1 := hide hB1
  have HB2 := hide hB2
  clear hB1 hB2 eB1 eB2 m1 m2 m3 m4
  by_cases h : b < a
  · obtain rfl : lo = b := by omega
    obtain rfl : hi = a := by omega
    clear hlo hhi l1
    cases B1 with
    | true =>
      go_enter Tryz.func157, Tryz.ntmps157
      go_wp2_with fail
      refine (HB1.out _).mono ?_
      rintro e w1 ⟨rfl, hb1⟩
      go_wp2
      go_ret
      exact ⟨rfl, below_call hb1 (below1 _ _)⟩
    | false =>
      go_enter Tryz.func157, Tryz.ntmps157
      go_wp2_with fail
      refine (HB1.out _).mono ?_
      rintro e w1 ⟨rfl, hb1⟩
      obtain ⟨hc, hf⟩ := bcell hb1
      have hz := hb1.size
      go_wp2_with fail
      refine (HB2.out _).mono ?_
      rintro e w2 ⟨rfl, hb2⟩
      go_wp2
      go_ret
      exact ⟨ret_bool (by simp), below_call hb2 (below_call hb1 (below1 _ _))⟩
  · obtain rfl : lo = a := by omega
    obtain rfl : hi = b := by omega
    clear hlo hhi l1
    cases B1 with
    | true =>
      go_enter Tryz.func157, Tryz.ntmps157
      go_wp2_with fail
      refine (HB1.out _).mono ?_
      rintro e w1 ⟨rfl, hb1⟩
      go_wp2
      go_ret
      exact ⟨rfl, below_call hb1 (below1 _ _)⟩
    | false =>
      go_enter Tryz.func157, Tryz.ntmps157
      go_wp2_with fail
      refine (HB1.out _).mono ?_
      rintro e w1 ⟨rfl, hb1⟩
      obtain ⟨hc, hf⟩ := bcell hb1
      have hz := hb1.size
      go_wp2_with fail
      refine (HB2.out _).mono ?_
      rintro e w2 ⟨rfl, hb2⟩
      go_wp2
      go_ret
      exact ⟨ret_bool (by simp), below_call hb2 (below_call hb1 (below1 _ _))⟩

set_option maxHeartbeats 1000000 in
theorem rcoveredJ_any (xn xd yn yd a b : Int) (w : World) (hd : 0 ≤ yd) (h2 : -1000000000 ≤ a * yd ∧ a * yd ≤ 1000000000) (h3 : -1000000000 ≤ b * yd ∧ b * yd ≤ 1000000000) :
    Calls Tryz.prog 157 #[.agg #[.int .i64 xn, .int .i64 xd, .int .i64 yn, .int .i64 yd, .bool false], .int .i64 a, .int .i64 b] w fun e w' => e = .returned (.bool (Acre.btw yn yd a b)) ∧ Below w.heap.size w w' := by
  have hB := fun W => rbetween_any yn yd a b W hd h2 h3
  have hB' := fun W => rbetween_any yn yd b a W hd h3 h2
  have e0 := Acre.btw_swap yn yd a b
  rw [← e0] at hB'
  obtain ⟨B, eB⟩ : ∃ B, Acre.btw yn yd a b = B := ⟨_, rfl⟩
  rw [eB] at hB hB'
  rw [eB]
  have HB := hide hB
  have HB' := hide hB'
  clear hB hB' e0 eB h2 h3
  by_cases h : b < a
  · go_enter Tryz.func157, Tryz.ntmps157
    go_wp2_with fail
    refine (HB'.out _).mono ?_
    rintro e w1 ⟨rfl, hb1⟩
    go_wp2
    go_ret
    exact ⟨rfl, below_call hb1 (below1 _ _)⟩
  · go_enter Tryz.func157, Tryz.ntmps157
    go_wp2_with fail
    refine (HB.out _).mono ?_
    rintro e w1 ⟨rfl, hb1⟩
    go_wp2
    go_ret
    exact ⟨rfl, below_call hb1 (below1 _ _)⟩

end Go.Proofs.YtkjlkbgdkdcboaaGreatDoor.Ref

set_option linter.unusedSimpArgs false
set_option linter.unusedVariables false

namespace Go.Proofs.YtkjlkbgdkdcboaaGreatDoor.Ref
open Go.RowKit
attribute [local go_sem ↓] Go.wp_at_zero Go.wp_at_succ

/-- is it a fraction in lowest terms, from -12 to 12? -/
def fairB (N D : Int) : Bool := decide (1 ≤ D) && decide (D ≤ 1152) && (decide (-(12 * D) ≤ N) && decide (N ≤ 12 * D) && Acre.g N D == 1)

set_option maxHeartbeats 2000000 in
theorem rfair_any (N D : Int) (w : World) :
    Calls Tryz.prog 64 #[.agg #[.int .i64 N, .int .i64 D], .int .i64 12] w fun e w' => e = .returned (.bool (fairB N D)) ∧ Below w.heap.size w w' := by
  unfold fairB
  have c0 : (w.alloc (.cells #[.int .i64 N, .int .i64 D] 90)).cell? ⟨w.heap.size, 0, none⟩ = some (.int .i64 N) := by simp [go_sem]
  have c1 : (w.alloc (.cells #[.int .i64 N, .int .i64 D] 90)).cell? ⟨w.heap.size, 1, none⟩ = some (.int .i64 D) := by simp [go_sem]
  have q := below1 w (.cells #[.int .i64 N, .int .i64 D] 90)
  have s0 : IntKind.i64.wrap (-12) = -12 := wrap_in _ (by omega)
  by_cases h1 : 1 ≤ D
  · have d1 : decide (1 ≤ D) = true := by simp; omega
    by_cases h2 : D ≤ 1152
    · have d2 : decide (D ≤ 1152) = true := by simp; omega
      have s1 : IntKind.i64.wrap (-12 * D) = -12 * D := wrap_in _ (by omega)
      have s2 : IntKind.i64.wrap (12 * D) = 12 * D := wrap_in _ (by omega)
      by_cases h3 : -(12 * D) ≤ N
      · have d3 : decide (-12 * D ≤ N) = true := by simp; omega
        by_cases h4 : N ≤ 12 * D
        · have d4 : decide (N ≤ 12 * D) = true := by simp; omega
          have hv : Hid ((decide (1 ≤ D) && decide (D ≤ 1152) && (decide (-(12 * D) ≤ N) && decide (N ≤ 12 * D) && Acre.g N D == 1)) = (Acre.g N D == 1)) := by
            show _ = _; rw [d1, d2, d4, decide_eq_true h3]; simp
          go_enter Tryz.func64, Tryz.ntmps64
          go_wp2_with fail
          generalize w.alloc (.cells #[.int .i64 N, .int .i64 D] 90) = W at *
          go_region_held3 (fun w' => w'.cell? ⟨w.heap.size, 0, none⟩ = some (.int .i64 N) ∧ w'.cell? ⟨w.heap.size, 1, none⟩ = some (.int .i64 D) ∧ Below W.heap.size W w')
            ((go_split_ands; refine ⟨?_, ?_, ?_⟩ <;> first | assumption | exact Below.drew (Below.refl _ _) | exact cell_later (by assumption) (by assumption) | exact below_call (by assumption) (by assumption)))
            (first | (go_at_call 118; refine (abs_any _ _ ?_).mono ?_; omega; rintro e w' ⟨rfl, rfl⟩) | (go_at_call 117; refine (rgcd_any _ _ _ ?_ ?_).mono ?_; omega; omega; rintro e w' ⟨rfl, hb⟩))
          go_split_ands
          go_wp2
          go_ret
          exact ⟨ret_bool (by rw [hv.out, Acre.g_abs]), below_call (by assumption) q⟩
        · have d4 : decide (N ≤ 12 * D) = false := by simp; omega
          have hv : Hid ((decide (1 ≤ D) && decide (D ≤ 1152) && (decide (-(12 * D) ≤ N) && decide (N ≤ 12 * D) && Acre.g N D == 1)) = false) := by
            show _ = _; rw [d1, d2, d4]; simp
          go_enter Tryz.func64, Tryz.ntmps64
          go_wp2_with fail
          go_quiet (fail)
          go_wp2
          go_ret
          exact ⟨ret_bool hv.out.symm, below_drewN q _⟩
      · have d3 : decide (-12 * D ≤ N) = false := by simp; omega
        have hv : Hid ((decide (1 ≤ D) && decide (D ≤ 1152) && (decide (-(12 * D) ≤ N) && decide (N ≤ 12 * D) && Acre.g N D == 1)) = false) := by
          show _ = _; rw [d1, d2, decide_eq_false h3]; simp
        go_enter Tryz.func64, Tryz.ntmps64
        go_wp2_with fail
        go_quiet (fail)
        go_wp2
        go_ret
        exact ⟨ret_bool hv.out.symm, below_drewN q _⟩
    · have d2 : decide (D ≤ 1152) = false := by simp; omega
      have hv : Hid ((decide (1 ≤ D) && decide (D ≤ 1152) && (decide (-(12 * D) ≤ N) && decide (N ≤ 12 * D) && Acre.g N D == 1)) = false) := by
        show _ = _; rw [d2]; simp
      go_enter Tryz.func64, Tryz.ntmps64
      go_wp2_with fail
      go_quiet (fail)
      go_wp2
      go_ret
      exact ⟨ret_bool hv.out.symm, below_drewN q _⟩
  · have d1 : decide (1 ≤ D) = false := by simp; omega
    have hv : Hid ((decide (1 ≤ D) && decide (D ≤ 1152) && (decide (-(12 * D) ≤ N) && decide (N ≤ 12 * D) && Acre.g N D == 1)) = false) := by
      show _ = _; rw [d1]; simp
    go_enter Tryz.func64, Tryz.ntmps64
    go_wp2_with fail
    go_quiet (fail)
    go_wp2
    go_ret
    exact ⟨ret_bool hv.out.symm, below_drewN q _⟩

end Go.Proofs.YtkjlkbgdkdcboaaGreatDoor.Ref

