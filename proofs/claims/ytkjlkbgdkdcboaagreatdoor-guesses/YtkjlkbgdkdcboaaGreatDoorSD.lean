import Derived.Test.YtkjlkbgdkdcboaaGreatDoorSC

set_option linter.unusedSimpArgs false
set_option linter.unusedVariables false

set_option linter.unusedSimpArgs false
set_option linter.unusedVariables false
namespace Go.Proofs.YtkjlkbgdkdcboaaGreatDoor
open Go.RowKit Go.Maps Fl
attribute [local go_sem ↓] Go.wp_at_zero Go.wp_at_succ
def ngW (x : Nat) : Nat := x ^^^ 9223372036854775808
theorem ng_mod (x : Nat) : ngW x % 9223372036854775808 = x % 9223372036854775808 := by
  unfold ngW
  have := Nat.xor_mod_two_pow (a := x) (b := 9223372036854775808) (n := 63)
  rw [show (2 : Nat) ^ 63 = 9223372036854775808 by decide] at this
  rw [this]
  simp
theorem ng_sign (x : Nat) : (ngW x / 9223372036854775808 % 2 == 1) = !(x / 9223372036854775808 % 2 == 1) := by
  have h1 := Nat.testBit_eq_decide_div_mod_eq (x := ngW x) (i := 63)
  have h2 := Nat.testBit_eq_decide_div_mod_eq (x := x) (i := 63)
  have h3 : (ngW x).testBit 63 = !(x.testBit 63) := by
    unfold ngW
    rw [Nat.testBit_xor, show (9223372036854775808 : Nat).testBit 63 = true by decide]
    simp
  rw [show (2 : Nat) ^ 63 = 9223372036854775808 by decide] at h1 h2
  rw [h1, h2] at h3
  exact h3
theorem ng_read (x : Nat) : Ieee.double.read (ngW x) = (Ieee.double.read x).opposite := by
  have e1 : Ieee.double.signWeight = 9223372036854775808 := by decide
  unfold Ieee.Format.read
  simp only [e1, ng_mod, ng_sign]
  split
  · rfl
  · split
    · rfl
    · split <;> rfl
theorem ng_z {x : Nat} {a : Int} (h : Zn x a) : Zn (ngW x) (-a) := by
  obtain ⟨s, m, p, e⟩ := h.fi
  have e2 := ng_read x
  rw [e] at e2
  refine ⟨⟨!s, m, p, e2⟩, ?_⟩
  have hv : V x = dv (.number s m p) := by unfold V; rw [e]
  have hv2 : V (ngW x) = dv (.number (!s) m p) := by unfold V; rw [e2]; rfl
  rw [hv2]
  have := opp_dv s m p
  rw [show Ieee.Datum.opposite (.number s m p) = .number (!s) m p from rfl] at this
  rw [this, ← hv, h.v]
  simp
theorem run_ng (x : Nat) (w : World) : (Op.unary .neg (.float .f64 x)).run Tryz.prog w = .ok (.float .f64 (ngW x)) w := rfl
theorem cmul_z {a b c d : Nat} {A B C D : Int} (ha : Zn a A) (hb : Zn b B) (hc : Zn c C) (hd : Zn d D) (lA : -1000 ≤ A ∧ A ≤ 1000) (lB : -1000 ≤ B ∧ B ≤ 1000) (lC : -1000 ≤ C ∧ C ≤ 1000) (lD : -1000 ≤ D ∧ D ≤ 1000) :
    ∃ re im, cMulBits a b c d = some (re, im) ∧ Zn re (A * C - B * D) ∧ Zn im (A * D + B * C) := by
  have bd : ∀ {u v : Int}, -1000 ≤ u ∧ u ≤ 1000 → -1000 ≤ v ∧ v ≤ 1000 → -1000000 ≤ u * v ∧ u * v ≤ 1000000 := by
    intro u v hu hv
    have p1 : 0 ≤ (1000 - u) * (1000 - v) := Int.mul_nonneg (by omega) (by omega)
    have p2 : 0 ≤ (1000 + u) * (1000 + v) := Int.mul_nonneg (by omega) (by omega)
    have p3 : 0 ≤ (1000 - u) * (1000 + v) := Int.mul_nonneg (by omega) (by omega)
    have p4 : 0 ≤ (1000 + u) * (1000 - v) := Int.mul_nonneg (by omega) (by omega)
    constructor <;> grind
  have b1 := bd lA lC
  have b2 := bd lB lD
  have b3 := bd lA lD
  have b4 := bd lB lC
  obtain ⟨ac, e1, z1⟩ := mul_z ha hc (by omega) (by omega)
  obtain ⟨bdd, e2, z2⟩ := mul_z hb hd (by omega) (by omega)
  obtain ⟨ad, e3, z3⟩ := mul_z ha hd (by omega) (by omega)
  obtain ⟨bc, e4, z4⟩ := mul_z hb hc (by omega) (by omega)
  obtain ⟨re, e5, z5⟩ := sub_z z1 z2 (by omega) (by omega)
  obtain ⟨im, e6, z6⟩ := add_z z3 z4 (by omega) (by omega)
  refine ⟨re, im, ?_, z5, z6⟩
  have f1 : floatBits .mul .f64 a c = some ac := e1
  have f2 : floatBits .mul .f64 b d = some bdd := e2
  have f3 : floatBits .mul .f64 a d = some ad := e3
  have f4 : floatBits .mul .f64 b c = some bc := e4
  have f5 : floatBits .sub .f64 ac bdd = some re := e5
  have f6 : floatBits .add .f64 ad bc = some im := e6
  unfold cMulBits
  simp [f1, f2, f3, f4, f5, f6]
set_option maxRecDepth 100000 in
theorem turnOf_any (va vb wa wb : Nat) (A B C D : Int) (ha : Zn va A) (hb : Zn vb B) (hc : Zn wa C) (hd : Zn wb D) (lA : -1000 ≤ A ∧ A ≤ 1000) (lB : -1000 ≤ B ∧ B ≤ 1000) (lC : -1000 ≤ C ∧ C ≤ 1000) (lD : -1000 ≤ D ∧ D ≤ 1000) :
    ∃ r, Zn r (A * D - B * C) ∧ ∀ W, Calls Tryz.prog 78 #[.complex .f64 va vb, .complex .f64 wa wb] W fun e w' => e = .returned (.float .f64 r) ∧ w' = W := by
  obtain ⟨re, im, e1, _, z2⟩ := cmul_z ha (ng_z hb) hc hd lA (by omega) lC lD
  have hmul : ∀ w, (binOp .mul 120 (.complex .f64 va (ngW vb)) (.complex .f64 wa wb)).run Tryz.prog w = .ok (.complex .f64 re im) w := fun w => run_complex_mul w 120 va (ngW vb) wa wb re im e1
  have hng := run_ng vb
  have HZ : Hid (Zn im (A * D - B * C)) := hide (by
    have e : A * D + -B * C = A * D - B * C := by grind
    rw [← e]; exact z2)
  clear e1 z2 ha hb hc hd
  refine ⟨im, HZ.out, fun W => ?_⟩
  clear HZ
  go_enter Tryz.func78, Tryz.ntmps78
  go_wp2_with fail
  go_ret
  exact ⟨rfl, rfl⟩
end Go.Proofs.YtkjlkbgdkdcboaaGreatDoor

set_option linter.unusedSimpArgs false
set_option linter.unusedVariables false
namespace Go.Proofs.YtkjlkbgdkdcboaaGreatDoor
open Go.RowKit Go.Maps Fl
attribute [local go_sem ↓] Go.wp_at_zero Go.wp_at_succ
theorem quo_n {x y : Nat} {n m : Int} (hx : Zn x n) (hy : Zn y m) (h1 : -2000 ≤ n ∧ n ≤ 2000) (h2 : m ≤ -1) : ∃ r, Ieee.double.div x y = some r ∧ Md r ((2000 : Int) : Rat) := by
  have hm : (0 : Rat) < -(m : Rat) := by
    have : ((1 : Int) : Rat) ≤ ((-m : Int) : Rat) := Rat.intCast_le_intCast.2 (by omega)
    simp at this
    grind
  have hm1 : (1 : Rat) ≤ -(m : Rat) := by
    have : ((1 : Int) : Rat) ≤ ((-m : Int) : Rat) := Rat.intCast_le_intCast.2 (by omega)
    simpa using this
  have n1 : -((2000 : Int) : Rat) ≤ (n : Rat) := by have : ((-2000 : Int) : Rat) ≤ (n : Rat) := Rat.intCast_le_intCast.2 h1.1; simpa using this
  have n2 : (n : Rat) ≤ ((2000 : Int) : Rat) := Rat.intCast_le_intCast.2 h1.2
  have hdm : (n : Rat) / (m : Rat) * (m : Rat) = (n : Rat) := Rat.div_mul_cancel (by grind)
  have e2 : ((2000 : Int) : Rat) = 2000 := rfl
  rw [e2] at n1 n2
  have q1 : -((2000 : Int) : Rat) ≤ (n : Rat) / (m : Rat) := by
    refine (mle hm).1 ?_
    rw [e2]
    grind
  have q2 : (n : Rat) / (m : Rat) ≤ ((2000 : Int) : Rat) := by
    refine (mle hm).1 ?_
    rw [e2]
    grind
  have hb := big_ok (K := 2000) (by omega) q1 q2
  obtain ⟨r, e1, e3⟩ := div_nr (q := (n : Rat) / (m : Rat)) hx.fi hy.fi (by rw [hy.v]; grind) (by rw [hx.v, hy.v]; exact hdm) hb.1 hb.2
  exact ⟨r, e1, nr_md e3 (by omega) q1 q2⟩
theorem csub_z {a b c d : Nat} {A B C D : Int} (ha : Zn a A) (hb : Zn b B) (hc : Zn c C) (hd : Zn d D) (lA : -1000 ≤ A ∧ A ≤ 1000) (lB : -1000 ≤ B ∧ B ≤ 1000) (lC : -1000 ≤ C ∧ C ≤ 1000) (lD : -1000 ≤ D ∧ D ≤ 1000) :
    ∃ re im, (∀ w, (binOp .sub 120 (.complex .f64 a b) (.complex .f64 c d)).run Tryz.prog w = .ok (.complex .f64 re im) w) ∧ Zn re (A - C) ∧ Zn im (B - D) := by
  obtain ⟨r1, e1, z1⟩ := sub_z ha hc (by omega) (by omega)
  obtain ⟨r2, e2, z2⟩ := sub_z hb hd (by omega) (by omega)
  refine ⟨r1, r2, fun w => run_complex_sum w .sub (.inr rfl) 120 .f64 a b c d r1 r2 ?_, z1, z2⟩
  have f1 : floatBits .sub .f64 a c = some r1 := e1
  have f2 : floatBits .sub .f64 b d = some r2 := e2
  unfold cSumBits
  simp [f1, f2]
theorem cross_bits {sh wx wy fx fy : Nat} (h : Md sh ((2000 : Int) : Rat)) (hwx : Md wx ((24 : Int) : Rat)) (hwy : Md wy ((24 : Int) : Rat)) (hfx : Md fx ((12 : Int) : Rat)) (hfy : Md fy ((12 : Int) : Rat)) :
    ∃ p q u v, (∀ w, (binOp .mul 120 (.complex .f64 sh 0) (.complex .f64 wx wy)).run Tryz.prog w = .ok (.complex .f64 p q) w) ∧ (∀ w, (binOp .add 120 (.complex .f64 fx fy) (.complex .f64 p q)).run Tryz.prog w = .ok (.complex .f64 u v) w) ∧ Md u 1048576 ∧ Md v 1048576 := by
  have h0 : Md 0 ((0 : Int) : Rat) := zn_md (K := 0) zZERO (by omega) (by omega)
  obtain ⟨ac, e1, z1⟩ := mul_md (K := 48000) h hwx (by omega) (by omega)
  obtain ⟨bd, e2, z2⟩ := mul_md (K := 0) h0 hwy (by omega) (by omega)
  obtain ⟨ad, e3, z3⟩ := mul_md (K := 48000) h hwy (by omega) (by omega)
  obtain ⟨bc, e4, z4⟩ := mul_md (K := 0) h0 hwx (by omega) (by omega)
  obtain ⟨re, e5, z5⟩ := sub_md (K := 48000) z1 z2 (by omega) (by omega)
  obtain ⟨im, e6, z6⟩ := add_md (K := 48000) z3 z4 (by omega) (by omega)
  obtain ⟨u, e7, z7⟩ := add_md (K := 48012) hfx z5 (by omega) (by omega)
  obtain ⟨v, e8, z8⟩ := add_md (K := 48012) hfy z6 (by omega) (by omega)
  refine ⟨re, im, u, v, fun w => run_complex_mul w 120 sh 0 wx wy re im ?_, fun w => run_complex_sum w .add (.inl rfl) 120 .f64 fx fy re im u v ?_, md_mono z7 (by decide), md_mono z8 (by decide)⟩
  · have f1 : floatBits .mul .f64 sh wx = some ac := e1
    have f2 : floatBits .mul .f64 0 wy = some bd := e2
    have f3 : floatBits .mul .f64 sh wy = some ad := e3
    have f4 : floatBits .mul .f64 0 wx = some bc := e4
    have f5 : floatBits .sub .f64 ac bd = some re := e5
    have f6 : floatBits .add .f64 ad bc = some im := e6
    unfold cMulBits
    simp [f1, f2, f3, f4, f5, f6]
  · have f7 : floatBits .add .f64 fx re = some u := e7
    have f8 : floatBits .add .f64 fy im = some v := e8
    unfold cSumBits
    simp [f7, f8]
set_option maxRecDepth 100000 in
set_option maxHeartbeats 2000000 in
theorem scross_any (s t : Sk) (a b c d a' b' c' d' K : Int) (tr : Nat) (hs : SkOk s a b c d) (ht : SkOk t a' b' c' d') (hk : Zn tr K) (hK : K ≤ -1) :
    ∃ u v, Md u 1048576 ∧ Md v 1048576 ∧ ∀ W, Calls Tryz.prog 80 #[skV s, skV t, .float .f64 tr] W fun e w' => e = .returned (.complex .f64 u v) ∧ Below W.heap.size W w' := by
  have s1 := hs.la
  have s2 := hs.lb
  have s3 := hs.lc
  have s4 := hs.ld
  have t1 := ht.la
  have t2 := ht.lb
  have t3 := ht.lc
  have t4 := ht.ld
  obtain ⟨r1, r2, g1, z1, z2⟩ := csub_z ht.ax ht.ay hs.ax hs.ay (by omega) (by omega) (by omega) (by omega)
  obtain ⟨r3, r4, g2, z3, z4⟩ := csub_z ht.bx ht.bye ht.ax ht.ay (by omega) (by omega) (by omega) (by omega)
  obtain ⟨r5, r6, g3, z5, z6⟩ := csub_z hs.bx hs.bye hs.ax hs.ay (by omega) (by omega) (by omega) (by omega)
  obtain ⟨r7, z7, hT⟩ := turnOf_any r1 r2 r3 r4 _ _ _ _ z1 z2 z3 z4 (by omega) (by omega) (by omega) (by omega)
  have hb7 : -2000 ≤ (a' - a) * (d' - b') - (b' - b) * (c' - a') ∧ (a' - a) * (d' - b') - (b' - b) * (c' - a') ≤ 2000 := by
    have bd : ∀ {u v : Int}, -24 ≤ u ∧ u ≤ 24 → -24 ≤ v ∧ v ≤ 24 → -576 ≤ u * v ∧ u * v ≤ 576 := by
      intro u v hu hv
      have p1 : 0 ≤ (24 - u) * (24 - v) := Int.mul_nonneg (by omega) (by omega)
      have p2 : 0 ≤ (24 + u) * (24 + v) := Int.mul_nonneg (by omega) (by omega)
      have p3 : 0 ≤ (24 - u) * (24 + v) := Int.mul_nonneg (by omega) (by omega)
      have p4 : 0 ≤ (24 + u) * (24 - v) := Int.mul_nonneg (by omega) (by omega)
      constructor <;> grind
    have b1 := bd (u := a' - a) (v := d' - b') (by omega) (by omega)
    have b2 := bd (u := b' - b) (v := c' - a') (by omega) (by omega)
    omega
  obtain ⟨sh, e8, z8⟩ := quo_n z7 hk hb7 hK
  have hq : ∀ w, (binOp .quo 116 (.float .f64 r7) (.float .f64 tr)).run Tryz.prog w = .ok (.float .f64 sh) w := fun w => run_float_arith w .quo 116 .f64 r7 tr sh e8
  obtain ⟨p, q, u, v, g4, g5, mu, mv⟩ := cross_bits z8 (zn_md (K := 24) z5 (by omega) (by omega)) (zn_md (K := 24) z6 (by omega) (by omega)) (zn_md (K := 12) hs.ax (by omega) (by omega)) (zn_md (K := 12) hs.ay (by omega) (by omega))
  refine ⟨u, v, mu, mv, fun W => ?_⟩
  have HT := hide hT
  clear mu mv z1 z2 z3 z4 z5 z6 z7 z8 e8 hb7 hs ht hk hK s1 s2 s3 s4 t1 t2 t3 t4 hT
  obtain ⟨sn, ⟨sa, sb⟩, ⟨sc, sd⟩⟩ := s
  obtain ⟨tn, ⟨ta, tb⟩, ⟨tc, td⟩⟩ := t
  unfold skV
  dsimp only at *
  go_enter Tryz.func80, Tryz.ntmps80
  go_wp2_with fail
  refine (HT.out _).mono ?_
  rintro e w9 ⟨rfl, hw9⟩
  rw [hw9]
  clear hw9 w9
  go_wp2_with fail
  go_ret
  refine ⟨rfl, ?_⟩
  exact Below.alloc (Below.alloc (Below.refl _ _) (Nat.le_refl _) _) (by simp) _
end Go.Proofs.YtkjlkbgdkdcboaaGreatDoor

set_option linter.unusedSimpArgs false
set_option linter.unusedVariables false
namespace Go.Proofs.YtkjlkbgdkdcboaaGreatDoor
open Go.RowKit Go.Maps Fl
attribute [local go_sem ↓] Go.wp_at_zero Go.wp_at_succ
set_option maxRecDepth 100000 in
theorem leastF_any (x y g : Nat) (W : World) (h : W.cell? ⟨g, 0, none⟩ = some (.float .f64 y)) (hx : Fi x) (hy : Fi y) :
    Calls Tryz.prog 81 #[.float .f64 x, .slice (some ⟨g, 0, none⟩) 1 1] W fun e w' => ∃ r, e = .returned (.float .f64 r) ∧ (r = x ∨ r = y) ∧ w' = W := by
  have hc := cmp_lt hy hx
  clear hx hy
  by_cases hl : V y < V x
  · have d := hc.trans (decide_eq_true hl)
    clear hc
    go_enter Tryz.func81, Tryz.ntmps81
    go_wp2
    go_loopw [0, 6, 9] (fun u _ v wr => ∃ i r : Nat, v = .int .i64 (i : Nat) ∧ i ≤ 1 ∧ u = .float .f64 r ∧ (i = 0 ∧ r = x ∨ i = 1 ∧ r = y) ∧ wr = W) (fun _ _ v _ => 1 - (intOf v).toNat)
    case atStart => exact ⟨0, x, rfl, by omega, rfl, .inl ⟨rfl, rfl⟩, rfl⟩
    case round =>
      obtain ⟨i, r, rfl, hi, rfl, hr, hw⟩ := hrel
      subst hw
      rcases hr with ⟨rfl, rfl⟩ | ⟨rfl, rfl⟩
      · go_wp2
        go_roundw
        case rel => exact ⟨1, y, rfl, by omega, rfl, .inr ⟨rfl, rfl⟩, by first | rfl | trivial⟩
        case measure => simp [intOf]
      · go_wp2
        go_ret
        exact ⟨_, rfl, .inr rfl, by first | rfl | trivial⟩
  · have d := hc.trans (decide_eq_false hl)
    clear hc
    go_enter Tryz.func81, Tryz.ntmps81
    go_wp2
    go_loopw [0, 6, 9] (fun u _ v wr => ∃ i : Nat, v = .int .i64 (i : Nat) ∧ i ≤ 1 ∧ u = .float .f64 x ∧ wr = W) (fun _ _ v _ => 1 - (intOf v).toNat)
    case atStart => exact ⟨0, rfl, by omega, rfl, rfl⟩
    case round =>
      obtain ⟨i, rfl, hi, rfl, hw⟩ := hrel
      subst hw
      rcases (show i = 0 ∨ i = 1 by omega) with rfl | rfl
      · go_wp2
        go_roundw
        case rel => exact ⟨1, rfl, by omega, rfl, by first | rfl | trivial⟩
        case measure => simp [intOf]
      · go_wp2
        go_ret
        exact ⟨_, rfl, .inl rfl, by first | rfl | trivial⟩
end Go.Proofs.YtkjlkbgdkdcboaaGreatDoor

set_option linter.unusedSimpArgs false
set_option linter.unusedVariables false
namespace Go.Proofs.YtkjlkbgdkdcboaaGreatDoor
open Go.RowKit Go.Maps Fl
def turnI (a b c d a' b' c' d' : Int) : Int := (c - a) * (d' - b') - (d - b) * (c' - a')
theorem turnI_anti (a b c d a' b' c' d' : Int) : turnI a b c d a' b' c' d' = -turnI a' b' c' d' a b c d := by unfold turnI; grind
structure TrIs (s t : Sk) (wx wy vx vy r : Nat) (K : Int) : Prop where
  ws : ∀ w, (binOp .sub 120 (.complex .f64 s.2.2.1 s.2.2.2) (.complex .f64 s.2.1.1 s.2.1.2)).run Tryz.prog w = .ok (.complex .f64 wx wy) w
  wt : ∀ w, (binOp .sub 120 (.complex .f64 t.2.2.1 t.2.2.2) (.complex .f64 t.2.1.1 t.2.1.2)).run Tryz.prog w = .ok (.complex .f64 vx vy) w
  zn : Zn r K
  tr : ∀ W, Calls Tryz.prog 78 #[.complex .f64 wx wy, .complex .f64 vx vy] W fun e w' => e = .returned (.float .f64 r) ∧ w' = W
theorem tr_is {s t : Sk} {a b c d a' b' c' d' : Int} (hs : SkOk s a b c d) (ht : SkOk t a' b' c' d') : ∃ wx wy vx vy r, TrIs s t wx wy vx vy r (turnI a b c d a' b' c' d') := by
  have s1 := hs.la
  have s2 := hs.lb
  have s3 := hs.lc
  have s4 := hs.ld
  have t1 := ht.la
  have t2 := ht.lb
  have t3 := ht.lc
  have t4 := ht.ld
  obtain ⟨r5, r6, g3, z5, z6⟩ := csub_z hs.bx hs.bye hs.ax hs.ay (by omega) (by omega) (by omega) (by omega)
  obtain ⟨r3, r4, g2, z3, z4⟩ := csub_z ht.bx ht.bye ht.ax ht.ay (by omega) (by omega) (by omega) (by omega)
  obtain ⟨r7, z7, hT⟩ := turnOf_any r5 r6 r3 r4 _ _ _ _ z5 z6 z3 z4 (by omega) (by omega) (by omega) (by omega)
  exact ⟨r5, r6, r3, r4, r7, g3, g2, z7, hT⟩
structure CrIs (s t : Sk) (wx wy vx vy r : Nat) (K : Int) (c : Nat × Nat) : Prop where
  tis : TrIs s t wx wy vx vy r K
  neg : K ≤ -1
  mx : Md c.1 1048576
  my : Md c.2 1048576
  cr : ∀ W, Calls Tryz.prog 80 #[skV s, skV t, .float .f64 r] W fun e w' => e = .returned (.complex .f64 c.1 c.2) ∧ Below W.heap.size W w'
def CrOk (crX : Sk → Sk → Nat × Nat) : Prop := ∀ (s t : Sk) (a b c d a' b' c' d' : Int), SkOk s a b c d → SkOk t a' b' c' d' → turnI a b c d a' b' c' d' ≤ -1 → ∃ wx wy vx vy r K, CrIs s t wx wy vx vy r K (crX s t)
open Classical in
theorem exists_crX : ∃ crX, CrOk crX := by
  refine ⟨fun s t => if h : ∃ c, ∃ wx wy vx vy r K, CrIs s t wx wy vx vy r K c then Classical.choose h else (0, 0), ?_⟩
  intro s t a b c d a' b' c' d' hs ht hK
  have h : ∃ c, ∃ wx wy vx vy r K, CrIs s t wx wy vx vy r K c := by
    obtain ⟨wx, wy, vx, vy, r, h1⟩ := tr_is hs ht
    obtain ⟨u, v, m1, m2, h2⟩ := scross_any s t a b c d a' b' c' d' _ r hs ht h1.zn hK
    exact ⟨(u, v), wx, wy, vx, vy, r, _, h1, hK, m1, m2, h2⟩
  show ∃ wx wy vx vy r K, CrIs s t wx wy vx vy r K (if h : ∃ c, ∃ wx wy vx vy r K, CrIs s t wx wy vx vy r K c then Classical.choose h else (0, 0))
  rw [dif_pos h]
  exact Classical.choose_spec h
end Go.Proofs.YtkjlkbgdkdcboaaGreatDoor
