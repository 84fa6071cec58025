import Derived.Test.YtkjlkbgdkdcboaaGreatDoorFA
import Derived.Test.YtkjlkbgdkdcboaaGreatDoorGyA
import Derived.Laws.FloatArith
import Derived.Laws.Externs

set_option linter.unusedSimpArgs false
set_option linter.unusedVariables false

set_option linter.unusedSimpArgs false
set_option linter.unusedVariables false
namespace Go.Proofs.YtkjlkbgdkdcboaaGreatDoor
open Go.RowKit Go.Maps Fl
attribute [local go_sem ↓] Go.wp_at_zero Go.wp_at_succ
theorem fin0 : Fi 0 := ⟨false, 0, -1074, by decide⟩
theorem V0 : V 0 = 0 := by unfold V; rw [show Ieee.double.read 0 = .number false 0 (-1074) by decide, dv_num]; simp
theorem cmp_lt {x y : Nat} (hx : Fi x) (hy : Fi y) : (FloatKind.f64.format.order x y == some Ordering.lt) = decide (V x < V y) := by
  show (Ieee.double.order x y == _) = _
  rw [order_V hx hy]
  by_cases h : V x < V y
  · rw [if_pos h, decide_eq_true h]; rfl
  · rw [if_neg h, decide_eq_false h]
    split <;> rfl
theorem cmp_gt {x y : Nat} (hx : Fi x) (hy : Fi y) : (FloatKind.f64.format.order x y == some Ordering.gt) = decide (V y < V x) := by
  show (Ieee.double.order x y == _) = _
  rw [order_V hx hy]
  by_cases h : V x < V y
  · rw [if_pos h, decide_eq_false (by grind)]; rfl
  · rw [if_neg h]
    by_cases h2 : V x = V y
    · rw [if_pos h2, decide_eq_false (by grind)]; rfl
    · rw [if_neg h2, decide_eq_true (by grind)]; rfl
set_option maxHeartbeats 400000 in
theorem signF_any (x : Nat) (w : World) (hx : Fi x) : Calls Tryz.prog 79 #[.float .f64 x] w fun e w' => ∃ k : Int, e = .returned (.int .i64 k) ∧ w' = w ∧ (0 < k ↔ 0 < V x) ∧ (k < 0 ↔ V x < 0) := by
  have h1 := cmp_lt hx fin0
  have h2 := cmp_gt hx fin0
  rw [V0] at h1 h2
  by_cases c1 : V x < 0
  · have H : Hid (V x < 0) := hide c1
    rw [decide_eq_true c1] at h1
    clear h2 c1
    go_enter Tryz.func79, Tryz.ntmps79
    go_wp2
    go_ret
    have := H.out
    exact ⟨-1, rfl, rfl, ⟨fun h => by omega, fun h => by grind⟩, ⟨fun _ => this, fun _ => by omega⟩⟩
  · rw [decide_eq_false c1] at h1
    by_cases c2 : 0 < V x
    · have H : Hid (0 < V x) := hide c2
      rw [decide_eq_true c2] at h2
      clear c1 c2
      go_enter Tryz.func79, Tryz.ntmps79
      go_wp2
      go_ret
      have := H.out
      exact ⟨1, rfl, rfl, ⟨fun _ => this, fun _ => by omega⟩, ⟨fun h => by omega, fun h => by grind⟩⟩
    · have H : Hid (V x = 0) := hide (by grind)
      rw [decide_eq_false c2] at h2
      clear c1 c2
      go_enter Tryz.func79, Tryz.ntmps79
      go_wp2
      go_ret
      have := H.out
      exact ⟨0, rfl, rfl, ⟨fun h => by omega, fun h => by grind⟩, ⟨fun h => by omega, fun h => by grind⟩⟩
theorem run_bits (x : Nat) (w : World) : (callFunc 161 #[.float .f64 x]).run Tryz.prog w = .ok (.value (.int .u64 (x : Int))) w := by
  rw [run_callFunc_extern Tryz.func161 (by kernel_rfl) (by kernel_rfl) (by kernel_rfl) (e := Extern.MathFloatBits.float64bits) (by kernel_rfl)]
  rfl
theorem run_frombits (n : Int) (w : World) : (callFunc 160 #[.int .u64 n]).run Tryz.prog w = .ok (.value (.float .f64 n.toNat)) w := by
  rw [run_callFunc_extern Tryz.func160 (by kernel_rfl) (by kernel_rfl) (by kernel_rfl) (e := Extern.MathFloatBits.float64frombits) (by kernel_rfl)]
  rfl
theorem run_floor {x : Nat} (h : (Ieee.double.read x).isNaN = false) (w : World) : (callFunc 128 #[.float .f64 x]).run Tryz.prog w = .ok (.value (.float .f64 (fl x))) w := by
  rw [run_callFunc_extern Tryz.func128 (by kernel_rfl) (by kernel_rfl) (by kernel_rfl) (e := Extern.MathFloor.toIntegral "math.archFloor" .down) (by kernel_rfl)]
  unfold Extern.MathFloor.toIntegral
  show ((match Ieee.double.read x with | .nan s t => _ | d => pure (.float .f64 (Ieee.double.write (d.integral .down))) : Sem Value).run Tryz.prog w).andThen _ = _
  unfold fl
  cases hd : Ieee.double.read x with
  | number s m p => rfl
  | infinity s => rfl
  | nan s t => rw [hd] at h; cases h
def absW (x : Nat) : Nat := (bits .andNot .u64 (x : Int) 9223372036854775808).toNat
set_option maxRecDepth 100000 in
theorem absF_any (x : Nat) (w : World) : Calls Tryz.prog 122 #[.float .f64 x] w fun e w' => e = .returned (.float .f64 (absW x)) ∧ w' = w := by
  have h1 := run_bits x
  have h2 := run_frombits
  go_enter Tryz.func122, Tryz.ntmps122
  go_wp2
  go_ret
  exact ⟨rfl, rfl⟩
theorem zero_word {x : Nat} (hx : Fi x) (h : x < 18446744073709551616) (h0 : V x = 0) : absW x = 0 := by
  have hp : x % 9223372036854775808 = 0 := by
    obtain ⟨s, m, p, ex⟩ := hx
    have hV : V x = dv (.number s m p) := by unfold V; rw [ex]
    have hm : m = 0 := by
      rcases Nat.eq_zero_or_pos m with h1 | h1
      · exact h1
      · have := Rat.mul_pos (nclt h1) (pw_pos p)
        rw [hV, dv_num] at h0
        cases s <;> simp at h0 <;> grind
    have e1 : Ieee.double.signWeight = 9223372036854775808 := by decide
    have e2 : Ieee.double.binade = 4503599627370496 := by decide
    unfold Ieee.Format.read at ex
    simp only [e1, e2] at ex
    split at ex
    · cases ex; exact hm
    · split at ex
      · cases ex; omega
      · split at ex <;> cases ex
  rcases (show x = 0 ∨ x = 9223372036854775808 by omega) with e | e
  · rw [e]; decide
  · rw [e]; decide
set_option maxRecDepth 100000 in
theorem floor_any (x : Nat) (w : World) (h : (Ieee.double.read x).isNaN = false) : Calls Tryz.prog 83 #[.float .f64 x] w fun e w' => e = .returned (.float .f64 (fl x)) ∧ w' = w := by
  have h1 := run_floor h
  go_enter Tryz.func83, Tryz.ntmps83
  go_wp2
  go_ret
  exact ⟨rfl, rfl⟩
structure Md (x : Nat) (B : Rat) : Prop where
  fi : Fi x
  lo : -B ≤ V x
  hi : V x ≤ B
theorem sub_some {x y : Nat} (hx : Md x 1048576) (hy : Md y 1048576) : ∃ r, Ieee.double.sub x y = some r ∧ Nr (V x - V y) r ∧ r < 18446744073709551616 := by
  have hb := big_nat (n := 30) (by omega)
  have h30 : ((2 ^ 30 : Nat) : Rat) = 1073741824 := rfl
  rw [h30] at hb
  obtain ⟨r, h1, h2⟩ := sub_nr hx.fi hy.fi (by have := hx.lo; have := hy.hi; grind) (by have := hx.hi; have := hy.lo; grind)
  exact ⟨r, h1, h2, Ieee.Format.sub_lt _ h1⟩
set_option maxRecDepth 100000 in
set_option maxHeartbeats 400000 in
theorem apart_any (x y : Nat) (w : World) (hx : Md x 1048576) (hy : Md y 1048576) : Calls Tryz.prog 73 #[.float .f64 x, .float .f64 y] w fun e w' => ∃ k : Int, e = .returned (.int .i64 k) ∧ w' = w ∧ (0 < k → V y < V x) ∧ (k < 0 → V x < V y) ∧ (V x = V y → k = 0) := by
  obtain ⟨r, h1, h2, h3⟩ := sub_some hx hy
  have hsp := sub_pos hx.fi hy.fi h2
  have hrun : ∀ w, (binOp .sub 116 (.float .f64 x) (.float .f64 y)).run Tryz.prog w = .ok (.float .f64 r) w := fun w => run_float_arith w .sub 116 .f64 x y r h1
  have HS := hide hsp
  have HR := hide h2.fin
  have H3 := hide h3
  have HZ : Hid (V x = V y → V r = 0) := hide (fun h => by
    have a := hsp.1
    have b := hsp.2
    grind)
  clear h1 h2 h3 hsp hx hy
  cases hc : (FloatKind.f64.format.order (absW r) 4472406533629990549 == some Ordering.lt)
  · have HC : Hid (V r ≠ 0) := hide (fun h => by
      rw [zero_word HR.out H3.out h] at hc
      exact absurd hc (by decide))
    go_enter Tryz.func73, Tryz.ntmps73
    go_wp2_with (first | (go_at_call 122; refine (absF_any _ _).mono ?_; rintro e w9 ⟨rfl, hw9⟩; rw [hw9]; clear hw9) | (go_at_call 79; refine (signF_any _ _ HR.out).mono ?_; rintro e w9 ⟨k, rfl, hw9, hk1, hk2⟩; rw [hw9]; clear hw9))
    go_ret
    have s1 := HS.out.1
    have s2 := HS.out.2
    have z := HZ.out
    have c := HC.out
    exact ⟨k, rfl, rfl, fun h => s1.1 (hk1.1 h), fun h => s2.1 (hk2.1 h), fun h => absurd (z h) c⟩
  · go_enter Tryz.func73, Tryz.ntmps73
    go_wp2_with (go_at_call 122; refine (absF_any _ _).mono ?_; rintro e w9 ⟨rfl, hw9⟩; rw [hw9]; clear hw9)
    go_ret
    exact ⟨0, rfl, rfl, fun h => by omega, fun h => by omega, fun _ => rfl⟩
end Go.Proofs.YtkjlkbgdkdcboaaGreatDoor

set_option linter.unusedSimpArgs false
set_option linter.unusedVariables false
namespace Go.Proofs.YtkjlkbgdkdcboaaGreatDoor
open Go.RowKit Go.Maps Fl
attribute [local go_sem ↓] Go.wp_at_zero Go.wp_at_succ
def fbV (op : BinOp) (x y : Nat) (w : World) : Nat := match floatBits op .f64 x y with
  | some r => r
  | none => (Question.nanBits .f64 x y).cut (w.tape w.drawn (Question.nanBits .f64 x y))
def fbW (op : BinOp) (x y : Nat) (w : World) : World := match floatBits op .f64 x y with
  | some _ => w
  | none => w.drew
theorem fbW_ex (op : BinOp) (x y : Nat) (w : World) : ∃ k, fbW op x y w = w.drewN k := by
  unfold fbW
  cases floatBits op .f64 x y with
  | some r => exact ⟨0, rfl⟩
  | none => exact ⟨1, rfl⟩
theorem run_sub (x y : Nat) (w : World) : (binOp .sub 116 (.float .f64 x) (.float .f64 y)).run Tryz.prog w = .ok (.float .f64 (fbV .sub x y w)) (fbW .sub x y w) := by
  unfold fbV fbW
  cases h : floatBits .sub .f64 x y with
  | some r => exact run_float_arith w .sub 116 .f64 x y r h
  | none =>
    have h2 : FloatKind.f64.format.sub x y = none := h
    simp [binOp, Op.floatArith, h2, Question.forced]
theorem run_add (x y : Nat) (w : World) : (binOp .add 116 (.float .f64 x) (.float .f64 y)).run Tryz.prog w = .ok (.float .f64 (fbV .add x y w)) (fbW .add x y w) := by
  unfold fbV fbW
  cases h : floatBits .add .f64 x y with
  | some r => exact run_float_arith w .add 116 .f64 x y r h
  | none =>
    have h2 : FloatKind.f64.format.add x y = none := h
    simp [binOp, Op.floatArith, h2, Question.forced]
theorem run_mul (x y : Nat) (w : World) : (binOp .mul 116 (.float .f64 x) (.float .f64 y)).run Tryz.prog w = .ok (.float .f64 (fbV .mul x y w)) (fbW .mul x y w) := by
  unfold fbV fbW
  cases h : floatBits .mul .f64 x y with
  | some r => exact run_float_arith w .mul 116 .f64 x y r h
  | none =>
    have h2 : FloatKind.f64.format.mul x y = none := h
    simp [binOp, Op.floatArith, h2, Question.forced]
def leqM (d : Nat) : Bool := FloatKind.f64.format.order d 4652781365027143680 == some .lt || FloatKind.f64.format.order d 4652781365027143680 == some .eq
def NI (n d ln ld rest : Nat) : Prop :=
  (∃ N D M L : Int, Zn n N ∧ Zn d D ∧ Zn ln M ∧ Zn ld L ∧ Rs rest ∧ (1 ≤ D ∧ D ≤ 1152) ∧ (0 ≤ L ∧ L ≤ D) ∧ (-(16 * D) ≤ N ∧ N ≤ 16 * D) ∧ ((-(16 * L) ≤ M ∧ M ≤ 16 * L ∧ 1 ≤ L) ∨ (L = 0 ∧ M = 1 ∧ D = 1 ∧ -12 ≤ N ∧ N ≤ 12))) ∨
  (leqM d = false ∧ ∃ M L : Int, Zn ln M ∧ Zn ld L ∧ (-20000 ≤ M ∧ M ≤ 20000) ∧ (1 ≤ L ∧ L ≤ 1152))
def nms (d ld : Value) : Nat := match d, ld with
  | .float .f64 d, .float .f64 ld => if leqM d = true then (2400 - (V d + V ld).floor).toNat else 0
  | _, _ => 0
theorem leq_of {d : Nat} {D : Int} (h : Zn d D) (hD : D ≤ 1152) : leqM d = true := by
  unfold leqM
  show (Ieee.double.order d MAXD == some .lt || Ieee.double.order d MAXD == some .eq) = true
  rw [order_V h.fi fiMAX, V_MAX, h.v]
  have : (D : Rat) ≤ ((1152 : Int) : Rat) := Rat.intCast_le_intCast.2 hD
  have e : ((1152 : Int) : Rat) = 1152 := rfl
  rw [e] at this
  by_cases c : (D : Rat) < 1152
  · rw [if_pos c]; rfl
  · rw [if_neg c, if_pos (by grind)]; rfl
theorem leq_not {d : Nat} {D : Int} (h : Zn d D) (hD : 1152 < D) : leqM d = false := by
  unfold leqM
  show (Ieee.double.order d MAXD == some .lt || Ieee.double.order d MAXD == some .eq) = false
  rw [order_V h.fi fiMAX, V_MAX, h.v]
  have : ((1152 : Int) : Rat) < (D : Rat) := Rat.intCast_lt_intCast.2 hD
  have e : ((1152 : Int) : Rat) = 1152 := rfl
  rw [e] at this
  rw [if_neg (by grind), if_neg (by grind)]
  rfl
theorem nms_A {d ld : Nat} {D L : Int} (hd : Zn d D) (hl : Zn ld L) (hD : D ≤ 1152) : nms (.float .f64 d) (.float .f64 ld) = (2400 - (D + L)).toNat := by
  show (if leqM d = true then (2400 - (V d + V ld).floor).toNat else 0) = _
  rw [if_pos (leq_of hd hD), hd.v, hl.v, ← Rat.intCast_add, Rat.floor_intCast]
theorem nms_O {d ld : Nat} (h : leqM d = false) : nms (.float .f64 d) (.float .f64 ld) = 0 := by
  show (if leqM d = true then (2400 - (V d + V ld).floor).toNat else 0) = _
  rw [h]; rfl
theorem conv_z {x : Nat} {n : Int} (h : Zn x n) (h1 : -20000 ≤ n) (h2 : n ≤ 20000) (w : World) : (convert 116 3 (.float .f64 x)).run Tryz.prog w = .ok (.int .i64 n) w := by
  refine run_convert_float_int w 116 3 .f64 .i64 x n (by kernel_rfl) Tryz.underlying3 ?_
  unfold floatToIntVal
  have : (FloatKind.f64.decode x).toInt .zero = some n := toInt_V h.fi h.v
  rw [this]
  show (if _ then _ else _) = _
  rw [if_pos ⟨by show (-9223372036854775808 : Int) ≤ n; omega, by show n ≤ (9223372036854775807 : Int); omega⟩]
theorem zONE : Zn 4607182418800017408 1 := ⟨fiONE, V_ONE⟩
theorem zZERO : Zn 0 0 := ⟨fin0, V0⟩
theorem NI.next {n d ld n' d' rs : Nat} {N D M L T : Int} (hn : Zn n N) (hd : Zn d D) (hl : Zn ld L) (hr : Rs rs) (hn' : Zn n' (T * N + M)) (hd' : Zn d' (T * D + L)) (hD : 1 ≤ D ∧ D ≤ 1152) (hL : 0 ≤ L ∧ L ≤ D) (hN : -(16 * D) ≤ N ∧ N ≤ 16 * D) (hM : (-(16 * L) ≤ M ∧ M ≤ 16 * L ∧ 1 ≤ L) ∨ (L = 0 ∧ M = 1 ∧ D = 1 ∧ -12 ≤ N ∧ N ≤ 12)) (hT : 1 ≤ T) :
    NI n' d' n d rs ∧ nms (.float .f64 d') (.float .f64 d) < nms (.float .f64 d) (.float .f64 ld) := by
  have t1 : T * D ≥ 1 * D := Int.mul_le_mul_of_nonneg_right hT (by omega)
  rw [nms_A hd hl hD.2]
  by_cases hb : T * D + L ≤ 1152
  · refine ⟨?_, by rw [nms_A hd' hd hb]; omega⟩
    left
    refine ⟨T * N + M, T * D + L, N, D, hn', hd', hn, hd, hr, ⟨by omega, hb⟩, ⟨by omega, by omega⟩, ?_, .inl ⟨hN.1, hN.2, hD.1⟩⟩
    rcases hM with ⟨m1, m2, m3⟩ | ⟨rfl, rfl, rfl, m1, m2⟩
    · have a := Int.mul_le_mul_of_nonneg_left hN.1 (show 0 ≤ T by omega)
      have b := Int.mul_le_mul_of_nonneg_left hN.2 (show 0 ≤ T by omega)
      have e1 : T * -(16 * D) = -(16 * (T * D)) := by rw [Int.mul_neg, Int.mul_left_comm]
      have e2 : T * (16 * D) = 16 * (T * D) := Int.mul_left_comm _ _ _
      rw [e1] at a
      rw [e2] at b
      constructor <;> omega
    · have a := Int.mul_le_mul_of_nonneg_left m1 (show 0 ≤ T by omega)
      have b := Int.mul_le_mul_of_nonneg_left m2 (show 0 ≤ T by omega)
      constructor <;> omega
  · have hq := leq_not hd' (by omega)
    exact ⟨.inr ⟨hq, N, D, hn, hd, ⟨by omega, by omega⟩, hD⟩, by rw [nms_O hq]; omega⟩
set_option maxRecDepth 100000 in
set_option maxHeartbeats 1000000 in
theorem nearest_any (x : Nat) (w : World) (hx : Fi x) (h1 : -12 ≤ V x) (h2 : V x ≤ 12) : Calls Tryz.prog 46 #[.float .f64 x] w fun e w' => ∃ N D : Int, e = .returned (.agg #[.int .i64 N, .int .i64 D]) ∧ Below w.heap.size w w' ∧ (-20000 ≤ N ∧ N ≤ 20000) ∧ (1 ≤ D ∧ D ≤ 1152) := by
  have hnan : (Ieee.double.read x).isNaN = false := by obtain ⟨s, m, p, e⟩ := hx; rw [e]; rfl
  have hf1 := Rat.floor_le (V x)
  have hf2 := Rat.lt_floor_add_one (V x)
  rw [Rat.intCast_add] at hf2
  have one : ((1 : Int) : Rat) = 1 := rfl
  rw [one] at hf2
  have hF1 : -12 ≤ (V x).floor := Rat.le_floor_iff.2 h1
  have hF2 : (V x).floor ≤ 12 := by
    have : (((V x).floor : Int) : Rat) ≤ ((12 : Int) : Rat) := by
      have e : ((12 : Int) : Rat) = 12 := rfl
      rw [e]; grind
    exact Rat.intCast_le_intCast.1 this
  obtain ⟨b1, b2⟩ := int_big (a := (V x).floor) (by omega) (by omega)
  have hT := fl_nr hx b1 b2
  have hN0 : Zn (fl x) (V x).floor := ⟨hT.fin, hT.exact (rep_int (by omega) (by omega))⟩
  obtain ⟨r0, s1, s2, s3, s4, s5⟩ := sub_fl hx hT.fin (by rw [hN0.v]; grind) (by rw [hN0.v]; grind)
  have hsub0 : ∀ w, (binOp .sub 116 (.float .f64 x) (.float .f64 (fl x))).run Tryz.prog w = .ok (.float .f64 r0) w := fun w => run_float_arith w .sub 116 .f64 x (fl x) r0 s1
  have H0 : Hid (NI (fl x) 4607182418800017408 4607182418800017408 0 r0) := hide (.inl ⟨_, 1, 1, 0, hN0, zONE, zONE, zZERO, ⟨s2, s3, s4, s5⟩, ⟨by omega, by omega⟩, ⟨by omega, by omega⟩, ⟨by omega, by omega⟩, .inr ⟨rfl, rfl, rfl, hF1, hF2⟩⟩)
  have HW := hide (below1 w (.cells #[.int .i64 0, .int .i64 0] 38))
  have bP := Box.new w [.int .i64 0, .int .i64 0] 38
  clear hx h1 h2 hf1 hf2 hF1 hF2 b1 b2 hT hN0 s1 s2 s3 s4 s5 one
  go_enter Tryz.func46, Tryz.ntmps46
  go_wp2_with (go_at_call 83; refine (floor_any _ _ hnan).mono ?_; rintro e w9 ⟨rfl, hw9⟩; rw [hw9]; clear hw9)
  generalize w.alloc (.cells #[.int .i64 0, .int .i64 0] 38) = V0 at *
  clear hnan hsub0
  go_loopw [3, 4, 5, 6, 7] (fun vn vd vm vl vr wr => ∃ n d ln ld rest j : Nat, vn = .float .f64 n ∧ vd = .float .f64 d ∧ vm = .float .f64 ln ∧ vl = .float .f64 ld ∧ vr = .float .f64 rest ∧ wr = V0.drewN j ∧ Hid (NI n d ln ld rest)) (fun _ vd _ vl _ _ => nms vd vl)
  case atStart => exact ⟨_, _, _, _, _, 0, rfl, rfl, rfl, rfl, rfl, rfl, H0.out⟩
  case round =>
    obtain ⟨n, d, ln, ld, rest, j, rfl, rfl, rfl, rfl, rfl, rfl, hNI⟩ := hrel
    rcases hNI.out with ⟨N, D, M, L, hn, hd, hm, hl, hr, hD, hL, hN, hM⟩ | ⟨hq, M, L, hm, hl, hM, hL⟩
    · have hle := leq_of hd hD.2
      unfold leqM at hle
      obtain ⟨r1, e1, hnan, hcase⟩ := near_step hr hn hd hm hl hD.1 hD.2 hL.1 (by omega) ⟨by omega, by omega⟩ ⟨by omega, by omega⟩
      have hdiv : ∀ w, (binOp .quo 116 (.float .f64 4607182418800017408) (.float .f64 rest)).run Tryz.prog w = .ok (.float .f64 r1) w := fun w => run_float_arith w .quo 116 .f64 _ rest r1 e1
      rcases hcase with ⟨dm, d', m1, a1, hup⟩ | ⟨T, hT, hT2, rs, nm, n', dm, d', q1, q2, q3, q4, q5, q6, q7, q8⟩
      · have hmd : ∀ w, (binOp .mul 116 (.float .f64 (fl r1)) (.float .f64 d)).run Tryz.prog w = .ok (.float .f64 dm) w := fun w => run_float_arith w .mul 116 .f64 _ d dm m1
        have had : ∀ w, (binOp .add 116 (.float .f64 dm) (.float .f64 ld)).run Tryz.prog w = .ok (.float .f64 d') w := fun w => run_float_arith w .add 116 .f64 _ ld d' a1
        have hgt : leqM d' = false := great_gt hup
        have HN : Hid (∀ n' rs, NI n' d' n d rs ∧ nms (.float .f64 d') (.float .f64 d) < nms (.float .f64 d) (.float .f64 ld)) := hide (fun n' rs => ⟨.inr ⟨hgt, N, D, hn, hd, ⟨by omega, by omega⟩, hD⟩, by rw [nms_O hgt, nms_A hd hl hD.2]; omega⟩)
        obtain ⟨k1, hk1⟩ := fbW_ex .sub r1 (fl r1) (V0.drewN j)
        have hs := run_sub r1 (fl r1) (V0.drewN j)
        rw [hk1] at hs
        generalize fbV .sub r1 (fl r1) (V0.drewN j) = rs at hs
        obtain ⟨k2, hk2⟩ := fbW_ex .mul (fl r1) n ((V0.drewN j).drewN k1)
        have hmn := run_mul (fl r1) n ((V0.drewN j).drewN k1)
        rw [hk2] at hmn
        generalize fbV .mul (fl r1) n ((V0.drewN j).drewN k1) = nm at hmn
        obtain ⟨k3, hk3⟩ := fbW_ex .add nm ln (((V0.drewN j).drewN k1).drewN k2)
        have han := run_add nm ln (((V0.drewN j).drewN k1).drewN k2)
        rw [hk3] at han
        generalize fbV .add nm ln (((V0.drewN j).drewN k1).drewN k2) = n' at han
        simp only [World.drewN_drewN] at hs hmn han
        clear hn hd hm hl hr hD hL hN hM m1 a1 hup hgt hk1 hk2 hk3 e1 hNI
        go_wp2_with (go_at_call 83; refine (floor_any _ _ hnan).mono ?_; rintro e w9 ⟨rfl, hw9⟩; rw [hw9]; clear hw9)
        go_roundw
        case rel => exact ⟨n', d', n, d, rs, _, rfl, rfl, rfl, rfl, rfl, rfl, (HN.out n' rs).1⟩
        case measure => exact (HN.out n' rs).2
      · have hmd : ∀ w, (binOp .mul 116 (.float .f64 (fl r1)) (.float .f64 d)).run Tryz.prog w = .ok (.float .f64 dm) w := fun w => run_float_arith w .mul 116 .f64 _ d dm q6
        have had : ∀ w, (binOp .add 116 (.float .f64 dm) (.float .f64 ld)).run Tryz.prog w = .ok (.float .f64 d') w := fun w => run_float_arith w .add 116 .f64 _ ld d' q7
        have hmn : ∀ w, (binOp .mul 116 (.float .f64 (fl r1)) (.float .f64 n)).run Tryz.prog w = .ok (.float .f64 nm) w := fun w => run_float_arith w .mul 116 .f64 _ n nm q3
        have han : ∀ w, (binOp .add 116 (.float .f64 nm) (.float .f64 ln)).run Tryz.prog w = .ok (.float .f64 n') w := fun w => run_float_arith w .add 116 .f64 _ ln n' q4
        have hs : ∀ w, (binOp .sub 116 (.float .f64 r1) (.float .f64 (fl r1))).run Tryz.prog w = .ok (.float .f64 rs) w := fun w => run_float_arith w .sub 116 .f64 _ _ rs q1
        have HN := hide (NI.next hn hd hl q2 q5 q8 hD hL hN hM hT)
        clear hn hd hm hl hr hD hL hN hM e1 hNI q1 q2 q3 q4 q5 q6 q7 q8 hT hT2
        go_wp2_with (go_at_call 83; refine (floor_any _ _ hnan).mono ?_; rintro e w9 ⟨rfl, hw9⟩; rw [hw9]; clear hw9)
        go_roundw
        case rel => exact ⟨n', d', n, d, rs, j, rfl, rfl, rfl, rfl, rfl, rfl, HN.out.1⟩
        case measure => exact HN.out.2
    · unfold leqM at hq
      obtain ⟨hq1, hq2⟩ := Bool.or_eq_false_iff.1 hq
      clear hq
      have hc1 := conv_z hm hM.1 hM.2
      have hc2 := conv_z hl (by omega) (by omega)
      have c0 := bP.c 0 _ rfl
      have c1 := bP.c 1 _ rfl
      have f0 := bP.f 0 (by simp)
      have f1 := bP.f 1 (by simp)
      have HM := hide hM
      have HL := hide hL
      clear hm hl hM hL hNI
      go_wp2
      refine bodyPost_ret (v := .agg #[.int .i64 M, .int .i64 L]) ?_ rfl ⟨M, L, rfl, ?_, HM.out, HL.out⟩
      · simp [results, Tryz.results46, go_sem, c0, c1]
      · exact ((below_drewN HW.out j).setCell (p := ⟨w.heap.size, 0, none⟩) (Nat.le_refl _) _).setCell (p := ⟨w.heap.size, 1, none⟩) (Nat.le_refl _) _
end Go.Proofs.YtkjlkbgdkdcboaaGreatDoor

set_option linter.unusedSimpArgs false
set_option linter.unusedVariables false
namespace Go.Proofs.YtkjlkbgdkdcboaaGreatDoor
open Go.RowKit Go.Maps Fl
attribute [local go_sem ↓] Go.wp_at_zero Go.wp_at_succ
theorem method_val {t elem : TypeId} {f : FuncId} {name : String} {a : Addr} {v : Value} {w : World} {n : Nat} (hi : (Tryz.prog.info? t).map (fun i => (i.methods.find? (·.name == name)).map (fun m => (m.path.toList, m.path.isEmpty, m.func))) = some (some ([], true, some (f, false)))) (hu : Tryz.prog.underlying t = some (.pointer elem)) (hl : (loadVar elem a).run Tryz.prog w = .ok v w) :
    (method (n + 1) t (.pointer (some a)) name).run Tryz.prog w = .ok (f, v) w := by
  obtain ⟨i, h1, h2⟩ := Option.map_eq_some_iff.1 hi
  obtain ⟨m, h3, h4⟩ := Option.map_eq_some_iff.1 h2
  simp only [Prod.mk.injEq] at h4
  obtain ⟨h5, h6, h7⟩ := h4
  have hchk : ∀ x y : String, (Builtin.ssaWrapNilChk_ #[t] t #[.pointer (some a), strVal x, strVal y]).run Tryz.prog w = .ok (.pointer (some a)) w := fun _ _ => rfl
  unfold method
  have hp : m.path = #[] := by simpa using h6
  simp [typeInfo, h1, h3, hp, h7, follow, receiverAt, run_underlying hu, Place.get, hchk, asAddr, hl]
theorem load112 {hb : Nat} {w : World} {v : Value} (h : w.cell? ⟨hb, 0, none⟩ = some v) : (loadVar 112 ⟨hb, 0, none⟩).run Tryz.prog w = .ok v w := by
  simp [go_sem, loadVar, h]
theorem mLen {hb : Nat} {w : World} {v : Value} (h : w.cell? ⟨hb, 0, none⟩ = some v) : (method 420 115 (.pointer (some ⟨hb, 0, none⟩)) "Len").run Tryz.prog w = .ok (220, v) w := method_val (n := 419) (by kernel_rfl) Tryz.underlying115 (load112 h)
theorem mLess {hb : Nat} {w : World} {v : Value} (h : w.cell? ⟨hb, 0, none⟩ = some v) : (method 420 115 (.pointer (some ⟨hb, 0, none⟩)) "Less").run Tryz.prog w = .ok (221, v) w := method_val (n := 419) (by kernel_rfl) Tryz.underlying115 (load112 h)
theorem mSwap {hb : Nat} {w : World} {v : Value} (h : w.cell? ⟨hb, 0, none⟩ = some v) : (method 420 115 (.pointer (some ⟨hb, 0, none⟩)) "Swap").run Tryz.prog w = .ok (222, v) w := method_val (n := 419) (by kernel_rfl) Tryz.underlying115 (load112 h)
theorem mPop (hb : Nat) (w : World) : (method 420 115 (.pointer (some ⟨hb, 0, none⟩)) "Pop").run Tryz.prog w = .ok (223, .pointer (some ⟨hb, 0, none⟩)) w := by kernel_rfl
theorem mPush (hb : Nat) (w : World) : (method 420 115 (.pointer (some ⟨hb, 0, none⟩)) "Push").run Tryz.prog w = .ok (224, .pointer (some ⟨hb, 0, none⟩)) w := by kernel_rfl
end Go.Proofs.YtkjlkbgdkdcboaaGreatDoor
