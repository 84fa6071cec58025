import Derived.Test.YtkjlkbgdkdcboaaGreatDoorSyC
import Derived.Laws.ComplexArith

set_option linter.unusedSimpArgs false
set_option linter.unusedVariables false

set_option linter.unusedSimpArgs false
set_option linter.unusedVariables false
namespace Go.Proofs.YtkjlkbgdkdcboaaGreatDoor
open Go.RowKit Go.Maps Fl
attribute [local go_sem ↓] Go.wp_at_zero Go.wp_at_succ
theorem symm_any (base g cap N xb x : Nat) (Ok : Sk → Prop) (HC : CmpOk xb x Ok) (hne : xb ≠ g) (hN : N ≤ 1000000) : ∀ d, SyIH base g cap N xb x Ok d
  | 0 => fun a m b S W h hok hx ham hmb hbN hd => by omega
  | d + 1 => fun a m b S W h hok hx ham hmb hbN hd => by
    by_cases h1 : m = a + 1
    · exact symA_any base g cap N a m b xb x S W Ok HC h hok hx hne h1 hmb hbN hN
    · by_cases h2 : b = m + 1
      · exact symB_any base g cap N a m b xb x S W Ok HC h hok hx hne ham h1 h2 hbN hN
      · refine symC_any base g cap N a m b xb x S W Ok HC h hok hx hne (by omega) (by omega) hbN hN ?_
        intro a' m' b' S' W' q1 q2 q3 q4 q5 q6 q7
        exact symm_any base g cap N xb x Ok HC hne hN d a' m' b' S' W' q1 q2 q3 q4 q5 q6 (by omega)
set_option maxRecDepth 100000 in
set_option maxHeartbeats 2000000 in
theorem stable_any (base g cap N xb x : Nat) (S : Nat → Sk) (W : World) (Ok : Sk → Prop) (HC : CmpOk xb x Ok) (h : SR W base g cap N S) (hok : ∀ t, t < N → Ok (S t)) (hx : W.cell? ⟨xb, 0, none⟩ = some (.float .f64 x)) (hne : xb ≠ g) (hN : N ≤ 100000) :
    Calls Tryz.prog 123 #[.slice (some ⟨g, 0, none⟩) N cap, .int .i64 N, fnV xb] W fun e w' => e = .returned (.tuple #[]) ∧ ∃ T, Rw W w' base g cap N S T := by
  have H0 := hide (Rw.refl h)
  have HIn := hide (fun a b (V : World) T (hV : Rw W V base g cap N S T) (h1 : b ≤ N) (h2 : a ≤ N) => insort_any base g cap N a b xb x T V Ok HC hV.sr (hV.ok hok) (hV.held hx hne) hne h1 h2 (by omega))
  have HSy := hide (fun a m b (V : World) T (hV : Rw W V base g cap N S T) (h1 : a < m) (h2 : m < b) (h3 : b ≤ N) => symm_any base g cap N xb x Ok HC hne (by omega) (b - a + 1) a m b T V hV.sr (hV.ok hok) (hV.held hx hne) h1 h2 h3 (by omega))
  clear h HC hok hx hne
  unfold fnV at *
  go_enter Tryz.func123, Tryz.ntmps123
  go_wp2
  go_loopw [7, 8] (fun v u wr => ∃ a T, v = .int .i64 (a : Nat) ∧ u = .int .i64 ((a + 20 : Nat) : Int) ∧ a ≤ N ∧ Hid (Rw W wr base g cap N S T)) (fun v _ _ => N - (intOf v).toNat)
  case atStart => exact ⟨0, S, rfl, rfl, Nat.zero_le _, H0.out⟩
  case round =>
    obtain ⟨a, T, rfl, rfl, ha, hr⟩ := hrel
    clear H0
    have ba : a ≤ 1000000 := by omega
    obtain ⟨c, hc⟩ : ∃ c : Nat, c = a + 20 := ⟨_, rfl⟩
    rw [← hc]
    have bc : c ≤ 1000000 := by omega
    by_cases hle : c ≤ N
    · have d1 : decide ((c : Int) ≤ (N : Int)) = true := decide_eq_true (by omega)
      have d1' : decide (c ≤ N) = true := decide_eq_true hle
      have HI := hide (HIn.out a c _ T hr.out hle ha)
      have Hc := hide hc
      clear hc
      go_wp2_with fail
      refine HI.out.mono ?_
      rintro e w2 ⟨rfl, U, hU⟩
      have HU := hide (hr.out.trans hU)
      clear hU HI hr
      go_wp2
      go_roundw
      case rel => exact ⟨c, U, rfl, by go_num, hle, HU.out⟩
      case measure => simp [intOf]; have := Hc.out; omega
    · have d1 : decide ((c : Int) ≤ (N : Int)) = false := decide_eq_false (by omega)
      have d1' : decide (c ≤ N) = false := decide_eq_false hle
      have HI := hide (HIn.out a N _ T hr.out (Nat.le_refl _) ha)
      clear hc
      go_wp2_with fail
      refine HI.out.mono ?_
      rintro e w2 ⟨rfl, U, hU⟩
      have HU := hide (hr.out.trans hU)
      clear hU HI hr
      go_wp2
      go_loopw [6, 7, 8, 9] (fun v _ _ _ wr => ∃ s T, v = .int .i64 (s : Nat) ∧ (20 ≤ s ∧ s ≤ 200000) ∧ Hid (Rw W wr base g cap N S T)) (fun v _ _ _ _ => N - (intOf v).toNat)
      case atStart => exact ⟨20, U, rfl, ⟨by omega, by omega⟩, HU.out⟩
      case round =>
        obtain ⟨s, T', rfl, hs, hr⟩ := hrel
        clear HU
        have bs : s ≤ 1000000 := by omega
        by_cases hlt : s < N
        · have d2 : decide ((s : Int) < (N : Int)) = true := decide_eq_true (by omega)
          have d2' : decide (s < N) = true := decide_eq_true hlt
          obtain ⟨s2, hs2⟩ : ∃ s2 : Nat, s2 = 2 * s := ⟨_, rfl⟩
          have e2 : (2 : Int) * (s : Int) = (s2 : Int) := by omega
          have e2' : (s : Int) * 2 = (s2 : Int) := by omega
          have bs2 : s2 ≤ 200000 := by omega
          have Hs2 := hide hs2
          clear hs2
          go_wp2_with fail
          go_loopw [7, 8] (fun v u wr => ∃ a T, v = .int .i64 (a : Nat) ∧ u = .int .i64 ((a + s2 : Nat) : Int) ∧ a ≤ N ∧ Hid (Rw W wr base g cap N S T)) (fun v _ _ => N - (intOf v).toNat)
          case atStart => exact ⟨0, T', rfl, by simp, Nat.zero_le _, hr⟩
          case round =>
            obtain ⟨p, Y, rfl, rfl, hp, hy⟩ := hrel
            clear hr
            have bp : p ≤ 1000000 := by omega
            obtain ⟨q, hq⟩ : ∃ q : Nat, q = p + s2 := ⟨_, rfl⟩
            rw [← hq]
            have bq : q ≤ 1000000 := by omega
            obtain ⟨m, hm⟩ : ∃ m : Nat, m = p + s := ⟨_, rfl⟩
            have em : (p : Int) + (s : Int) = (m : Int) := by omega
            have bm : m ≤ 1000000 := by omega
            by_cases hle : q ≤ N
            · have d3 : decide ((q : Int) ≤ (N : Int)) = true := decide_eq_true (by omega)
              have d3' : decide (q ≤ N) = true := decide_eq_true hle
              have HI := hide (HSy.out p m q _ Y hy.out (by omega) (by have := Hs2.out; omega) hle)
              have Hq := hide hq
              clear hq hm
              go_wp2_with fail
              refine HI.out.mono ?_
              rintro e w3 ⟨rfl, Z, hZ⟩
              have HZ := hide (hy.out.trans hZ)
              clear hZ HI hy
              go_wp2
              go_roundw
              case rel => exact ⟨q, Z, rfl, by go_num, hle, HZ.out⟩
              case measure => simp [intOf]; have := Hq.out; omega
            · have d3 : decide ((q : Int) ≤ (N : Int)) = false := decide_eq_false (by omega)
              have d3' : decide (q ≤ N) = false := decide_eq_false hle
              by_cases hmN : m < N
              · have d4 : decide ((m : Int) < (N : Int)) = true := decide_eq_true (by omega)
                have d4' : decide (m < N) = true := decide_eq_true hmN
                have HI := hide (HSy.out p m N _ Y hy.out (by omega) hmN (Nat.le_refl _))
                clear hq hm
                go_wp2_with fail
                refine HI.out.mono ?_
                rintro e w3 ⟨rfl, Z, hZ⟩
                have HZ := hide (hy.out.trans hZ)
                clear hZ HI hy
                go_wp2
                go_roundw
                case rel => exact ⟨s2, Z, by go_num, ⟨by have := Hs2.out; omega, bs2⟩, HZ.out⟩
                case measure => simp [intOf]; have := Hs2.out; omega
              · have d4 : decide ((m : Int) < (N : Int)) = false := decide_eq_false (by omega)
                have d4' : decide (m < N) = false := decide_eq_false hmN
                clear hq hm
                go_wp2_with fail
                go_roundw
                case rel => exact ⟨s2, Y, by go_num, ⟨by have := Hs2.out; omega, bs2⟩, hy⟩
                case measure => simp [intOf]; have := Hs2.out; omega
        · have d2 : decide ((s : Int) < (N : Int)) = false := decide_eq_false (by omega)
          have d2' : decide (s < N) = false := decide_eq_false hlt
          go_wp2_with fail
          go_end0
          exact ⟨rfl, T', hr.out⟩
end Go.Proofs.YtkjlkbgdkdcboaaGreatDoor

set_option linter.unusedSimpArgs false
set_option linter.unusedVariables false
namespace Go.Proofs.YtkjlkbgdkdcboaaGreatDoor
open Go.RowKit Go.Maps Fl
attribute [local go_sem ↓] Go.wp_at_zero Go.wp_at_succ
theorem ssort_any (base g cap N xb x : Nat) (S : Nat → Sk) (W : World) (Ok : Sk → Prop) (HC : CmpOk xb x Ok) (h : SR W base g cap N S) (hok : ∀ t, t < N → Ok (S t)) (hx : W.cell? ⟨xb, 0, none⟩ = some (.float .f64 x)) (hne : xb ≠ g) (hN : N ≤ 100000) :
    Calls Tryz.prog 76 #[.slice (some ⟨g, 0, none⟩) N cap, fnV xb] W fun e w' => e = .returned (.tuple #[]) ∧ ∃ T, Rw W w' base g cap N S T := by
  have H0 := hide (stable_any base g cap N xb x S W Ok HC h hok hx hne hN)
  clear h HC hok hx hne
  unfold fnV at *
  go_enter Tryz.func76, Tryz.ntmps76
  go_wp2_with fail
  refine H0.out.mono ?_
  rintro e w2 ⟨rfl, T, hT⟩
  have HT := hide hT
  clear hT H0
  go_wp2
  go_end0
  exact ⟨rfl, T, HT.out⟩
end Go.Proofs.YtkjlkbgdkdcboaaGreatDoor

set_option linter.unusedSimpArgs false
set_option linter.unusedVariables false
namespace Go.Proofs.YtkjlkbgdkdcboaaGreatDoor
open Go.RowKit Go.Maps Fl
attribute [local go_sem ↓] Go.wp_at_zero Go.wp_at_succ
structure SkOk (s : Sk) (a b c d : Int) : Prop where
  ax : Zn s.2.1.1 a
  ay : Zn s.2.1.2 b
  bx : Zn s.2.2.1 c
  bye : Zn s.2.2.2 d
  la : -12 ≤ a ∧ a ≤ 12
  lb : -12 ≤ b ∧ b ≤ 12
  lc : -12 ≤ c ∧ c ≤ 12
  ld : -12 ≤ d ∧ d ≤ 12
  lt : a < c
theorem quo_z {x y : Nat} {n m : Int} (hx : Zn x n) (hy : Zn y m) (h1 : -24 ≤ n ∧ n ≤ 24) (h2 : 1 ≤ m) : ∃ r, Ieee.double.div x y = some r ∧ Md r 24 := by
  have hm : (0 : Rat) < (m : Rat) := by exact_mod_cast (show (0 : Int) < m by omega)
  have hm1 : (1 : Rat) ≤ (m : Rat) := by exact_mod_cast h2
  have n1 : (-24 : Rat) ≤ (n : Rat) := by have : ((-24 : Int) : Rat) ≤ (n : Rat) := Rat.intCast_le_intCast.2 h1.1; simpa using this
  have hdm : (n : Rat) / (m : Rat) * (m : Rat) = (n : Rat) := Rat.div_mul_cancel (by grind)
  have n2 : (n : Rat) ≤ (24 : Rat) := by exact_mod_cast h1.2
  have q1 : (-24 : Rat) ≤ (n : Rat) / (m : Rat) := by
    refine (mle hm).1 ?_
    rw [hdm]
    grind
  have q2 : (n : Rat) / (m : Rat) ≤ 24 := by
    refine (mle hm).1 ?_
    rw [hdm]
    grind
  have hb := int_big (a := 24) (by omega) (by omega)
  have hb2 := int_big (a := -24) (by omega) (by omega)
  obtain ⟨r, e1, e2⟩ := div_nr (q := (n : Rat) / (m : Rat)) hx.fi hy.fi (by rw [hy.v]; grind) (by rw [hx.v, hy.v]; exact Rat.div_mul_cancel (by grind)) (by grind) (by grind)
  refine ⟨r, e1, e2.fin, ?_, ?_⟩
  · have := e2.lo (-24) (by have := rep_int (n := -24) (by omega) (by omega); simpa using this) q1
    exact this
  · exact e2.hi 24 (by have := rep_int (n := 24) (by omega) (by omega); simpa using this) q2
theorem nr_md {v : Rat} {r : Nat} {K : Int} (h : Nr v r) (hK : 0 ≤ K ∧ K < 9007199254740992) (h1 : -(K : Rat) ≤ v) (h2 : v ≤ (K : Rat)) : Md r (K : Rat) := by
  refine ⟨h.fin, h.lo _ ?_ h1, h.hi _ (rep_int (by omega) (by omega)) h2⟩
  have := rep_int (n := -K) (by omega) (by omega)
  simpa using this
theorem big_ok {v : Rat} {K : Int} (hK : 0 ≤ K ∧ K < 9007199254740992) (h1 : -(K : Rat) ≤ v) (h2 : v ≤ (K : Rat)) : -big ≤ v ∧ v ≤ big := by
  have a := int_big (a := K) (by omega) (by omega)
  have b := int_big (a := -K) (by omega) (by omega)
  have : ((-K : Int) : Rat) = -(K : Rat) := by simp
  constructor <;> grind
theorem sub_md {x y : Nat} {A B K : Int} (hx : Md x A) (hy : Md y B) (hK : A + B = K) (h0 : 0 ≤ K ∧ K < 9007199254740992) : ∃ r, Ieee.double.sub x y = some r ∧ Md r K := by
  have e : (A : Rat) + (B : Rat) = (K : Rat) := by rw [← hK]; simp
  have a1 := hx.lo
  have a2 := hx.hi
  have b1 := hy.lo
  have b2 := hy.hi
  have k1 : -(K : Rat) ≤ V x - V y := by grind
  have k2 : V x - V y ≤ (K : Rat) := by grind
  obtain ⟨r, h1, h2⟩ := sub_nr hx.fi hy.fi (big_ok h0 k1 k2).1 (big_ok h0 k1 k2).2
  exact ⟨r, h1, nr_md h2 h0 k1 k2⟩
theorem add_md {x y : Nat} {A B K : Int} (hx : Md x A) (hy : Md y B) (hK : A + B = K) (h0 : 0 ≤ K ∧ K < 9007199254740992) : ∃ r, Ieee.double.add x y = some r ∧ Md r K := by
  have e : (A : Rat) + (B : Rat) = (K : Rat) := by rw [← hK]; simp
  have a1 := hx.lo
  have a2 := hx.hi
  have b1 := hy.lo
  have b2 := hy.hi
  have k1 : -(K : Rat) ≤ V x + V y := by grind
  have k2 : V x + V y ≤ (K : Rat) := by grind
  obtain ⟨r, h1, h2⟩ := add_nr hx.fi hy.fi (big_ok h0 k1 k2).1 (big_ok h0 k1 k2).2
  exact ⟨r, h1, nr_md h2 h0 k1 k2⟩
theorem mul_bd {v w A B : Rat} (a1 : -A ≤ v) (a2 : v ≤ A) (b1 : -B ≤ w) (b2 : w ≤ B) : -(A * B) ≤ v * w ∧ v * w ≤ A * B := by
  have p1 : 0 ≤ (A - v) * (B - w) := Rat.mul_nonneg (by grind) (by grind)
  have p2 : 0 ≤ (A + v) * (B + w) := Rat.mul_nonneg (by grind) (by grind)
  have p3 : 0 ≤ (A - v) * (B + w) := Rat.mul_nonneg (by grind) (by grind)
  have p4 : 0 ≤ (A + v) * (B - w) := Rat.mul_nonneg (by grind) (by grind)
  constructor <;> grind
theorem mul_md {x y : Nat} {A B K : Int} (hx : Md x A) (hy : Md y B) (hK : A * B = K) (h0 : 0 ≤ K ∧ K < 9007199254740992) : ∃ r, Ieee.double.mul x y = some r ∧ Md r K := by
  have e : (A : Rat) * (B : Rat) = (K : Rat) := by rw [← hK]; simp
  obtain ⟨k1, k2⟩ := mul_bd hx.lo hx.hi hy.lo hy.hi
  rw [e] at k1 k2
  obtain ⟨r, h1, h2⟩ := mul_nr hx.fi hy.fi (big_ok h0 k1 k2).1 (big_ok h0 k1 k2).2
  exact ⟨r, h1, nr_md h2 h0 k1 k2⟩
theorem zn_md {x : Nat} {a K : Int} (h : Zn x a) (h1 : -K ≤ a) (h2 : a ≤ K) : Md x K := by
  refine ⟨h.fi, ?_, ?_⟩
  · rw [h.v]
    have : ((-K : Int) : Rat) ≤ (a : Rat) := Rat.intCast_le_intCast.2 h1
    simpa using this
  · rw [h.v]
    exact Rat.intCast_le_intCast.2 h2
theorem md_mono {x : Nat} {A B : Rat} (h : Md x A) (hAB : A ≤ B) : Md x B := ⟨h.fi, by have := h.lo; grind, by have := h.hi; grind⟩
set_option maxRecDepth 100000 in
theorem slope_any (s : Sk) (a b c d : Int) (W : World) (h : SkOk s a b c d) :
    Calls Tryz.prog 127 #[skV s] W fun e w' => ∃ r, e = .returned (.float .f64 r) ∧ Md r 24 ∧ Below W.heap.size W w' := by
  have hla := h.la
  have hlb := h.lb
  have hlc := h.lc
  have hld := h.ld
  have hlt := h.lt
  obtain ⟨r1, e1, z1⟩ := sub_z h.bx h.ax (by omega) (by omega)
  obtain ⟨r2, e2, z2⟩ := sub_z h.bye h.ay (by omega) (by omega)
  obtain ⟨r3, e3, z3⟩ := quo_z z2 z1 (by omega) (by omega)
  obtain ⟨sn, ⟨sa, sb⟩, ⟨sc, sd⟩⟩ := s
  dsimp only at e1 e2
  have hsub : ∀ w, (binOp .sub 120 (.complex .f64 sc sd) (.complex .f64 sa sb)).run Tryz.prog w = .ok (.complex .f64 r1 r2) w := fun w => run_complex_sum w .sub (.inr rfl) 120 .f64 sc sd sa sb r1 r2 (by
    have f1 : floatBits .sub .f64 sc sa = some r1 := e1
    have f2 : floatBits .sub .f64 sd sb = some r2 := e2
    unfold cSumBits
    simp [f1, f2])
  have hquo : ∀ w, (binOp .quo 116 (.float .f64 r2) (.float .f64 r1)).run Tryz.prog w = .ok (.float .f64 r3) w := fun w => run_float_arith w .quo 116 .f64 r2 r1 r3 e3
  have HZ := hide z3
  clear e1 e2 e3 z1 z2 z3 h hla hlb hlc hld hlt
  unfold skV
  go_enter Tryz.func127, Tryz.ntmps127
  go_wp2_with fail
  go_ret
  exact ⟨r3, rfl, HZ.out, Below.alloc (Below.refl _ _) (Nat.le_refl _) _⟩
end Go.Proofs.YtkjlkbgdkdcboaaGreatDoor
