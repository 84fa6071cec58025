import Ieee.Arith

set_option linter.unusedSimpArgs false
set_option linter.unusedVariables false

set_option linter.unusedSimpArgs false
set_option linter.unusedVariables false
namespace Go.Proofs.YtkjlkbgdkdcboaaGreatDoor.Fl
open Ieee
def pw (p : Int) : Rat := (2 : Rat) ^ p
theorem pw_pos (p : Int) : 0 < pw p := Rat.zpow_pos (by decide)
theorem pw_add (p q : Int) : pw (p + q) = pw p * pw q := Rat.zpow_add (by decide) p q
theorem pw_nat (n : Nat) : pw (n : Int) = ((2 ^ n : Nat) : Rat) := by unfold pw; rw [Rat.zpow_natCast, Rat.natCast_pow]; rfl
theorem pw_zero : pw 0 = 1 := by have := pw_nat 0; simpa using this
theorem pw_le {p q : Int} (h : p ≤ q) : pw p ≤ pw q := by
  obtain ⟨n, rfl⟩ : ∃ n : Nat, q = p + n := ⟨(q - p).toNat, by omega⟩
  rw [pw_add, pw_nat]
  have h1 : (1 : Rat) ≤ ((2 ^ n : Nat) : Rat) := by exact_mod_cast Nat.one_le_two_pow
  have := Rat.mul_le_mul_of_nonneg_left h1 (Rat.le_of_lt (pw_pos p))
  grind
theorem mle {a b c : Rat} (hc : 0 < c) : a * c ≤ b * c ↔ a ≤ b := by
  constructor
  · intro h
    rcases Rat.le_total (a := a) (b := b) with h1 | h1
    · exact h1
    · by_cases e : a = b
      · rw [e]; exact Rat.le_refl
      · have := Rat.mul_lt_mul_of_pos_right (a := b) (b := a) (c := c) (by grind) hc
        grind
  · intro h
    exact Rat.mul_le_mul_of_nonneg_right h (Rat.le_of_lt hc)
theorem mlt {a b c : Rat} (hc : 0 < c) : a * c < b * c ↔ a < b := by
  have := mle (a := b) (b := a) hc
  grind
theorem cut_spec (neg : Bool) (n drop k : Nat) : (k * 2 ^ drop ≤ n → k ≤ Toward.even.cut neg n drop) ∧ (n ≤ k * 2 ^ drop → Toward.even.cut neg n drop ≤ k) := by
  unfold Toward.cut
  simp only [Nat.shiftLeft_eq, Nat.one_mul]
  by_cases hd : drop ≤ n.log2 + 2
  · rw [Nat.min_eq_left hd]
    have hg : 0 < 2 ^ drop := Nat.two_pow_pos drop
    generalize 2 ^ drop = g at *
    have h1 := Nat.div_add_mod n g
    have h2 := Nat.mod_lt n hg
    generalize hq : n / g = q at *
    generalize hr : n % g = r at *
    constructor
    · intro h
      have : k ≤ q := by
        rw [← hq]
        exact (Nat.le_div_iff_mul_le hg).2 h
      omega
    · intro h
      by_cases hr0 : r = 0
      · subst hr0
        have hf : (decide (g < 2 * 0) || (g == 2 * 0 && q % 2 == 1)) = false := by
          simp; omega
        rw [hf]
        have : g * q ≤ g * k := by rw [Nat.mul_comm g k]; omega
        have := Nat.le_of_mul_le_mul_left this hg
        simpa using this
      · have : q < k := by
          rcases Nat.lt_or_ge q k with h3 | h3
          · exact h3
          · have := Nat.mul_le_mul_left g h3
            rw [Nat.mul_comm g k] at this
            omega
        have hb : (decide (g < 2 * r) || (g == 2 * r && q % 2 == 1)).toNat ≤ 1 := by
          cases (decide (g < 2 * r) || (g == 2 * r && q % 2 == 1)) <;> simp
        omega
  · have hd2 : n.log2 + 2 ≤ drop := by omega
    rw [Nat.min_eq_right hd2]
    have hn : n < 2 ^ (n.log2 + 1) := Nat.lt_log2_self
    have e : 2 ^ (n.log2 + 2) = 2 * 2 ^ (n.log2 + 1) := by rw [Nat.pow_succ]; omega
    have hdd : 2 ^ (n.log2 + 2) ≤ 2 ^ drop := Nat.pow_le_pow_right (by omega) hd2
    have h0 : n / 2 ^ (n.log2 + 2) = 0 := Nat.div_eq_of_lt (by omega)
    have h1 : n % 2 ^ (n.log2 + 2) = n := Nat.mod_eq_of_lt (by omega)
    rw [h0, h1]
    have hf : (decide (2 ^ (n.log2 + 2) < 2 * n) || (2 ^ (n.log2 + 2) == 2 * n && 0 % 2 == 1)) = false := by
      simp; omega
    rw [hf]
    constructor
    · intro h
      rcases Nat.eq_zero_or_pos k with hk | hk
      · omega
      · have := Nat.mul_le_mul_right (2 ^ drop) hk
        omega
    · intro _
      simp
def rm (r : Nat) : Nat := if r < 4503599627370496 then r else 4503599627370496 + r % 4503599627370496
def rp (r : Nat) : Int := if r < 4503599627370496 then -1074 else -1074 + ((r / 4503599627370496 - 1 : Nat) : Int)
def R (r : Nat) : Rat := (rm r : Rat) * pw (rp r)
theorem R_step (r : Nat) : R r < R (r + 1) := by
  unfold R
  by_cases h1 : r + 1 < 4503599627370496
  · have a1 : rm r = r := if_pos (by omega)
    have a2 : rm (r + 1) = r + 1 := if_pos h1
    have a3 : rp r = -1074 := if_pos (by omega)
    have a4 : rp (r + 1) = -1074 := if_pos h1
    rw [a1, a2, a3, a4]
    exact (mlt (pw_pos _)).2 (by exact_mod_cast Nat.lt_succ_self r)
  · by_cases h2 : r < 4503599627370496
    · obtain rfl : r = 4503599627370495 := by omega
      have a1 : rm 4503599627370495 = 4503599627370495 := by decide
      have a2 : rm (4503599627370495 + 1) = 4503599627370496 := by decide
      have a3 : rp 4503599627370495 = -1074 := by decide
      have a4 : rp (4503599627370495 + 1) = -1074 := by decide
      rw [a1, a2, a3, a4]
      exact (mlt (pw_pos _)).2 (by decide)
    · have a1 : rm r = 4503599627370496 + r % 4503599627370496 := if_neg h2
      have a2 : rm (r + 1) = 4503599627370496 + (r + 1) % 4503599627370496 := if_neg (by omega)
      have a3 : rp r = -1074 + ((r / 4503599627370496 - 1 : Nat) : Int) := if_neg h2
      have a4 : rp (r + 1) = -1074 + (((r + 1) / 4503599627370496 - 1 : Nat) : Int) := if_neg (by omega)
      by_cases h3 : (r + 1) % 4503599627370496 = 0
      · have e1 : rm r = 9007199254740991 := by omega
        have e2 : rm (r + 1) = 4503599627370496 := by omega
        have e3 : rp (r + 1) = rp r + 1 := by omega
        rw [e1, e2, e3, pw_add]
        have : pw 1 = 2 := by have := pw_nat 1; simpa using this
        rw [this]
        have h := pw_pos (rp r)
        generalize pw (rp r) = q at *
        have : ((9007199254740991 : Nat) : Rat) * q < ((9007199254740992 : Nat) : Rat) * q := (mlt h).2 (by decide)
        have e : ((4503599627370496 : Nat) : Rat) * (q * 2) = ((9007199254740992 : Nat) : Rat) * q := by
          have : ((9007199254740992 : Nat) : Rat) = ((4503599627370496 : Nat) : Rat) * 2 := by
            rw [show (9007199254740992 : Nat) = 4503599627370496 * 2 from rfl, Rat.natCast_mul]; rfl
          rw [this]; grind
        rw [e]; exact this
      · have e1 : rm (r + 1) = rm r + 1 := by omega
        have e3 : rp (r + 1) = rp r := by omega
        rw [e1, e3]
        exact (mlt (pw_pos _)).2 (by exact_mod_cast Nat.lt_succ_self _)
theorem R_lt {r q : Nat} (h : r < q) : R r < R q := by
  obtain ⟨n, rfl⟩ : ∃ n, q = r + 1 + n := ⟨q - (r + 1), by omega⟩
  clear h
  induction n with
  | zero => exact R_step r
  | succ n ih =>
    have h2 := R_step (r + 1 + n)
    rw [show r + 1 + (n + 1) = r + 1 + n + 1 from rfl]
    grind
theorem R_le {r q : Nat} : R r ≤ R q ↔ r ≤ q := by
  constructor
  · intro h
    rcases Nat.lt_or_ge q r with h1 | h1
    · have := R_lt h1; grind
    · exact h1
  · intro h
    rcases Nat.lt_or_eq_of_le h with h1 | rfl
    · exact Rat.le_of_lt (R_lt h1)
    · exact Rat.le_refl
def lastP (m : Nat) (p : Int) : Int := max (p + m.log2 - 52) (-1074)
def keptN (s : Bool) (m : Nat) (p : Int) : Nat := Toward.even.cut s (m <<< (p - lastP m p).toNat) (lastP m p - p).toNat
def rungN (s : Bool) (m : Nat) (p : Int) : Nat := (lastP m p + 1074).toNat * 4503599627370496 + keptN s m p
theorem nearest_eq (s : Bool) {m : Nat} (hm : m ≠ 0) (p : Int) : double.nearest s m p = double.word s (min (rungN s m p) double.infRung) := by
  unfold Format.nearest rungN keptN lastP
  rw [if_neg hm]
  have e1 : double.leastPlace = -1074 := by decide
  have e2 : double.binade = 4503599627370496 := by decide
  have e3 : ((double.fractionBits : Nat) : Int) = 52 := by decide
  simp only [e1, e2, e3, Int.sub_neg]
theorem kept_spec (s : Bool) (m : Nat) (p : Int) (k : Nat) : ((k : Rat) * pw (lastP m p) ≤ (m : Rat) * pw p → k ≤ keptN s m p) ∧ ((m : Rat) * pw p ≤ (k : Rat) * pw (lastP m p) → keptN s m p ≤ k) := by
  unfold keptN
  generalize hl : lastP m p = l
  have hs := cut_spec s (m <<< (p - l).toNat) (l - p).toNat k
  have key : ((k : Rat) * pw l ≤ (m : Rat) * pw p ↔ k * 2 ^ (l - p).toNat ≤ m <<< (p - l).toNat) ∧ ((m : Rat) * pw p ≤ (k : Rat) * pw l ↔ m <<< (p - l).toNat ≤ k * 2 ^ (l - p).toNat) := by
    rw [Nat.shiftLeft_eq]
    rcases Int.le_total l p with h | h
    · obtain ⟨n, hn⟩ : ∃ n : Nat, p = l + n := ⟨(p - l).toNat, by omega⟩
      have e1 : (p - l).toNat = n := by omega
      have e2 : (l - p).toNat = 0 := by omega
      rw [e1, e2, hn, pw_add, pw_nat, Nat.pow_zero, Nat.mul_one]
      have e3 : (m : Rat) * (pw l * ((2 ^ n : Nat) : Rat)) = ((m * 2 ^ n : Nat) : Rat) * pw l := by rw [Rat.natCast_mul]; grind
      rw [e3]
      constructor
      · rw [mle (pw_pos l)]; exact Rat.natCast_le_natCast
      · rw [mle (pw_pos l)]; exact Rat.natCast_le_natCast
    · obtain ⟨n, hn⟩ : ∃ n : Nat, l = p + n := ⟨(l - p).toNat, by omega⟩
      have e1 : (l - p).toNat = n := by omega
      have e2 : (p - l).toNat = 0 := by omega
      rw [e1, e2, hn, pw_add, pw_nat, Nat.pow_zero, Nat.mul_one]
      have e3 : (k : Rat) * (pw p * ((2 ^ n : Nat) : Rat)) = ((k * 2 ^ n : Nat) : Rat) * pw p := by rw [Rat.natCast_mul]; grind
      rw [e3]
      constructor
      · rw [mle (pw_pos p)]; exact Rat.natCast_le_natCast
      · rw [mle (pw_pos p)]; exact Rat.natCast_le_natCast
  exact ⟨fun h => hs.1 (key.1.1 h), fun h => hs.2 (key.2.1 h)⟩
theorem nat_pw (m : Nat) (n : Nat) (p : Int) : ((m * 2 ^ n : Nat) : Rat) * pw p = (m : Rat) * pw (p + n) := by
  rw [pw_add, pw_nat, Rat.natCast_mul]; grind
theorem ncle {a b : Nat} (h : a ≤ b) : (a : Rat) ≤ (b : Rat) := Rat.natCast_le_natCast.2 h
theorem nclt {a b : Nat} (h : a < b) : (a : Rat) < (b : Rat) := Rat.natCast_lt_natCast.2 h
theorem kept_le (s : Bool) (m : Nat) (p : Int) : keptN s m p ≤ 9007199254740992 := by
  refine (kept_spec s m p _).2 ?_
  have h1 : m < 2 ^ (m.log2 + 1) := Nat.lt_log2_self
  have h2 : (m : Rat) ≤ ((2 ^ (m.log2 + 1) : Nat) : Rat) := ncle (by omega)
  have h3 := (mle (pw_pos p)).2 h2
  rw [← pw_nat, ← pw_add] at h3
  have h4 : ((9007199254740992 : Nat) : Rat) * pw (lastP m p) = pw (((53 : Nat) : Int) + lastP m p) := by rw [pw_add, pw_nat]
  rw [h4]
  refine Rat.le_trans h3 (pw_le ?_)
  unfold lastP
  omega
theorem v_ge {m : Nat} (hm : m ≠ 0) (p : Int) (hl : -1074 < lastP m p) : ((4503599627370496 : Nat) : Rat) * pw (lastP m p) ≤ (m : Rat) * pw p := by
  have h1 : 2 ^ m.log2 ≤ m := Nat.log2_self_le hm
  have h3 := (mle (pw_pos p)).2 (ncle h1)
  rw [← pw_nat, ← pw_add] at h3
  have h4 : ((4503599627370496 : Nat) : Rat) * pw (lastP m p) = pw (((52 : Nat) : Int) + lastP m p) := by rw [pw_add, pw_nat]
  rw [h4]
  refine Rat.le_trans (pw_le ?_) h3
  unfold lastP at hl ⊢
  omega
theorem kept_ge (s : Bool) {m : Nat} (hm : m ≠ 0) (p : Int) (hl : -1074 < lastP m p) : 4503599627370496 ≤ keptN s m p := (kept_spec s m p _).1 (v_ge hm p hl)
theorem last_ge (m : Nat) (p : Int) : -1074 ≤ lastP m p := by unfold lastP; omega
theorem R_rung (s : Bool) {m : Nat} (hm : m ≠ 0) (p : Int) : R (rungN s m p) = (keptN s m p : Rat) * pw (lastP m p) := by
  have hk := kept_le s m p
  have hg := fun h => kept_ge s hm p h
  have hl := last_ge m p
  unfold R rungN
  generalize keptN s m p = k at *
  generalize lastP m p = l at *
  obtain ⟨e, he⟩ : ∃ e : Nat, l = -1074 + e := ⟨(l + 1074).toNat, by omega⟩
  have e0 : (l + 1074).toNat = e := by omega
  rw [e0]
  by_cases h0 : e = 0
  · subst h0
    rw [Nat.zero_mul, Nat.zero_add, he]
    by_cases h1 : k < 4503599627370496
    · rw [show rm k = k from if_pos h1, show rp k = -1074 from if_pos h1]; simp
    · by_cases h2 : k = 9007199254740992
      · subst h2
        have a : rm 9007199254740992 = 4503599627370496 := by decide
        have b : rp 9007199254740992 = -1073 := by decide
        rw [a, b]
        have := nat_pw 4503599627370496 1 (-1074)
        simpa using this.symm
      · have a : rm k = k := by unfold rm; rw [if_neg h1]; omega
        have b : rp k = -1074 := by unfold rp; rw [if_neg h1]; omega
        rw [a, b]; simp
  · have hg1 := hg (by omega)
    by_cases h2 : k = 9007199254740992
    · subst h2
      have a : rm (e * 4503599627370496 + 9007199254740992) = 4503599627370496 := by unfold rm; rw [if_neg (by omega)]; omega
      have b : rp (e * 4503599627370496 + 9007199254740992) = l + 1 := by unfold rp; rw [if_neg (by omega)]; omega
      rw [a, b]
      have := nat_pw 4503599627370496 1 l
      simpa using this.symm
    · have a : rm (e * 4503599627370496 + k) = k := by unfold rm; rw [if_neg (by omega)]; omega
      have b : rp (e * 4503599627370496 + k) = l := by unfold rp; rw [if_neg (by omega)]; omega
      rw [a, b]
theorem rm_lt (r : Nat) : rm r < 9007199254740992 := by unfold rm; split <;> omega
theorem rp_ge (r : Nat) : -1074 ≤ rp r := by unfold rp; split <;> omega
theorem near (s : Bool) {m : Nat} (hm : m ≠ 0) (p : Int) (r : Nat) : (R r ≤ (m : Rat) * pw p → r ≤ rungN s m p) ∧ ((m : Rat) * pw p ≤ R r → rungN s m p ≤ r) := by
  rw [← R_le, ← R_le, R_rung s hm p]
  have hks := kept_spec s m p
  have hg := fun h => kept_ge s hm p h
  have hv := v_ge hm p
  have hr := rm_lt r
  have hp := rp_ge r
  unfold R
  generalize keptN s m p = k at *
  generalize lastP m p = l at *
  generalize rm r = a at *
  generalize rp r = q at *
  generalize (m : Rat) * pw p = v at *
  by_cases h : l ≤ q
  · obtain ⟨n, rfl⟩ : ∃ n : Nat, q = l + n := ⟨(q - l).toNat, by omega⟩
    rw [← nat_pw]
    exact ⟨fun h1 => (mle (pw_pos l)).2 (ncle ((hks _).1 h1)), fun h1 => (mle (pw_pos l)).2 (ncle ((hks _).2 h1))⟩
  · have h1 : (a : Rat) * pw q < ((4503599627370496 : Nat) : Rat) * pw l := by
      have b1 := (mlt (pw_pos q)).2 (nclt hr)
      have b2 : ((9007199254740992 : Nat) : Rat) * pw q = ((4503599627370496 : Nat) : Rat) * pw (q + (1 : Nat)) := nat_pw 4503599627370496 1 q
      have b3 : pw (q + (1 : Nat)) ≤ pw l := pw_le (by omega)
      have b4 := Rat.mul_le_mul_of_nonneg_left b3 (show (0 : Rat) ≤ ((4503599627370496 : Nat) : Rat) by decide)
      rw [b2] at b1
      grind
    have h2 := (mle (pw_pos l)).2 (ncle (hg (by omega)))
    have h3 := hv (by omega)
    constructor
    · intro _; grind
    · intro h4; grind
def dv : Datum → Rat
  | .number s m p => if s = true then -((m : Rat) * pw p) else (m : Rat) * pw p
  | _ => 0
theorem dv_num (s : Bool) (m : Nat) (p : Int) : dv (.number s m p) = if s = true then -((m : Rat) * pw p) else (m : Rat) * pw p := rfl
def V (x : Nat) : Rat := dv (double.read x)
def Fi (x : Nat) : Prop := ∃ s m p, double.read x = .number s m p
theorem read_word (s : Bool) {r : Nat} (hr : r < 9218868437227405312) : double.read (double.word s r) = .number s (rm r) (rp r) := by
  have e1 : double.signWeight = 9223372036854775808 := by decide
  have e2 : double.binade = 4503599627370496 := by decide
  have e3 : double.infRung = 9218868437227405312 := by decide
  have e4 : double.leastPlace = -1074 := by decide
  unfold Format.read Format.word
  simp only [e1, e2, e3, e4]
  cases s
  · simp only [Bool.false_eq_true, if_false]
    have a1 : r / 9223372036854775808 % 2 = 0 := by omega
    have a2 : r % 9223372036854775808 = r := by omega
    rw [a1, a2]
    unfold rm rp
    by_cases h : r < 4503599627370496
    · simp [h]
    · simp [h, hr]
  · simp only [if_true]
    have a1 : (9223372036854775808 + r) / 9223372036854775808 % 2 = 1 := by omega
    have a2 : (9223372036854775808 + r) % 9223372036854775808 = r := by omega
    rw [a1, a2]
    unfold rm rp
    by_cases h : r < 4503599627370496
    · simp [h]
    · simp [h, hr]
theorem V_word (s : Bool) {r : Nat} (hr : r < 9218868437227405312) : V (double.word s r) = if s = true then -R r else R r := by
  unfold V
  rw [read_word s hr]
  rfl
theorem R_zero : R 0 = 0 := by unfold R; rw [show rm 0 = 0 by decide]; simp
theorem R_nonneg (r : Nat) : 0 ≤ R r := by have := R_le.2 (Nat.zero_le r); rwa [R_zero] at this
def Rep (B : Rat) : Prop := ∃ r, B = R r ∨ B = -R r
structure Nr (v : Rat) (x : Nat) : Prop where
  fin : Fi x
  lo : ∀ B, Rep B → B ≤ v → B ≤ V x
  hi : ∀ B, Rep B → v ≤ B → V x ≤ B
theorem write_near (s : Bool) (m : Nat) (p : Int) {r0 : Nat} (hr0 : r0 < 9218868437227405312) (h : (m : Rat) * pw p ≤ R r0) : Nr (dv (.number s m p)) (double.write (.number s m p)) := by
  show Nr (dv (.number s m p)) (double.nearest s m p)
  by_cases hm : m = 0
  · subst hm
    have e : double.nearest s 0 p = double.word s 0 := by unfold Format.nearest; rw [if_pos rfl]
    have hv : dv (.number s 0 p) = 0 := by unfold dv; cases s <;> simp
    have hV : V (double.word s 0) = 0 := by rw [V_word s (by omega), R_zero]; cases s <;> simp
    rw [e, hv]
    refine ⟨⟨_, _, _, read_word s (by omega)⟩, fun B _ hb => ?_, fun B _ hb => ?_⟩
    · rw [hV]; exact hb
    · rw [hV]; exact hb
  · rw [nearest_eq s hm p]
    have e3 : double.infRung = 9218868437227405312 := by decide
    have hn := near s hm p
    have hlt := (hn r0).2 h
    rw [e3, Nat.min_eq_left (by omega)]
    have hlt2 : rungN s m p < 9218868437227405312 := by omega
    generalize rungN s m p = g at *
    have hpos : 0 < (m : Rat) * pw p := Rat.mul_pos (nclt (Nat.pos_of_ne_zero hm)) (pw_pos p)
    have hR := R_nonneg g
    refine ⟨⟨_, _, _, read_word s hlt2⟩, ?_, ?_⟩
    · rintro B ⟨r, hB⟩ hb
      rw [V_word s hlt2]
      have h1 := R_nonneg r
      have n1 := (hn r).1
      have n2 := (hn r).2
      rw [dv_num] at hb
      generalize (m : Rat) * pw p = v at *
      cases s
      · simp only [Bool.false_eq_true, if_false] at hb ⊢
        rcases hB with rfl | rfl
        · exact R_le.2 (n1 hb)
        · grind
      · simp only [if_true] at hb ⊢
        rcases hB with rfl | rfl
        · grind
        · have := R_le.2 (n2 (by grind)); grind
    · rintro B ⟨r, hB⟩ hb
      rw [V_word s hlt2]
      have h1 := R_nonneg r
      have n1 := (hn r).1
      have n2 := (hn r).2
      rw [dv_num] at hb
      generalize (m : Rat) * pw p = v at *
      cases s
      · simp only [Bool.false_eq_true, if_false] at hb ⊢
        rcases hB with rfl | rfl
        · exact R_le.2 (n2 hb)
        · grind
      · simp only [if_true] at hb ⊢
        rcases hB with rfl | rfl
        · grind
        · have := R_le.2 (n1 (by grind)); grind
theorem R_big : R 9214364837600034816 = pw 1023 := by
  unfold R
  rw [show rm 9214364837600034816 = 4503599627370496 by decide, show rp 9214364837600034816 = 971 by decide]
  have := nat_pw 1 52 971
  rw [show (1 * 2 ^ 52 : Nat) = 4503599627370496 from rfl] at this
  rw [this]
  simp
theorem big_ge {n : Nat} (h : n ≤ 1023) : ((2 ^ n : Nat) : Rat) ≤ R 9214364837600034816 := by
  rw [R_big, ← pw_nat]
  exact pw_le (by omega)
theorem rep_nat {n : Nat} (h : n < 9007199254740992) : ∃ r, R r = (n : Rat) := by
  by_cases h0 : n = 0
  · subst h0; exact ⟨0, by rw [R_zero]; rfl⟩
  · refine ⟨rungN false n 0, ?_⟩
    rw [R_rung false h0 0]
    have hlog : n.log2 ≤ 52 := by
      have := (Nat.log2_lt h0 (k := 53)).2 (by omega)
      omega
    have hl : lastP n 0 ≤ 0 := by unfold lastP; omega
    have hk := kept_spec false n 0
    obtain ⟨q, hq⟩ : ∃ q : Nat, lastP n 0 = -(q : Int) := ⟨(-lastP n 0).toNat, by omega⟩
    rw [hq] at hk ⊢
    have e : (n : Rat) * pw 0 = ((n * 2 ^ q : Nat) : Rat) * pw (-(q : Int)) := by
      rw [nat_pw]; congr 2; omega
    have h1 := (hk (n * 2 ^ q)).1 (by rw [e]; exact Rat.le_refl)
    have h2 := (hk (n * 2 ^ q)).2 (by rw [e]; exact Rat.le_refl)
    rw [show keptN false n 0 = n * 2 ^ q by omega, ← e, pw_zero, Rat.mul_one]
theorem rep_int {n : Int} (h1 : -9007199254740992 < n) (h2 : n < 9007199254740992) : Rep (n : Rat) := by
  obtain ⟨r, hr⟩ := rep_nat (n := n.natAbs) (by omega)
  refine ⟨r, ?_⟩
  rcases Int.le_total 0 n with h | h
  · left
    rw [hr]
    have : (n : Rat) = ((n.natAbs : Int) : Rat) := by congr 1; omega
    rw [this]; rfl
  · right
    rw [hr]
    have : (n : Rat) = ((-(n.natAbs : Int) : Int) : Rat) := by congr 1; omega
    rw [this, Rat.intCast_neg]; rfl
theorem Nr.exact {v : Rat} {x : Nat} (h : Nr v x) (hv : Rep v) : V x = v := by
  have a := h.lo v hv Rat.le_refl
  have b := h.hi v hv Rat.le_refl
  grind
end Go.Proofs.YtkjlkbgdkdcboaaGreatDoor.Fl

set_option linter.unusedSimpArgs false
set_option linter.unusedVariables false
namespace Go.Proofs.YtkjlkbgdkdcboaaGreatDoor.Fl
open Ieee
theorem signed_pw (s : Bool) (m : Nat) (u : Nat) (b : Int) : ((signed s m u : Int) : Rat) * pw b = dv (.number s m (b + u)) := by
  rw [dv_num, ← nat_pw]
  unfold signed
  rw [Nat.shiftLeft_eq]
  cases s
  · simp only [Bool.false_eq_true, if_false]; rfl
  · simp only [if_true]
    rw [Rat.intCast_neg]
    have : (((m * 2 ^ u : Nat) : Int) : Rat) = ((m * 2 ^ u : Nat) : Rat) := rfl
    rw [this]
    grind
theorem sum_dv (s : Bool) (m : Nat) (i : Int) (t : Bool) (n : Nat) (j : Int) : ∃ S M P, Datum.sum (.number s m i) (.number t n j) = some (.number S M P) ∧ dv (.number S M P) = dv (.number s m i) + dv (.number t n j) := by
  refine ⟨_, _, _, rfl, ?_⟩
  have h1 := signed_pw s m (i - min i j).toNat (min i j)
  have h2 := signed_pw t n (j - min i j).toNat (min i j)
  rw [show min i j + ((i - min i j).toNat : Int) = i by omega] at h1
  rw [show min i j + ((j - min i j).toNat : Int) = j by omega] at h2
  rw [← h1, ← h2]
  generalize signed s m (i - min i j).toNat = a
  generalize signed t n (j - min i j).toNat = b
  have e : (a : Rat) * pw (min i j) + (b : Rat) * pw (min i j) = ((a + b : Int) : Rat) * pw (min i j) := by rw [Rat.intCast_add]; grind
  rw [e, dv_num]
  generalize a + b = c
  by_cases h0 : c = 0
  · subst h0
    simp
  · rw [if_neg h0]
    by_cases hn : c < 0
    · rw [if_pos (by simpa using hn)]
      have : (c : Rat) = -((c.natAbs : Nat) : Rat) := by
        have e2 : c = -(c.natAbs : Int) := by omega
        rw [e2, Rat.intCast_neg]
        simp
        rfl
      rw [this]; grind
    · rw [if_neg (by simpa using hn)]
      have : (c : Rat) = ((c.natAbs : Nat) : Rat) := by
        have e2 : c = (c.natAbs : Int) := by omega
        rw [e2]
        simp
        rfl
      rw [this]
theorem opp_dv (s : Bool) (m : Nat) (i : Int) : dv (Datum.opposite (.number s m i)) = -dv (.number s m i) := by
  show dv (.number (!s) m i) = _
  rw [dv_num, dv_num]
  cases s <;> simp
theorem prod_dv (s : Bool) (m : Nat) (i : Int) (t : Bool) (n : Nat) (j : Int) : ∃ S M P, Datum.product (.number s m i) (.number t n j) = some (.number S M P) ∧ dv (.number S M P) = dv (.number s m i) * dv (.number t n j) := by
  refine ⟨_, _, _, rfl, ?_⟩
  rw [dv_num, dv_num, dv_num, pw_add, Rat.natCast_mul]
  cases s <;> cases t <;> simp <;> grind
theorem abs_of {s : Bool} {m : Nat} {p : Int} {B : Rat} (h1 : -B ≤ dv (.number s m p)) (h2 : dv (.number s m p) ≤ B) : (m : Rat) * pw p ≤ B := by
  rw [dv_num] at h1 h2
  cases s
  · simpa using h2
  · simp only [if_true] at h1; grind
def big : Rat := R 9214364837600034816
theorem big_nat {n : Nat} (h : n ≤ 1023) : ((2 ^ n : Nat) : Rat) ≤ big := big_ge h
theorem write_nr {s : Bool} {m : Nat} {p : Int} {v : Rat} (e : dv (.number s m p) = v) (h1 : -big ≤ v) (h2 : v ≤ big) : Nr v (double.write (.number s m p)) := by
  rw [← e] at h1 h2 ⊢
  exact write_near s m p (by omega) (abs_of h1 h2)
theorem add_nr {x y : Nat} (hx : Fi x) (hy : Fi y) (h1 : -big ≤ V x + V y) (h2 : V x + V y ≤ big) : ∃ r, double.add x y = some r ∧ Nr (V x + V y) r := by
  obtain ⟨s, m, i, ex⟩ := hx
  obtain ⟨t, n, j, ey⟩ := hy
  obtain ⟨S, M, P, e1, e2⟩ := sum_dv s m i t n j
  have hx : V x = dv (.number s m i) := by unfold V; rw [ex]
  have hy : V y = dv (.number t n j) := by unfold V; rw [ey]
  rw [hx, hy] at h1 h2 ⊢
  refine ⟨_, ?_, write_nr e2 h1 h2⟩
  unfold Format.add
  rw [ex, ey, e1]
  rfl
theorem sub_nr {x y : Nat} (hx : Fi x) (hy : Fi y) (h1 : -big ≤ V x - V y) (h2 : V x - V y ≤ big) : ∃ r, double.sub x y = some r ∧ Nr (V x - V y) r := by
  obtain ⟨s, m, i, ex⟩ := hx
  obtain ⟨t, n, j, ey⟩ := hy
  obtain ⟨S, M, P, e1, e2⟩ := sum_dv s m i (!t) n j
  have hx : V x = dv (.number s m i) := by unfold V; rw [ex]
  have hy : V y = dv (.number t n j) := by unfold V; rw [ey]
  have ho : dv (.number (!t) n j) = -dv (.number t n j) := opp_dv t n j
  rw [ho, ← Rat.sub_eq_add_neg] at e2
  rw [hx, hy] at h1 h2 ⊢
  refine ⟨_, ?_, write_nr e2 h1 h2⟩
  unfold Format.sub
  rw [ex, ey]
  show Option.map _ (Datum.sum (.number s m i) (.number (!t) n j)) = _
  rw [e1]
  rfl
theorem mul_nr {x y : Nat} (hx : Fi x) (hy : Fi y) (h1 : -big ≤ V x * V y) (h2 : V x * V y ≤ big) : ∃ r, double.mul x y = some r ∧ Nr (V x * V y) r := by
  obtain ⟨s, m, i, ex⟩ := hx
  obtain ⟨t, n, j, ey⟩ := hy
  obtain ⟨S, M, P, e1, e2⟩ := prod_dv s m i t n j
  have hx : V x = dv (.number s m i) := by unfold V; rw [ex]
  have hy : V y = dv (.number t n j) := by unfold V; rw [ey]
  rw [hx, hy] at h1 h2 ⊢
  refine ⟨_, ?_, write_nr e2 h1 h2⟩
  unfold Format.mul
  rw [ex, ey, e1]
  rfl
theorem order_V {x y : Nat} (hx : Fi x) (hy : Fi y) : double.order x y = some (if V x < V y then .lt else if V x = V y then .eq else .gt) := by
  obtain ⟨s, m, i, ex⟩ := hx
  obtain ⟨t, n, j, ey⟩ := hy
  have hx : V x = dv (.number s m i) := by unfold V; rw [ex]
  have hy : V y = dv (.number t n j) := by unfold V; rw [ey]
  have h1 := signed_pw s m (i - min i j).toNat (min i j)
  have h2 := signed_pw t n (j - min i j).toNat (min i j)
  rw [show min i j + ((i - min i j).toNat : Int) = i by omega] at h1
  rw [show min i j + ((j - min i j).toNat : Int) = j by omega] at h2
  rw [hx, hy, ← h1, ← h2]
  unfold Format.order
  rw [ex, ey]
  show some (compare (signed s m (i - min i j).toNat) (signed t n (j - min i j).toNat)) = _
  generalize signed s m (i - min i j).toNat = a
  generalize signed t n (j - min i j).toNat = b
  have hp := pw_pos (min i j)
  congr 1
  by_cases hlt : a < b
  · rw [if_pos ((mlt hp).2 (Rat.intCast_lt_intCast.2 hlt))]
    show compareOfLessAndEq a b = _
    unfold compareOfLessAndEq; rw [if_pos hlt]
  · rw [if_neg (fun h => hlt (Rat.intCast_lt_intCast.1 ((mlt hp).1 h)))]
    by_cases he : a = b
    · subst he
      rw [if_pos rfl]
      show compareOfLessAndEq a a = _
      unfold compareOfLessAndEq; rw [if_neg hlt, if_pos rfl]
    · have hgt : b < a := by omega
      have : ¬ (a : Rat) * pw (min i j) = (b : Rat) * pw (min i j) := by
        have := (mlt hp).2 (Rat.intCast_lt_intCast.2 hgt)
        grind
      rw [if_neg this]
      show compareOfLessAndEq a b = _
      unfold compareOfLessAndEq; rw [if_neg hlt, if_neg he]
theorem rep_zero : Rep 0 := ⟨0, .inl R_zero.symm⟩
theorem R_one : R 1 = pw (-1074) := by unfold R; rw [show rm 1 = 1 by decide, show rp 1 = -1074 by decide]; simp
theorem V_mul (x : Nat) (hx : Fi x) : ∃ k : Int, V x = (k : Rat) * pw (-1074) := by
  obtain ⟨s, m, p, ex⟩ := hx
  have hp : -1074 ≤ p := by
    have e1 : double.leastPlace = -1074 := by decide
    unfold Format.read at ex
    simp only [e1] at ex
    split at ex
    · cases ex; omega
    · split at ex
      · cases ex; omega
      · split at ex <;> cases ex
  have hx : V x = dv (.number s m p) := by unfold V; rw [ex]
  have h1 := signed_pw s m (p + 1074).toNat (-1074)
  rw [show (-1074 : Int) + ((p + 1074).toNat : Int) = p by omega] at h1
  exact ⟨_, by rw [hx, ← h1]⟩
theorem sub_pos {x y r : Nat} (hx : Fi x) (hy : Fi y) (hr : Nr (V x - V y) r) : (0 < V r ↔ V y < V x) ∧ (V r < 0 ↔ V x < V y) := by
  obtain ⟨a, ha⟩ := V_mul x hx
  obtain ⟨b, hb⟩ := V_mul y hy
  have hp := pw_pos (-1074)
  have h1 := R_one
  have key : ∀ c : Int, 0 < c → R 1 ≤ (c : Rat) * pw (-1074) := fun c hc => by
    rw [h1]
    have : (1 : Rat) * pw (-1074) ≤ (c : Rat) * pw (-1074) := (mle hp).2 (by exact_mod_cast hc)
    rwa [Rat.one_mul] at this
  have e : V x - V y = ((a - b : Int) : Rat) * pw (-1074) := by rw [ha, hb, Rat.intCast_sub]; grind
  have z1 := hr.lo 0 rep_zero
  have z2 := hr.hi 0 rep_zero
  have c1 : V y < V x → 0 < a - b := fun h => by
    rw [ha, hb] at h
    have := Rat.intCast_lt_intCast.1 ((mlt hp).1 h)
    omega
  have c2 : V x < V y → 0 < b - a := fun h => by
    rw [ha, hb] at h
    have := Rat.intCast_lt_intCast.1 ((mlt hp).1 h)
    omega
  have p1 : V y < V x → 0 < V r := fun h => by
    have := hr.lo (R 1) ⟨1, .inl rfl⟩ (by rw [e]; exact key _ (c1 h))
    have := R_lt (show 0 < 1 by omega)
    rw [R_zero] at this
    grind
  have p2 : V x < V y → V r < 0 := fun h => by
    have := hr.hi (-R 1) ⟨1, .inr rfl⟩ (by
      have k := key _ (c2 h)
      have e2 : ((b - a : Int) : Rat) * pw (-1074) = -(V x - V y) := by rw [ha, hb, Rat.intCast_sub]; grind
      rw [e2] at k
      grind)
    have := R_lt (show 0 < 1 by omega)
    rw [R_zero] at this
    grind
  constructor
  · constructor
    · intro h
      rcases Rat.le_total (a := V x) (b := V y) with h1 | h1
      · have := z2 (by grind); grind
      · by_cases e2 : V x = V y
        · have := z2 (by grind); grind
        · grind
    · exact p1
  · constructor
    · intro h
      rcases Rat.le_total (a := V y) (b := V x) with h1 | h1
      · have := z1 (by grind); grind
      · by_cases e2 : V x = V y
        · have := z1 (by grind); grind
        · grind
    · exact p2
end Go.Proofs.YtkjlkbgdkdcboaaGreatDoor.Fl

set_option linter.unusedSimpArgs false
set_option linter.unusedVariables false
namespace Go.Proofs.YtkjlkbgdkdcboaaGreatDoor.Fl
open Ieee
def qmore (m n : Nat) : Nat := 54 + n.log2 - m.log2
def qmag (m n : Nat) : Nat := 2 * ((m <<< qmore m n) / n) + ((m <<< qmore m n) % n != 0).toNat
theorem quot_eq (s : Bool) (m : Nat) (i : Int) (t : Bool) {n : Nat} (hn : n ≠ 0) (j : Int) : Datum.quotient 54 (.number s m i) (.number t n j) = some (.number (s ^^ t) (qmag m n) (i - j - qmore m n - 1)) := by
  unfold Datum.quotient
  simp only [if_neg hn]
  rfl
theorem qmag_spec (m : Nat) {n : Nat} (hn : n ≠ 0) (k : Nat) : (k * n ≤ m * 2 ^ qmore m n → 2 * k ≤ qmag m n) ∧ (m * 2 ^ qmore m n ≤ k * n → qmag m n ≤ 2 * k) := by
  unfold qmag
  rw [Nat.shiftLeft_eq]
  have hn0 : 0 < n := Nat.pos_of_ne_zero hn
  generalize m * 2 ^ qmore m n = d
  have h1 := Nat.div_add_mod d n
  have h2 := Nat.mod_lt d hn0
  constructor
  · intro h
    have := (Nat.le_div_iff_mul_le hn0).2 h
    omega
  · intro h
    by_cases hr : d % n = 0
    · rw [hr]
      have : n * (d / n) ≤ n * k := by rw [Nat.mul_comm n k]; omega
      have := Nat.le_of_mul_le_mul_left this hn0
      simp
      omega
    · have : d / n < k := by
        rcases Nat.lt_or_ge (d / n) k with h3 | h3
        · exact h3
        · have := Nat.mul_le_mul_left n h3
          rw [Nat.mul_comm n k] at this
          omega
      have hb : (d % n != 0).toNat ≤ 1 := by cases (d % n != 0) <;> simp
      omega
theorem qmag_ge {m n : Nat} (hm : m ≠ 0) (hn : n ≠ 0) : 9007199254740992 * n ≤ m * 2 ^ qmore m n := by
  have h1 : 2 ^ m.log2 ≤ m := Nat.log2_self_le hm
  have h2 : n < 2 ^ (n.log2 + 1) := Nat.lt_log2_self
  have h3 : 2 ^ (54 + n.log2) ≤ 2 ^ (m.log2 + qmore m n) := Nat.pow_le_pow_right (by omega) (by unfold qmore; omega)
  have h4 : 2 ^ (54 + n.log2) = 9007199254740992 * 2 ^ (n.log2 + 1) := by
    rw [show 54 + n.log2 = 53 + (n.log2 + 1) by omega, Nat.pow_add]
  have h5 := Nat.mul_le_mul_right (2 ^ qmore m n) h1
  rw [← Nat.pow_add] at h5
  have h6 : 9007199254740992 * n ≤ 9007199254740992 * 2 ^ (n.log2 + 1) := Nat.mul_le_mul_left _ (by omega)
  omega
theorem quot_near (m : Nat) {n : Nat} (hn : n ≠ 0) (i j : Int) (r : Nat) :
    (R r * ((n : Rat) * pw j) ≤ (m : Rat) * pw i → R r ≤ (qmag m n : Rat) * pw (i - j - qmore m n - 1)) ∧ ((m : Rat) * pw i ≤ R r * ((n : Rat) * pw j) → (qmag m n : Rat) * pw (i - j - qmore m n - 1) ≤ R r) := by
  have hsp := qmag_spec m hn
  have hge := fun hm : m ≠ 0 => qmag_ge hm hn
  have hr := rm_lt r
  obtain ⟨u, hu⟩ : ∃ u : Int, u = i - j - qmore m n := ⟨_, rfl⟩
  have e0 : ∀ K : Rat, (K : Rat) * pw u = (2 * K) * pw (u - 1) := fun K => by
    have := pw_add (u - 1) 1
    rw [show u - 1 + 1 = u by omega, show pw 1 = 2 by (have := pw_nat 1; simpa using this)] at this
    rw [this]; grind
  have hN : (0 : Rat) < (n : Rat) * pw j := Rat.mul_pos (nclt (Nat.pos_of_ne_zero hn)) (pw_pos j)
  -- comparing with whole numbers of units
  have hi : ∀ k : Nat, (k : Rat) * pw u * ((n : Rat) * pw j) = ((k * n : Nat) : Rat) * pw (u + j) := fun k => by rw [pw_add, Rat.natCast_mul]; grind
  have hm : (m : Rat) * pw i = ((m * 2 ^ qmore m n : Nat) : Rat) * pw (u + j) := by rw [nat_pw]; congr 2; omega
  rw [← hu]
  have kl : ∀ k : Nat, ((k : Rat) * pw u * ((n : Rat) * pw j) ≤ (m : Rat) * pw i → (k : Rat) * pw u ≤ (qmag m n : Rat) * pw (u - 1)) ∧ ((m : Rat) * pw i ≤ (k : Rat) * pw u * ((n : Rat) * pw j) → (qmag m n : Rat) * pw (u - 1) ≤ (k : Rat) * pw u) := fun k => by
    have c : (2 * (k : Rat)) = ((2 * k : Nat) : Rat) := by rw [Rat.natCast_mul]; rfl
    rw [hi, hm, mle (pw_pos _), mle (pw_pos _), e0, c, mle (pw_pos _), mle (pw_pos _)]
    exact ⟨fun h => ncle ((hsp k).1 (Rat.natCast_le_natCast.1 h)), fun h => ncle ((hsp k).2 (Rat.natCast_le_natCast.1 h))⟩
  unfold R
  generalize rm r = a at *
  generalize rp r = q at *
  by_cases h : u ≤ q
  · obtain ⟨z, rfl⟩ : ∃ z : Nat, q = u + z := ⟨(q - u).toNat, by omega⟩
    rw [← nat_pw]
    exact kl _
  · by_cases hm0 : m = 0
    · have z : (m : Rat) * pw i = 0 := by rw [hm0]; simp
      have zq : qmag m n = 0 := by
        have := (hsp 0).2 (by rw [hm0]; simp)
        omega
      rw [z, zq]
      have hz : ((0 : Nat) : Rat) * pw (u - 1) = 0 := by simp
      rw [hz]
      constructor
      · intro h1
        have : (a : Rat) * pw q * ((n : Rat) * pw j) ≤ 0 * ((n : Rat) * pw j) := by grind
        exact (mle hN).1 this
      · intro _
        exact Rat.mul_nonneg (by exact_mod_cast Nat.zero_le a) (Rat.le_of_lt (pw_pos q))
    · have b1 := (mlt (pw_pos q)).2 (nclt hr)
      have b2 : ((9007199254740992 : Nat) : Rat) * pw q = ((4503599627370496 : Nat) : Rat) * pw (q + (1 : Nat)) := nat_pw 4503599627370496 1 q
      have b3 : pw (q + (1 : Nat)) ≤ pw u := pw_le (by omega)
      have b4 := Rat.mul_le_mul_of_nonneg_left b3 (show (0 : Rat) ≤ ((4503599627370496 : Nat) : Rat) by decide)
      have b5 : ((4503599627370496 : Nat) : Rat) * pw u ≤ ((9007199254740992 : Nat) : Rat) * pw u := (mle (pw_pos u)).2 (ncle (by omega))
      rw [b2] at b1
      have hA : (a : Rat) * pw q < ((9007199254740992 : Nat) : Rat) * pw u := by grind
      have hT : ((9007199254740992 : Nat) : Rat) * pw u * ((n : Rat) * pw j) ≤ (m : Rat) * pw i := by
        rw [hi, hm, mle (pw_pos _)]
        exact ncle (hge hm0)
      have hB := (kl 9007199254740992).1 hT
      constructor
      · intro _; grind
      · intro h1
        have h2 := (mlt hN).2 hA
        grind
theorem div_nr {x y : Nat} (hx : Fi x) (hy : Fi y) (h0 : V y ≠ 0) {q : Rat} (hq : q * V y = V x) (h1 : -big ≤ q) (h2 : q ≤ big) : ∃ r, double.div x y = some r ∧ Nr q r := by
  obtain ⟨s, m, i, ex⟩ := hx
  obtain ⟨t, n, j, ey⟩ := hy
  have hx : V x = dv (.number s m i) := by unfold V; rw [ex]
  have hy : V y = dv (.number t n j) := by unfold V; rw [ey]
  rw [hx, hy] at hq
  rw [hy] at h0
  have hn : n ≠ 0 := by
    rintro rfl
    apply h0
    rw [dv_num]; cases t <;> simp
  have hN : (0 : Rat) < (n : Rat) * pw j := Rat.mul_pos (nclt (Nat.pos_of_ne_zero hn)) (pw_pos j)
  have hM : (0 : Rat) ≤ (m : Rat) * pw i := Rat.mul_nonneg (by exact_mod_cast Nat.zero_le m) (Rat.le_of_lt (pw_pos i))
  have hnear := quot_near m hn i j
  -- the magnitude
  obtain ⟨Q, hQ⟩ : ∃ Q : Rat, Q = if (s ^^ t) = true then -q else q := ⟨_, rfl⟩
  have hQm : Q * ((n : Rat) * pw j) = (m : Rat) * pw i := by
    rw [hQ]
    rw [dv_num, dv_num] at hq
    cases s <;> cases t <;> simp at hq ⊢ <;> grind
  have hQb : Q ≤ big := by rw [hQ]; split <;> grind
  have hnear2 : ∀ r, (R r ≤ Q → R r ≤ (qmag m n : Rat) * pw (i - j - qmore m n - 1)) ∧ (Q ≤ R r → (qmag m n : Rat) * pw (i - j - qmore m n - 1) ≤ R r) := fun r => by
    have := hnear r
    rw [← hQm] at this
    exact ⟨fun h => this.1 ((mle hN).2 h), fun h => this.2 ((mle hN).2 h)⟩
  have hle : (qmag m n : Rat) * pw (i - j - qmore m n - 1) ≤ R 9214364837600034816 := (hnear2 _).2 hQb
  have hw := write_near (s ^^ t) (qmag m n) (i - j - qmore m n - 1) (by omega) hle
  refine ⟨_, ?_, hw.fin, ?_, ?_⟩
  · unfold Format.div
    rw [ex, ey, show double.fractionBits + 2 = 54 from rfl, quot_eq s m i t hn j]
    rfl
  · rintro B ⟨r, hB⟩ hb
    have hr := hnear2 r
    have hr0 := R_nonneg r
    have hq0 : 0 ≤ (qmag m n : Rat) * pw (i - j - qmore m n - 1) := Rat.mul_nonneg (by exact_mod_cast Nat.zero_le _) (Rat.le_of_lt (pw_pos _))
    have hQ0 : 0 ≤ Q := by
      rcases Rat.le_total (a := 0) (b := Q) with h | h
      · exact h
      · by_cases e : Q = 0
        · grind
        · have := Rat.mul_lt_mul_of_pos_right (a := Q) (b := 0) (by grind) hN
          grind
    refine hw.lo B ⟨r, hB⟩ ?_
    rw [dv_num]
    generalize (qmag m n : Rat) * pw (i - j - qmore m n - 1) = z at *
    by_cases e : (s ^^ t) = true
    · rw [if_pos e] at hQ ⊢
      rcases hB with rfl | rfl
      · have : R r = 0 := by grind
        have hz := (hnear2 0).2
        rw [R_zero] at hz
        have := hz (by grind)
        grind
      · have := hr.2 (by grind); grind
    · rw [if_neg e] at hQ ⊢
      rcases hB with rfl | rfl
      · exact hr.1 (by grind)
      · grind
  · rintro B ⟨r, hB⟩ hb
    have hr := hnear2 r
    have hr0 := R_nonneg r
    have hq0 : 0 ≤ (qmag m n : Rat) * pw (i - j - qmore m n - 1) := Rat.mul_nonneg (by exact_mod_cast Nat.zero_le _) (Rat.le_of_lt (pw_pos _))
    have hQ0 : 0 ≤ Q := by
      rcases Rat.le_total (a := 0) (b := Q) with h | h
      · exact h
      · by_cases e : Q = 0
        · grind
        · have := Rat.mul_lt_mul_of_pos_right (a := Q) (b := 0) (by grind) hN
          grind
    refine hw.hi B ⟨r, hB⟩ ?_
    rw [dv_num]
    generalize (qmag m n : Rat) * pw (i - j - qmore m n - 1) = z at *
    by_cases e : (s ^^ t) = true
    · rw [if_pos e] at hQ ⊢
      rcases hB with rfl | rfl
      · grind
      · have := hr.1 (by grind); grind
    · rw [if_neg e] at hQ ⊢
      rcases hB with rfl | rfl
      · exact hr.2 (by grind)
      · have hz := (hnear2 0).2
        rw [R_zero] at hz
        have := hz (by grind)
        grind
end Go.Proofs.YtkjlkbgdkdcboaaGreatDoor.Fl

set_option linter.unusedSimpArgs false
set_option linter.unusedVariables false
namespace Go.Proofs.YtkjlkbgdkdcboaaGreatDoor.Fl
open Ieee
theorem gap_eq (n drop : Nat) : n / (1 <<< min drop (n.log2 + 2)) = n / 2 ^ drop ∧ (n % (1 <<< min drop (n.log2 + 2)) = 0 ↔ n % 2 ^ drop = 0) := by
  rw [Nat.shiftLeft_eq, Nat.one_mul]
  by_cases hd : drop ≤ n.log2 + 2
  · rw [Nat.min_eq_left hd]; exact ⟨rfl, Iff.rfl⟩
  · rw [Nat.min_eq_right (by omega)]
    have hn : n < 2 ^ (n.log2 + 1) := Nat.lt_log2_self
    have e : 2 ^ (n.log2 + 2) = 2 * 2 ^ (n.log2 + 1) := by rw [Nat.pow_succ]; omega
    have hdd : 2 ^ (n.log2 + 2) ≤ 2 ^ drop := Nat.pow_le_pow_right (by omega) (by omega)
    rw [Nat.div_eq_of_lt (show n < 2 ^ (n.log2 + 2) by omega), Nat.div_eq_of_lt (show n < 2 ^ drop by omega), Nat.mod_eq_of_lt (show n < 2 ^ (n.log2 + 2) by omega), Nat.mod_eq_of_lt (show n < 2 ^ drop by omega)]
    exact ⟨rfl, Iff.rfl⟩
theorem cut_down (s : Bool) (n drop : Nat) : Toward.down.cut s n drop = n / 2 ^ drop + (if s = true ∧ n % 2 ^ drop ≠ 0 then 1 else 0) := by
  unfold Toward.cut
  obtain ⟨h1, h2⟩ := gap_eq n drop
  simp only
  rw [h1]
  congr 1
  generalize n % (1 <<< min drop (n.log2 + 2)) = a at *
  generalize n % 2 ^ drop = b at *
  by_cases hb : b = 0
  · have ha := h2.2 hb
    subst hb ha
    cases s <;> simp
  · have ha : a ≠ 0 := fun h => hb (h2.1 h)
    cases s <;> simp [ha, hb]
theorem cut_zero (s : Bool) (n drop : Nat) : Toward.zero.cut s n drop = n / 2 ^ drop := by
  unfold Toward.cut
  simp only
  rw [(gap_eq n drop).1]
  rfl
theorem floor_of {v : Rat} {k : Int} (h1 : (k : Rat) ≤ v) (h2 : v < (k : Rat) + 1) : v.floor = k := by
  have a := Rat.le_floor_iff.2 h1
  have b := Rat.floor_le v
  have c : ((v.floor : Int) : Rat) < ((k + 1 : Int) : Rat) := by rw [Rat.intCast_add]; show _ < (k : Rat) + 1; grind
  have := Rat.intCast_lt_intCast.1 c
  omega
theorem mpw (m : Nat) (i : Int) : (m : Rat) * pw i * ((2 ^ (-i).toNat : Nat) : Rat) = ((m * 2 ^ i.toNat : Nat) : Rat) := by
  rcases Int.le_total 0 i with h | h
  · obtain ⟨n, rfl⟩ : ∃ n : Nat, i = n := ⟨i.toNat, by omega⟩
    rw [show (-(n : Int)).toNat = 0 by omega, Int.toNat_natCast, pw_nat, Rat.natCast_mul]
    simp
  · obtain ⟨n, rfl⟩ : ∃ n : Nat, i = -(n : Int) := ⟨(-i).toNat, by omega⟩
    rw [show (- -(n : Int)).toNat = n by omega, show (-(n : Int)).toNat = 0 by omega, ← pw_nat]
    have := pw_add (-(n : Int)) n
    rw [show -(n : Int) + n = 0 by omega, pw_zero] at this
    rw [Rat.mul_assoc, ← this]
    simp
theorem floor_dv (s : Bool) (m : Nat) (i : Int) : dv (Datum.integral .down (.number s m i)) = (((dv (.number s m i)).floor : Int) : Rat) := by
  show dv (.number s (Toward.down.cut s (m <<< i.toNat) (-i).toNat) 0) = _
  rw [cut_down, Nat.shiftLeft_eq, dv_num, pw_zero, Rat.mul_one]
  have hm := mpw m i
  have hd : 0 < 2 ^ (-i).toNat := Nat.two_pow_pos _
  have hdr : (0 : Rat) < ((2 ^ (-i).toNat : Nat) : Rat) := nclt hd
  generalize m * 2 ^ i.toNat = n at *
  rw [dv_num]
  generalize (m : Rat) * pw i = v at *
  generalize 2 ^ (-i).toNat = g at *
  have h1 := Nat.div_add_mod n g
  have h2 := Nat.mod_lt n hd
  generalize hq : n / g = q at *
  generalize hr : n % g = r at *
  have cmp1 : ∀ k : Nat, k * g ≤ n → (k : Rat) ≤ v := fun k h => by
    have : (k : Rat) * (g : Rat) ≤ v * (g : Rat) := by rw [hm, ← Rat.natCast_mul]; exact ncle h
    exact (mle hdr).1 this
  have cmp2 : ∀ k : Nat, n < k * g → v < (k : Rat) := fun k h => by
    have : v * (g : Rat) < (k : Rat) * (g : Rat) := by rw [hm, ← Rat.natCast_mul]; exact nclt h
    exact (mlt hdr).1 this
  have cmp3 : ∀ k : Nat, n ≤ k * g → v ≤ (k : Rat) := fun k h => by
    have : v * (g : Rat) ≤ (k : Rat) * (g : Rat) := by rw [hm, ← Rat.natCast_mul]; exact ncle h
    exact (mle hdr).1 this
  have cmp4 : ∀ k : Nat, k * g < n → (k : Rat) < v := fun k h => by
    have : (k : Rat) * (g : Rat) < v * (g : Rat) := by rw [hm, ← Rat.natCast_mul]; exact nclt h
    exact (mlt hdr).1 this
  rw [Nat.mul_comm] at h1
  cases s
  · simp only [Bool.false_eq_true, if_false, false_and, Nat.add_zero]
    rw [floor_of (k := (q : Int)) (cmp1 q (by omega)) (by
      have := cmp2 (q + 1) (by rw [Nat.add_mul]; omega)
      rw [Rat.natCast_add] at this
      exact this)]
    rfl
  · simp only [if_true, true_and]
    by_cases hr0 : r = 0
    · simp only [hr0, ne_eq, not_true_eq_false, if_false, Nat.add_zero]
      have a := cmp1 q (by omega)
      have b := cmp3 q (by omega)
      rw [floor_of (k := -(q : Int)) (by rw [Rat.intCast_neg]; show -(q : Rat) ≤ -v; grind) (by rw [Rat.intCast_neg]; show -v < -(q : Rat) + 1; grind), Rat.intCast_neg]
      rfl
    · simp only [hr0, ne_eq, not_false_eq_true, if_true]
      have a := cmp4 q (by omega)
      have b := cmp3 (q + 1) (by rw [Nat.add_mul]; omega)
      rw [Rat.natCast_add] at b
      rw [floor_of (k := -((q + 1 : Nat) : Int)) (by rw [Rat.intCast_neg]; show -((q + 1 : Nat) : Rat) ≤ -v; rw [Rat.natCast_add]; grind) (by rw [Rat.intCast_neg]; show -v < -((q + 1 : Nat) : Rat) + 1; rw [Rat.natCast_add]; grind), Rat.intCast_neg]
      rfl
def fl (x : Nat) : Nat := double.write ((double.read x).integral .down)
theorem fl_nr {x : Nat} (hx : Fi x) (h1 : -big ≤ (((V x).floor : Int) : Rat)) (h2 : (((V x).floor : Int) : Rat) ≤ big) : Nr (((V x).floor : Int) : Rat) (fl x) := by
  obtain ⟨s, m, i, ex⟩ := hx
  have hx : V x = dv (.number s m i) := by unfold V; rw [ex]
  rw [hx] at h1 h2 ⊢
  unfold fl
  rw [ex]
  exact write_nr (floor_dv s m i) h1 h2
theorem toInt_V {x : Nat} (hx : Fi x) {n : Int} (h : V x = (n : Rat)) : (double.read x).toInt .zero = some n := by
  obtain ⟨s, m, i, ex⟩ := hx
  have hx : V x = dv (.number s m i) := by unfold V; rw [ex]
  rw [ex]
  show some (signed s (Toward.zero.cut s (m <<< i.toNat) (-i).toNat) 0) = some n
  rw [cut_zero, Nat.shiftLeft_eq]
  have hm := mpw m i
  have hd : 0 < 2 ^ (-i).toNat := Nat.two_pow_pos _
  rw [hx, dv_num] at h
  have key : ∀ k : Nat, (m : Rat) * pw i = (k : Rat) → m * 2 ^ i.toNat / 2 ^ (-i).toNat = k := fun k hk => by
    rw [hk, ← Rat.natCast_mul] at hm
    have : k * 2 ^ (-i).toNat = m * 2 ^ i.toNat := Rat.natCast_inj.1 hm
    rw [← this, Nat.mul_div_cancel _ hd]
  congr 1
  unfold signed
  rw [Nat.shiftLeft_zero]
  have h0 : (0 : Rat) ≤ (m : Rat) * pw i := Rat.mul_nonneg (by exact_mod_cast Nat.zero_le m) (Rat.le_of_lt (pw_pos i))
  cases s
  · simp only [Bool.false_eq_true, if_false] at h ⊢
    rw [h] at h0
    have hn0 : 0 ≤ n := by exact_mod_cast h0
    have := key n.toNat (by rw [h]; have : (n : Rat) = ((n.toNat : Int) : Rat) := by congr 1; omega
                            rw [this]; rfl)
    omega
  · simp only [if_true] at h ⊢
    have hn0 : n ≤ 0 := by
      have : (n : Rat) ≤ 0 := by grind
      exact_mod_cast this
    have := key (-n).toNat (by
      have e : (m : Rat) * pw i = ((-n : Int) : Rat) := by rw [Rat.intCast_neg]; grind
      rw [e]
      have : ((-n : Int) : Rat) = (((-n).toNat : Int) : Rat) := by congr 1; omega
      rw [this]; rfl)
    omega
theorem ofInt_V {n : Int} (h1 : -9007199254740992 < n) (h2 : n < 9007199254740992) : Fi (double.write (.number (decide (n < 0)) n.natAbs 0)) ∧ V (double.write (.number (decide (n < 0)) n.natAbs 0)) = (n : Rat) := by
  have e : dv (.number (decide (n < 0)) n.natAbs 0) = (n : Rat) := by
    rw [dv_num, pw_zero, Rat.mul_one]
    by_cases h : n < 0
    · rw [if_pos (decide_eq_true h)]
      have : (n : Rat) = ((-(n.natAbs : Int) : Int) : Rat) := by congr 1; omega
      rw [this, Rat.intCast_neg]; rfl
    · rw [if_neg (by simpa using h)]
      have : (n : Rat) = ((n.natAbs : Int) : Rat) := by congr 1; omega
      rw [this]; rfl
  have hb := big_nat (n := 53) (by omega)
  have c1 : (n : Rat) ≤ ((2 ^ 53 : Nat) : Rat) := by
    have : (n : Rat) ≤ ((9007199254740992 : Int) : Rat) := Rat.intCast_le_intCast.2 (Int.le_of_lt h2)
    exact this
  have c2 : -((2 ^ 53 : Nat) : Rat) ≤ (n : Rat) := by
    have : ((-9007199254740992 : Int) : Rat) ≤ (n : Rat) := Rat.intCast_le_intCast.2 (Int.le_of_lt h1)
    rw [Rat.intCast_neg] at this
    exact this
  have hw := write_nr e (by grind) (by grind)
  exact ⟨hw.fin, hw.exact (rep_int h1 h2)⟩
theorem inv_nr {x y : Nat} (hx : Fi x) (hx1 : V x = 1) (hy : Fi y) (h0 : 0 < V y) {q : Rat} (hq : q * V y = 1) : ∃ r, double.div x y = some r ∧ ((Fi r ∧ ∀ B, Rep B → B ≤ q → B ≤ V r) ∨ r = double.word false double.infRung) := by
  obtain ⟨s, m, i, ex⟩ := hx
  obtain ⟨t, n, j, ey⟩ := hy
  have hx : V x = dv (.number s m i) := by unfold V; rw [ex]
  have hy : V y = dv (.number t n j) := by unfold V; rw [ey]
  have hn : n ≠ 0 := by
    rintro rfl
    rw [hy, dv_num] at h0
    cases t <;> simp at h0
  have hN : (0 : Rat) < (n : Rat) * pw j := Rat.mul_pos (nclt (Nat.pos_of_ne_zero hn)) (pw_pos j)
  have hM : (0 : Rat) ≤ (m : Rat) * pw i := Rat.mul_nonneg (by exact_mod_cast Nat.zero_le m) (Rat.le_of_lt (pw_pos i))
  have ht : t = false := by
    cases t
    · rfl
    · rw [hy, dv_num] at h0; simp only [if_true] at h0; grind
  have hs : s = false := by
    cases s
    · rfl
    · rw [hx, dv_num] at hx1; simp only [if_true] at hx1; grind
  subst ht hs
  have hm1 : (m : Rat) * pw i = 1 := by rw [hx, dv_num] at hx1; simpa using hx1
  have hn1 : V y = (n : Rat) * pw j := by rw [hy, dv_num]; simp
  have hnear := quot_near m hn i j
  have hz : qmag m n ≠ 0 := by
    have hm0 : m ≠ 0 := by rintro rfl; simp at hm1
    have := (qmag_spec m hn 1).1 (by have := qmag_ge hm0 hn; omega)
    omega
  refine ⟨double.write (.number false (qmag m n) (i - j - qmore m n - 1)), ?_, ?_⟩
  · unfold Format.div
    rw [ex, ey, show double.fractionBits + 2 = 54 from rfl, quot_eq false m i false hn j]
    rfl
  · show _ ∨ double.nearest false (qmag m n) (i - j - qmore m n - 1) = _
    show (Fi (double.nearest false (qmag m n) (i - j - qmore m n - 1)) ∧ ∀ B, Rep B → B ≤ q → B ≤ V (double.nearest false (qmag m n) (i - j - qmore m n - 1))) ∨ _
    rw [nearest_eq false hz]
    have e3 : double.infRung = 9218868437227405312 := by decide
    have hnr := near false hz (i - j - qmore m n - 1)
    rw [e3]
    generalize rungN false (qmag m n) (i - j - qmore m n - 1) = g at *
    by_cases hg : g < 9218868437227405312
    · left
      rw [Nat.min_eq_left (by omega)]
      refine ⟨⟨_, _, _, read_word false hg⟩, ?_⟩
      rintro B ⟨r, hB⟩ hb
      rw [V_word false hg]
      simp only [Bool.false_eq_true, if_false]
      have hr0 := R_nonneg r
      have hg0 := R_nonneg g
      rcases hB with rfl | rfl
      · refine R_le.2 ((hnr r).1 ((hnear r).1 ?_))
        rw [hm1, ← hq, hn1]
        exact (mle hN).2 hb
      · grind
    · right
      rw [Nat.min_eq_right (by omega)]
end Go.Proofs.YtkjlkbgdkdcboaaGreatDoor.Fl

set_option linter.unusedSimpArgs false
set_option linter.unusedVariables false
namespace Go.Proofs.YtkjlkbgdkdcboaaGreatDoor.Fl
open Ieee
def INF : Nat := 9218868437227405312
def ONE : Nat := 4607182418800017408
def MAXD : Nat := 4652781365027143680
theorem fiONE : Fi ONE := ⟨false, 4503599627370496, -52, by decide⟩
theorem V_ONE : V ONE = 1 := by
  unfold V
  rw [show double.read ONE = .number false 4503599627370496 (-52) by decide, dv_num]
  have := nat_pw 1 52 (-52)
  rw [show (1 * 2 ^ 52 : Nat) = 4503599627370496 from rfl] at this
  simp only [Bool.false_eq_true, if_false]
  rw [this, show (-52 : Int) + ((52 : Nat) : Int) = 0 by decide, pw_zero]
  simp
theorem fiMAX : Fi MAXD := ⟨false, 5066549580791808, -42, by decide⟩
theorem V_MAX : V MAXD = 1152 := by
  unfold V
  rw [show double.read MAXD = .number false 5066549580791808 (-42) by decide, dv_num]
  have := nat_pw 1152 42 (-42)
  rw [show (1152 * 2 ^ 42 : Nat) = 5066549580791808 from rfl] at this
  simp only [Bool.false_eq_true, if_false]
  rw [this, show (-42 : Int) + ((42 : Nat) : Int) = 0 by decide, pw_zero]
  simp
theorem read_INF : double.read INF = .infinity false := by decide
theorem V_rung {x : Nat} (hx : Fi x) : ∃ s m p g, double.read x = .number s m p ∧ g < 9218868437227405312 ∧ (m : Rat) * pw p = R g := by
  obtain ⟨s, m, p, ex⟩ := hx
  refine ⟨s, m, p, x % 9223372036854775808, ex, ?_⟩
  have e1 : double.signWeight = 9223372036854775808 := by decide
  have e2 : double.binade = 4503599627370496 := by decide
  have e3 : double.infRung = 9218868437227405312 := by decide
  have e4 : double.leastPlace = -1074 := by decide
  unfold Format.read at ex
  simp only [e1, e2, e3, e4] at ex
  generalize x % 9223372036854775808 = g at *
  unfold R rm rp
  by_cases h1 : g < 4503599627370496
  · rw [if_pos h1] at ex
    cases ex
    rw [if_pos h1, if_pos h1]
    exact ⟨by omega, rfl⟩
  · rw [if_neg h1] at ex
    by_cases h2 : g < 9218868437227405312
    · rw [if_pos h2] at ex
      cases ex
      rw [if_neg h1, if_neg h1]
      exact ⟨h2, rfl⟩
    · rw [if_neg h2] at ex
      split at ex <;> cases ex
def Up (v : Rat) (r : Nat) : Prop := (Fi r ∧ ∀ B, Rep B → B ≤ v → B ≤ V r) ∨ r = INF
theorem write_up (m : Nat) (p : Int) : Up ((m : Rat) * pw p) (double.write (.number false m p)) := by
  show Up _ (double.nearest false m p)
  by_cases hm : m = 0
  · subst hm
    have e : double.nearest false 0 p = double.word false 0 := by unfold Format.nearest; rw [if_pos rfl]
    rw [e]
    left
    refine ⟨⟨_, _, _, read_word false (by omega)⟩, fun B hB hb => ?_⟩
    rw [V_word false (by omega), R_zero]
    simpa using hb
  · rw [nearest_eq false hm p]
    have e3 : double.infRung = 9218868437227405312 := by decide
    have hn := near false hm p
    rw [e3]
    generalize rungN false m p = g at *
    by_cases hg : g < 9218868437227405312
    · left
      rw [Nat.min_eq_left (by omega)]
      refine ⟨⟨_, _, _, read_word false hg⟩, ?_⟩
      rintro B ⟨r, hB⟩ hb
      rw [V_word false hg]
      simp only [Bool.false_eq_true, if_false]
      have hr0 := R_nonneg r
      have hg0 := R_nonneg g
      rcases hB with rfl | rfl
      · exact R_le.2 ((hn r).1 hb)
      · grind
    · right
      rw [Nat.min_eq_right (by omega)]
      decide
theorem pos_num {s : Bool} {m : Nat} {p : Int} {x : Nat} (ex : double.read x = .number s m p) (h : 0 < V x) : s = false ∧ V x = (m : Rat) * pw p ∧ m ≠ 0 := by
  have hV : V x = dv (.number s m p) := by unfold V; rw [ex]
  rw [hV, dv_num] at h ⊢
  have hM : (0 : Rat) ≤ (m : Rat) * pw p := Rat.mul_nonneg (by exact_mod_cast Nat.zero_le m) (Rat.le_of_lt (pw_pos p))
  cases s
  · simp only [Bool.false_eq_true, if_false] at h ⊢
    exact ⟨trivial, trivial, by rintro rfl; simp at h⟩
  · simp only [if_true] at h; grind
theorem mul_up {x y : Nat} (hx : Fi x) (hy : Fi y) (h1 : 0 < V x) (h2 : 0 < V y) : ∃ r, double.mul x y = some r ∧ Up (V x * V y) r := by
  obtain ⟨s, m, i, ex⟩ := hx
  obtain ⟨t, n, j, ey⟩ := hy
  obtain ⟨rfl, e1, hm⟩ := pos_num ex h1
  obtain ⟨rfl, e2, hn⟩ := pos_num ey h2
  refine ⟨double.write (.number false (m * n) (i + j)), ?_, ?_⟩
  · unfold Format.mul
    rw [ex, ey]
    rfl
  · have := write_up (m * n) (i + j)
    rw [pw_add, Rat.natCast_mul] at this
    rw [e1, e2]
    have e : (m : Rat) * pw i * ((n : Rat) * pw j) = (m : Rat) * (n : Rat) * (pw i * pw j) := by grind
    rw [e]
    exact this
theorem add_great {x y : Nat} (hx : Up 1153 x) (hy : Fi y) (h : 0 ≤ V y) : ∃ r, double.add x y = some r ∧ Up 1153 r := by
  have r1153 : Rep 1153 := rep_int (n := 1153) (by omega) (by omega)
  rcases hx with ⟨fx, hx⟩ | rfl
  · have hx1 := hx 1153 r1153 Rat.le_refl
    obtain ⟨s, m, i, ex⟩ := fx
    obtain ⟨t, n, j, ey⟩ := hy
    have hvx : V x = dv (.number s m i) := by unfold V; rw [ex]
    have hvy : V y = dv (.number t n j) := by unfold V; rw [ey]
    obtain ⟨S, M, P, e1, e2⟩ := sum_dv s m i t n j
    rw [← hvx, ← hvy] at e2
    have hS : S = false := by
      cases S
      · rfl
      · rw [dv_num] at e2
        simp only [if_true] at e2
        have hM : (0 : Rat) ≤ (M : Rat) * pw P := Rat.mul_nonneg (by exact_mod_cast Nat.zero_le M) (Rat.le_of_lt (pw_pos P))
        grind
    subst hS
    refine ⟨double.write (.number false M P), ?_, ?_⟩
    · unfold Format.add
      rw [ex, ey, e1]
      rfl
    · rw [dv_num] at e2
      simp only [Bool.false_eq_true, if_false] at e2
      rcases write_up M P with ⟨f, hb⟩ | e
      · exact .inl ⟨f, fun B hB hb2 => hb B hB (by rw [e2]; grind)⟩
      · exact .inr e
  · obtain ⟨t, n, j, ey⟩ := hy
    refine ⟨INF, ?_, .inr rfl⟩
    unfold Format.add
    rw [ey, read_INF]
    show some (double.write (.infinity false)) = _
    congr 1
theorem great_gt {x : Nat} (hx : Up 1153 x) : (double.order x MAXD == some .lt || double.order x MAXD == some .eq) = false := by
  rcases hx with ⟨fx, hx⟩ | rfl
  · have hx1 := hx 1153 (rep_int (n := 1153) (by omega) (by omega)) Rat.le_refl
    rw [order_V fx fiMAX, V_MAX, if_neg (by grind), if_neg (by grind)]
    rfl
  · unfold Format.order
    obtain ⟨s, m, p, e⟩ := fiMAX
    rw [read_INF, e]
    rfl
theorem fl_pos {x : Nat} (hx : Fi x) (h : 0 ≤ V x) : Nr (((V x).floor : Int) : Rat) (fl x) := by
  obtain ⟨s, m, i, g, ex, hg, hm⟩ := V_rung hx
  have hvx : V x = dv (.number s m i) := by unfold V; rw [ex]
  have hf0 : (0 : Rat) ≤ (((V x).floor : Int) : Rat) := by
    have : (0 : Int) ≤ (V x).floor := Rat.le_floor_iff.2 (by simpa using h)
    exact_mod_cast this
  have hfl := Rat.floor_le (V x)
  have hle : V x ≤ R g := by
    rw [← hm, hvx, dv_num]
    have hM : (0 : Rat) ≤ (m : Rat) * pw i := Rat.mul_nonneg (by exact_mod_cast Nat.zero_le m) (Rat.le_of_lt (pw_pos i))
    cases s
    · simp only [Bool.false_eq_true, if_false]; exact Rat.le_refl
    · simp only [if_true]; grind
  have e := floor_dv s m i
  rw [← hvx] at e
  unfold fl
  rw [ex]
  obtain ⟨c, hc⟩ : ∃ c, Datum.integral .down (.number s m i) = .number s c 0 := ⟨_, rfl⟩
  rw [hc] at e ⊢
  have := write_near s c 0 hg (abs_of (B := R g) (by rw [e]; have := R_nonneg g; grind) (by rw [e]; grind))
  rw [e] at this
  exact this
theorem sub_fl {x : Nat} (hx : Fi x) (hf : Fi (fl x)) (h1 : 0 ≤ V x - V (fl x)) (h2 : V x - V (fl x) ≤ 1) : ∃ r, double.sub x (fl x) = some r ∧ Fi r ∧ 0 ≤ V r ∧ V r ≤ 1 ∧ (V r = 0 → r = 0) := by
  have hb := big_nat (n := 30) (by omega)
  have h30 : ((2 ^ 30 : Nat) : Rat) = 1073741824 := rfl
  rw [h30] at hb
  obtain ⟨r, e1, e2⟩ := sub_nr hx hf (by grind) (by grind)
  refine ⟨r, e1, e2.fin, e2.lo 0 rep_zero h1, e2.hi 1 (rep_int (n := 1) (by omega) (by omega)) h2, fun h => ?_⟩
  have hsp := sub_pos hx hf e2
  have hEq : V x = V (fl x) := by grind
  obtain ⟨s, m, i, ex⟩ := hx
  obtain ⟨t, n, j, ey⟩ := hf
  have hst : t = s := by
    have hfl : fl x = double.write (Datum.integral .down (.number s m i)) := by unfold fl; rw [ex]
    obtain ⟨c, hc⟩ : ∃ c, Datum.integral .down (.number s m i) = .number s c 0 := ⟨_, rfl⟩
    rw [hfl, hc] at ey
    have hw : double.write (.number s c 0) = double.nearest s c 0 := rfl
    rw [hw] at ey
    have e3 : double.infRung = 9218868437227405312 := by decide
    by_cases hc0 : c = 0
    · subst hc0
      have e : double.nearest s 0 0 = double.word s 0 := by unfold Format.nearest; rw [if_pos rfl]
      rw [e, read_word s (by omega)] at ey
      cases ey; rfl
    · rw [nearest_eq s hc0, e3] at ey
      by_cases hg : rungN s c 0 < 9218868437227405312
      · rw [Nat.min_eq_left (by omega), read_word s hg] at ey
        cases ey; rfl
      · rw [Nat.min_eq_right (by omega)] at ey
        cases s
        · rw [show double.read (double.word false 9218868437227405312) = .infinity false by decide] at ey; cases ey
        · rw [show double.read (double.word true 9218868437227405312) = .infinity true by decide] at ey; cases ey
  subst hst
  have hvx : V x = dv (.number t m i) := by unfold V; rw [ex]
  have hvy : V (fl x) = dv (.number t n j) := by unfold V; rw [ey]
  rw [hvx, hvy] at hEq
  -- the sum is nought
  have s1 := signed_pw t m (i - min i j).toNat (min i j)
  have s2 := signed_pw (!t) n (j - min i j).toNat (min i j)
  rw [show min i j + ((i - min i j).toNat : Int) = i by omega] at s1
  rw [show min i j + ((j - min i j).toNat : Int) = j by omega] at s2
  have ho : dv (.number (!t) n j) = -dv (.number t n j) := opp_dv t n j
  have hz : signed t m (i - min i j).toNat + signed (!t) n (j - min i j).toNat = 0 := by
    have : ((signed t m (i - min i j).toNat + signed (!t) n (j - min i j).toNat : Int) : Rat) * pw (min i j) = 0 := by
      rw [Rat.intCast_add]
      have : ((signed t m (i - min i j).toNat : Int) : Rat) * pw (min i j) + ((signed (!t) n (j - min i j).toNat : Int) : Rat) * pw (min i j) = 0 := by rw [s1, s2, ho, hEq]; grind
      grind
    rcases Rat.mul_eq_zero.1 this with h3 | h3
    · exact_mod_cast h3
    · have := pw_pos (min i j); grind
  unfold Format.sub at e1
  rw [ex, ey] at e1
  have e4 : Datum.sum (.number t m i) (Datum.opposite (.number t n j)) = some (.number (if (signed t m (i - min i j).toNat + signed (!t) n (j - min i j).toNat) = 0 then t && !t else decide ((signed t m (i - min i j).toNat + signed (!t) n (j - min i j).toNat) < 0)) (signed t m (i - min i j).toNat + signed (!t) n (j - min i j).toNat).natAbs (min i j)) := rfl
  rw [e4, hz] at e1
  simp only [if_true, Int.natAbs_zero] at e1
  have e5 : some (double.write (.number (t && !t) 0 (min i j))) = some r := e1
  rw [show (t && !t) = false by cases t <;> rfl] at e5
  have e6 : double.write (.number false 0 (min i j)) = 0 := by
    show double.nearest false 0 (min i j) = 0
    unfold Format.nearest
    rw [if_pos rfl]
    rfl
  rw [e6] at e5
  cases e5
  rfl
end Go.Proofs.YtkjlkbgdkdcboaaGreatDoor.Fl

set_option linter.unusedSimpArgs false
set_option linter.unusedVariables false
namespace Go.Proofs.YtkjlkbgdkdcboaaGreatDoor.Fl
open Ieee
structure Zn (x : Nat) (a : Int) : Prop where
  fi : Fi x
  v : V x = (a : Rat)
theorem int_big {a : Int} (h1 : -9007199254740992 < a) (h2 : a < 9007199254740992) : -big ≤ (a : Rat) ∧ (a : Rat) ≤ big := by
  have hb := big_nat (n := 53) (by omega)
  have c1 : (a : Rat) ≤ ((2 ^ 53 : Nat) : Rat) := by
    have : (a : Rat) ≤ ((9007199254740992 : Int) : Rat) := Rat.intCast_le_intCast.2 (Int.le_of_lt h2)
    exact this
  have c2 : -((2 ^ 53 : Nat) : Rat) ≤ (a : Rat) := by
    have : ((-9007199254740992 : Int) : Rat) ≤ (a : Rat) := Rat.intCast_le_intCast.2 (Int.le_of_lt h1)
    rw [Rat.intCast_neg] at this
    exact this
  exact ⟨by grind, by grind⟩
theorem add_z {x y : Nat} {a b : Int} (hx : Zn x a) (hy : Zn y b) (h1 : -9007199254740992 < a + b) (h2 : a + b < 9007199254740992) : ∃ r, double.add x y = some r ∧ Zn r (a + b) := by
  have e : V x + V y = ((a + b : Int) : Rat) := by rw [hx.v, hy.v, Rat.intCast_add]
  obtain ⟨b1, b2⟩ := int_big h1 h2
  obtain ⟨r, e1, e2⟩ := add_nr hx.fi hy.fi (by rw [e]; exact b1) (by rw [e]; exact b2)
  rw [e] at e2
  exact ⟨r, e1, e2.fin, e2.exact (rep_int h1 h2)⟩
theorem sub_z {x y : Nat} {a b : Int} (hx : Zn x a) (hy : Zn y b) (h1 : -9007199254740992 < a - b) (h2 : a - b < 9007199254740992) : ∃ r, double.sub x y = some r ∧ Zn r (a - b) := by
  have e : V x - V y = ((a - b : Int) : Rat) := by rw [hx.v, hy.v, Rat.intCast_sub]
  obtain ⟨b1, b2⟩ := int_big h1 h2
  obtain ⟨r, e1, e2⟩ := sub_nr hx.fi hy.fi (by rw [e]; exact b1) (by rw [e]; exact b2)
  rw [e] at e2
  exact ⟨r, e1, e2.fin, e2.exact (rep_int h1 h2)⟩
theorem mul_z {x y : Nat} {a b : Int} (hx : Zn x a) (hy : Zn y b) (h1 : -9007199254740992 < a * b) (h2 : a * b < 9007199254740992) : ∃ r, double.mul x y = some r ∧ Zn r (a * b) := by
  have e : V x * V y = ((a * b : Int) : Rat) := by rw [hx.v, hy.v, Rat.intCast_mul]
  obtain ⟨b1, b2⟩ := int_big h1 h2
  obtain ⟨r, e1, e2⟩ := mul_nr hx.fi hy.fi (by rw [e]; exact b1) (by rw [e]; exact b2)
  rw [e] at e2
  exact ⟨r, e1, e2.fin, e2.exact (rep_int h1 h2)⟩
structure Rs (x : Nat) : Prop where
  fi : Fi x
  lo : 0 ≤ V x
  hi : V x ≤ 1
  z : V x = 0 → x = 0
theorem up_mono {v v' : Rat} {r : Nat} (h : Up v r) (hv : v' ≤ v) : Up v' r := by
  rcases h with ⟨f, h⟩ | h
  · exact .inl ⟨f, fun B hB hb => h B hB (by grind)⟩
  · exact .inr h
theorem inf_step {d ld : Nat} {D L : Int} (hd : Zn d D) (hl : Zn ld L) (hD : 1 ≤ D) (hL : 0 ≤ L) : ∃ dm d', double.mul INF d = some dm ∧ double.add dm ld = some d' ∧ Up 1153 d' := by
  have hp : 0 < V d := by rw [hd.v]; exact_mod_cast (show 0 < D by omega)
  obtain ⟨s, m, p, e⟩ := hd.fi
  obtain ⟨rfl, e2, hm⟩ := pos_num e hp
  obtain ⟨r, e3, e4⟩ := add_great (x := INF) (y := ld) (.inr rfl) hl.fi (by rw [hl.v]; exact_mod_cast hL)
  refine ⟨INF, r, ?_, e3, e4⟩
  unfold Format.mul
  rw [read_INF, e]
  show Option.map _ (if m = 0 then none else some (Datum.infinity (false ^^ false))) = _
  rw [if_neg hm]
  rfl
theorem fl_INF : fl INF = INF := by decide
theorem near_step {rest n d ln ld : Nat} {N D M L : Int} (hr : Rs rest) (hn : Zn n N) (hd : Zn d D) (hm : Zn ln M) (hl : Zn ld L) (hD : 1 ≤ D) (hD2 : D ≤ 1152) (hL : 0 ≤ L) (hL2 : L ≤ 1152) (hN : -20000 ≤ N ∧ N ≤ 20000) (hM : -20000 ≤ M ∧ M ≤ 20000) :
    ∃ r1, double.div ONE rest = some r1 ∧ (double.read r1).isNaN = false ∧
      ((∃ dm d', double.mul (fl r1) d = some dm ∧ double.add dm ld = some d' ∧ Up 1153 d') ∨
       (∃ T : Int, 1 ≤ T ∧ T ≤ 1152 ∧ ∃ rs nm n' dm d', double.sub r1 (fl r1) = some rs ∧ Rs rs ∧ double.mul (fl r1) n = some nm ∧ double.add nm ln = some n' ∧ Zn n' (T * N + M) ∧ double.mul (fl r1) d = some dm ∧ double.add dm ld = some d' ∧ Zn d' (T * D + L))) := by
  by_cases h0 : V rest = 0
  · have hz := hr.z h0
    subst hz
    refine ⟨INF, by decide, by decide, .inl ?_⟩
    rw [fl_INF]
    exact inf_step hd hl hD hL
  · have hpos : 0 < V rest := by have := hr.lo; grind
    have hq : (V rest)⁻¹ * V rest = 1 := Rat.inv_mul_cancel _ h0
    have hq1 : 1 ≤ (V rest)⁻¹ := by
      rcases Rat.le_total (a := 1) (b := (V rest)⁻¹) with h | h
      · exact h
      · by_cases e : (V rest)⁻¹ = 1
        · grind
        · have h3 := Rat.mul_lt_mul_of_pos_right (a := (V rest)⁻¹) (b := 1) (by grind) hpos
          have := hr.hi
          grind
    obtain ⟨r1, e1, hcase⟩ := inv_nr fiONE V_ONE hr.fi hpos hq
    rcases hcase with ⟨f1, hlo⟩ | hinf
    · have hv1 : 1 ≤ V r1 := hlo 1 (rep_int (n := 1) (by omega) (by omega)) hq1
      have hnan : (double.read r1).isNaN = false := by obtain ⟨s, m, p, e⟩ := f1; rw [e]; rfl
      have hT := fl_pos f1 (by grind)
      have hT1 : 1 ≤ (V r1).floor := Rat.le_floor_iff.2 (by exact_mod_cast hv1)
      have hf1 := Rat.floor_le (V r1)
      have hf2 := Rat.lt_floor_add_one (V r1)
      refine ⟨r1, e1, hnan, ?_⟩
      generalize (V r1).floor = T at *
      by_cases hbig : 1153 ≤ T
      · left
        have hv : 1153 ≤ V (fl r1) := hT.lo 1153 (rep_int (n := 1153) (by omega) (by omega)) (show ((1153 : Int) : Rat) ≤ (T : Rat) from Rat.intCast_le_intCast.2 hbig)
        have hd1 : 1 ≤ V d := by rw [hd.v]; exact_mod_cast hD
        obtain ⟨dm, e2, e3⟩ := mul_up hT.fin hd.fi (by grind) (by grind)
        have hge : (1153 : Rat) ≤ V (fl r1) * V d := by
          have := Rat.mul_nonneg (a := V (fl r1) - 1153) (b := V d) (by grind) (by grind)
          grind
        obtain ⟨d', e4, e5⟩ := add_great (up_mono e3 hge) hl.fi (by rw [hl.v]; exact_mod_cast hL)
        exact ⟨dm, d', e2, e4, e5⟩
      · right
        have hTn : Zn (fl r1) T := ⟨hT.fin, hT.exact (rep_int (by omega) (by omega))⟩
        have c1 : -(T * 20000) ≤ T * N := by have := Int.mul_le_mul_of_nonneg_left hN.1 (show 0 ≤ T by omega); omega
        have c2 : T * N ≤ T * 20000 := Int.mul_le_mul_of_nonneg_left hN.2 (by omega)
        have c3 : 0 ≤ T * D := Int.mul_nonneg (by omega) (by omega)
        have c4 : T * D ≤ T * 1152 := Int.mul_le_mul_of_nonneg_left hD2 (by omega)
        obtain ⟨nm, m1, m2⟩ := mul_z hTn hn (by omega) (by omega)
        obtain ⟨n', a1, a2⟩ := add_z m2 hm (by omega) (by omega)
        obtain ⟨dm, m3, m4⟩ := mul_z hTn hd (by omega) (by omega)
        obtain ⟨d', a3, a4⟩ := add_z m4 hl (by omega) (by omega)
        obtain ⟨rs, s1, s2, s3, s4, s5⟩ := sub_fl f1 hT.fin (by rw [hTn.v]; grind) (by rw [hTn.v]; rw [Rat.intCast_add] at hf2; have : ((1 : Int) : Rat) = 1 := rfl; grind)
        exact ⟨T, hT1, by omega, rs, nm, n', dm, d', s1, ⟨s2, s3, s4, s5⟩, m1, a1, a2, m3, a3, a4⟩
    · have : r1 = INF := by rw [hinf]; decide
      subst this
      refine ⟨INF, e1, by decide, .inl ?_⟩
      rw [fl_INF]
      exact inf_step hd hl hD hL
end Go.Proofs.YtkjlkbgdkdcboaaGreatDoor.Fl
