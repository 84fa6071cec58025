import Derived.Test.YtkjlkbgdkdcboaaScan
namespace Go.Proofs.Ytkjlkbgdkdcboaa

theorem onP_neg (s : ByteArray) (i : Nat) (c : Int) : onP s i (-1) c = decide (bt s i = c) := by simp [onP]
theorem digP_neg (s : ByteArray) (i : Nat) : digP s i (-1) = decide (48 ≤ bt s i ∧ bt s i ≤ 57) := by simp [digP]
theorem onP_bad {s : ByteArray} {i : Nat} {b c : Int} (h : 0 ≤ b) : onP s i b c = false := by simp [onP]; omega
theorem digP_bad {s : ByteArray} {i : Nat} {b : Int} (h : 0 ≤ b) : digP s i b = false := by simp [digP]; omega
theorem failed_bad {i b : Int} (h : 0 ≤ b) : failed i b = b := if_neg (by omega)
theorem failed_neg {i : Int} : failed i (-1) = i := if_pos (by omega)

/-- behind a number: the other half is as it was, this one has its place and value -/
def After (r r' : RS) (i : Nat) (v : Int) : Prop :=
  r'.half = r.half ∧ (match r.half with | false => r'.endN.sp.1 = ((i : Int), v) | true => r'.endN.sp = ((r.a0, r.v0), ((i : Int), v)))
def Stop (s : ByteArray) (r' : RS) (j : Nat) : Prop := r'.step = 3 ∨ (r'.step = 2 ∧ ¬ (48 ≤ bt s j ∧ bt s j ≤ 57))

def NumSim (s : ByteArray) (i : Nat) (st : PS) (x : Int × Nat × Int) : Prop :=
  (0 ≤ x.2.2 ∧ TT s i st = (none, x.2.2)) ∨
  (x.2.2 = -1 ∧ x.2.1 ≤ s.size ∧ i < x.2.1 ∧ ∃ r', TT s i st = TT s x.2.1 ⟨r', st.acc, st.accs⟩ ∧ After st.r r' i x.1 ∧ Stop s r' x.2.1)

theorem more_step (r : RS) (i : Int) (m : Bool) (d : Int) : ((r.begin i m).more d).step = 2 ∧ (((r.begin i m).more d).half = r.half) := by
  obtain ⟨st, mi, ha, a0, v0, a1, v1⟩ := r
  cases ha <;> simp [RS.begin, RS.more]
theorem after1 (r : RS) (i : Nat) (m : Bool) (d : Int) : After r ((r.begin i m).more d) i (if m then -(10 * 0 + d) else 10 * 0 + d) := by
  obtain ⟨st, mi, ha, a0, v0, a1, v1⟩ := r
  cases ha <;> cases m <;> simp [After, RS.begin, RS.more, RS.endN, RS.sp]
theorem after2 (r : RS) (i : Nat) (m : Bool) (d e : Int) : After r (((r.begin i m).more d).more e) i (if m then -(10 * (10 * 0 + d) + e) else 10 * (10 * 0 + d) + e) := by
  obtain ⟨st, mi, ha, a0, v0, a1, v1⟩ := r
  cases ha <;> cases m <;> simp [After, RS.begin, RS.more, RS.endN, RS.sp] <;> omega

theorem takeP_dig {st : PS} {a c : Int} (hc : 48 ≤ c ∧ c ≤ 57) (hs : st.r.step ≠ 3) : takeP st a c = some ⟨st.r.digit a (c - 48), st.acc, st.accs⟩ := by
  unfold takeP; rw [if_neg (by omega), if_pos ⟨hc, hs⟩]

theorem tail_sim (s : ByteArray) (i j : Nat) (m : Bool) (st : PS) (hij : i ≤ j)
    (hd : 48 ≤ bt s j ∧ bt s j ≤ 57 → TT s i st = TT s (j + 1) ⟨(st.r.begin i m).more (bt s j - 48), st.acc, st.accs⟩)
    (hn : ¬ (48 ≤ bt s j ∧ bt s j ≤ 57) → TT s i st = (none, (j : Int))) : NumSim s i st (tailN s m (j, -1)) := by
  unfold tailN
  simp only [digP_neg]
  by_cases h1 : 48 ≤ bt s j ∧ bt s j ≤ 57
  · rw [if_pos (decide_eq_true h1)]
    have hj := bt_pos (s := s) (k := j) (by omega)
    have hm := more_step st.r i m (bt s j - 48)
    by_cases h2 : 48 ≤ bt s (j + 1) ∧ bt s (j + 1) ≤ 57
    · rw [if_pos (decide_eq_true h2)]
      have hj2 := bt_pos (s := s) (k := j + 1) (by omega)
      refine Or.inr ⟨rfl, by simp only; omega, by simp only; omega, ((st.r.begin i m).more (bt s j - 48)).more (bt s (j + 1) - 48), ?_, ?_, Or.inl ?_⟩
      · rw [hd h1, TT_ascii (by omega) (by omega), takeP_dig h2 (by rw [hm.1]; decide)]
        simp only [RS.digit, hm.1]
        rfl
      · have := after2 st.r i m (bt s j - 48) (bt s (j + 1) - 48)
        exact this
      · have : ∀ (r : RS) (d : Int), (r.more d).step = r.step + 1 := fun r d => by
          obtain ⟨st, mi, ha, a0, v0, a1, v1⟩ := r
          cases ha <;> rfl
        rw [this, hm.1]; rfl
    · rw [if_neg (by rw [decide_eq_true_eq]; exact h2)]
      exact Or.inr ⟨rfl, by simp only; omega, by simp only; omega, (st.r.begin i m).more (bt s j - 48), hd h1, after1 st.r i m (bt s j - 48), Or.inr ⟨hm.1, h2⟩⟩
  · rw [if_neg (by rw [decide_eq_true_eq]; exact h1)]
    refine Or.inl ⟨?_, ?_⟩
    · simp only [failed_neg]; omega
    · simp only [failed_neg]; exact hn h1

theorem mayE_step {r : RS} {h : Bool} (h2 : r.step ≠ 2) (h3 : r.step ≠ 3) : mayE r h = false := by
  unfold mayE
  have e1 : (r.step == 2) = false := by simpa using h2
  have e2 : (r.step == 3) = false := by simpa using h3
  rw [e1, e2]; simp
theorem begin_step (r : RS) (a : Int) (m : Bool) : (r.begin a m).step = 1 := by
  obtain ⟨st, mi, ha, a0, v0, a1, v1⟩ := r
  cases ha <;> rfl

/-- nothing begins so -/
theorem TT_no0 {s : ByteArray} {pos : Nat} {st : PS} (hpos : pos ≤ s.size) (hs : st.r.step = 0) (h1 : bt s pos ≠ 45) (h2 : bt s pos ≠ 226) (hd : ¬ (48 ≤ bt s pos ∧ bt s pos ≤ 57)) : TT s pos st = (none, (pos : Int)) := by
  have m0 := mayE_step (r := st.r) (h := false) (by omega) (by omega)
  have m1 := mayE_step (r := st.r) (h := true) (by omega) (by omega)
  by_cases hp : pos < s.size
  · have h0 : 0 ≤ bt s pos := by rw [bt_in hp]; omega
    by_cases ha : bt s pos < 128
    · rw [TT_ascii h0 ha]
      have : takeP st pos (bt s pos) = none := by
        unfold takeP
        rw [if_neg (by omega), if_neg (by omega), if_neg (by rw [m0]; simp), if_neg (by rw [m1]; simp), if_neg (by rw [m1]; simp)]
      rw [this]
    · rw [TT_high (by omega) (by omega)]
      have : bgP st.r.step (s.extract pos s.size) = 0 := by
        unfold bgP; rw [if_pos hs, bgF_zero (by rw [bt_extract, Nat.add_zero]; exact h2)]; rfl
      rw [this, Int.add_zero]
  · rw [TT_end hp, m1]; simp; omega

theorem num_sim (s : ByteArray) (i : Nat) (st : PS) (h0 : st.r.step = 0) (hi : i ≤ s.size) : NumSim s i st (numP s i (-1)) := by
  have hbs := begin_step st.r i true
  -- behind a sign
  have sign : ∀ j, i ≤ j → j ≤ s.size → TT s i st = TT s j ⟨st.r.begin i true, st.acc, st.accs⟩ → NumSim s i st (tailN s true (j, -1)) := fun j hij hj he =>
    tail_sim s i j true st hij
      (fun hd => by
        rw [he, TT_ascii (by omega) (by omega), takeP_dig hd (by simp only; omega)]
        simp only [RS.digit, hbs]
        rfl)
      (fun hn => by
        rw [he]
        exact TT_no hj (by simp only; omega) (Or.inr hn) (Or.inl (mayE_step (by simp only; omega) (by simp only; omega))) (Or.inl (mayE_step (by simp only; omega) (by simp only; omega))))
  unfold numP
  by_cases h45 : bt s i = 45
  · have e1 : signM s i (-1) = true := by simp [signM, onP_neg, h45]
    have e2 : signS s i (-1) = (i + 1, -1) := by simp [signS, onP_neg, h45, gotI]
    rw [e1, e2]
    have hp := bt_pos (s := s) (k := i) (by omega)
    refine sign (i + 1) (by omega) (by omega) ?_
    rw [TT_ascii (by omega) (by omega)]
    have : takeP st i (bt s i) = some ⟨st.r.begin i true, st.acc, st.accs⟩ := by unfold takeP; rw [if_pos ⟨Or.inl h45, h0⟩]
    rw [this]
  · have g0 : gotI s i (-1) 45 = i := by simp [gotI, onP_neg, h45]
    by_cases h226 : bt s i = 226
    · have hp := bt_pos (s := s) (k := i) (by omega)
      have e1 : signM s i (-1) = true := by simp [signM, onP_neg, g0, h226]
      have e2 : signS s i (-1) = mustS s (mustS s (i + 1, -1) 136) 146 := by
        simp [signS, onP_neg, h226, mustS, gotI, mustB]
      rw [e1, e2]
      have hb : ∀ k, bt (s.extract i s.size) k = bt s (i + k) := bt_extract s i
      by_cases h136 : bt s (i + 1) = 136
      · have hp1 := bt_pos (s := s) (k := i + 1) (by omega)
        have e3 : mustS s (i + 1, -1) 136 = (i + 2, -1) := by simp [mustS, gotI, mustB, onP_neg, h136]
        rw [e3]
        by_cases h146 : bt s (i + 2) = 146
        · have hp2 := bt_pos (s := s) (k := i + 2) (by omega)
          have e4 : mustS s (i + 2, -1) 146 = (i + 3, -1) := by simp [mustS, gotI, mustB, onP_neg, h146]
          rw [e4]
          refine sign (i + 3) (by omega) (by omega) ?_
          rw [TT_long h226 h136 h146, if_pos h0]
        · have e4 : mustS s (i + 2, -1) 146 = (i + 2, (i + 2 : Int)) := by simp [mustS, gotI, mustB, onP_neg, h146, failed_neg]
          rw [e4]
          have e5 : tailN s true (i + 2, (i + 2 : Int)) = (0, i + 2, (i + 2 : Int)) := by
            simp only [tailN, digP_bad (show (0 : Int) ≤ (i + 2 : Int) by omega), failed_bad (show (0 : Int) ≤ (i + 2 : Int) by omega)]; simp
          rw [e5]
          refine Or.inl ⟨by simp only; omega, ?_⟩
          rw [TT_high (by omega) (by omega)]
          have : bgP st.r.step (s.extract i s.size) = 2 := by
            unfold bgP; rw [if_pos h0]
            rw [bgF, if_pos (by rw [hb]; simpa [lm] using h226), bgF, if_pos (by rw [hb]; simpa [lm] using h136), bgF, if_neg (by rw [hb]; simpa [lm] using h146)]; rfl
          rw [this]
      · have e3 : mustS s (i + 1, -1) 136 = (i + 1, (i + 1 : Int)) := by simp [mustS, gotI, mustB, onP_neg, h136, failed_neg]
        have e4 : mustS s (i + 1, (i + 1 : Int)) 146 = (i + 1, (i + 1 : Int)) := by
          simp only [mustS, gotI, mustB, onP_bad (show (0 : Int) ≤ (i + 1 : Int) by omega), failed_bad (show (0 : Int) ≤ (i + 1 : Int) by omega)]; simp
        rw [e3, e4]
        have e5 : tailN s true (i + 1, (i + 1 : Int)) = (0, i + 1, (i + 1 : Int)) := by
          simp only [tailN, digP_bad (show (0 : Int) ≤ (i + 1 : Int) by omega), failed_bad (show (0 : Int) ≤ (i + 1 : Int) by omega)]; simp
        rw [e5]
        refine Or.inl ⟨by simp only; omega, ?_⟩
        rw [TT_high (by omega) (by omega)]
        have : bgP st.r.step (s.extract i s.size) = 1 := by
          unfold bgP; rw [if_pos h0]
          rw [bgF, if_pos (by rw [hb]; simpa [lm] using h226), bgF, if_neg (by rw [hb]; simpa [lm] using h136)]; rfl
        rw [this]
    · have e1 : signM s i (-1) = false := by simp [signM, onP_neg, g0, h226, h45]
      have e2 : signS s i (-1) = (i, -1) := by simp [signS, onP_neg, g0, h226, h45]
      rw [e1, e2]
      refine tail_sim s i i false st (Nat.le_refl _) (fun hd => ?_) (fun hn => TT_no0 hi h0 h45 h226 hn)
      rw [TT_ascii (by omega) (by omega), takeP_dig hd (by omega)]
      simp only [RS.digit, h0]
      rfl

end Go.Proofs.Ytkjlkbgdkdcboaa
