import Derived.Test.YtkjlkbgdkdcboaaGreatDoorRdB
import Derived.Test.YtkjlkbgdkdcboaaGreatDoorPnA

set_option linter.unusedSimpArgs false
set_option linter.unusedVariables false

set_option linter.unusedSimpArgs false
set_option linter.unusedVariables false

namespace Go.Proofs.YtkjlkbgdkdcboaaGreatDoor

theorem get_bt {s : ByteArray} {k : Nat} (h : k < s.size) : ((s.get! k).toNat : Int) = bt s k := by
  rw [bt_in h]
  have : s.get! (k + 0) = s[k]'h := Go.get_at s k h
  rw [Nat.add_zero] at this
  rw [this]

theorem dec_long {s : ByteArray} {p : Nat} (h0 : bt s p = 226) (h1 : bt s (p + 1) = 136) (h2 : bt s (p + 2) = 146) : Utf8.decode s p = (8722, 3) := by
  have l0 := bt_pos (s := s) (k := p) (by omega)
  have l1 := bt_pos (s := s) (k := p + 1) (by omega)
  have l2 := bt_pos (s := s) (k := p + 2) (by omega)
  have g0 := get_bt l0
  have g1 := get_bt l1
  have g2 := get_bt l2
  have e0 : (s.get! (p + 0)).toNat = 226 := by rw [Nat.add_zero]; omega
  have e1 : (s.get! (p + 1)).toNat = 136 := by omega
  have e2 : (s.get! (p + 2)).toNat = 146 := by omega
  simp only [Utf8.decode, e0, e1, e2, l1, l2]
  rw [if_neg (by decide), if_neg (by decide), if_pos (by decide), if_pos (by decide)]

theorem dec_other {s : ByteArray} {p : Nat} (hp : p < s.size) (hn : ¬ (bt s p = 226 ∧ bt s (p + 1) = 136 ∧ bt s (p + 2) = 146)) : (Utf8.decode s p).1 ≠ 8722 := by
  intro h
  have b0 : (s.get! (p + 0)).toNat < 256 := (s.get! (p + 0)).toNat_lt
  have b1 : (s.get! (p + 1)).toNat < 256 := (s.get! (p + 1)).toNat_lt
  have b2 : (s.get! (p + 2)).toNat < 256 := (s.get! (p + 2)).toNat_lt
  have g0 := get_bt hp
  have e0 : ((s.get! (p + 0)).toNat : Int) = bt s p := by rw [Nat.add_zero]; exact g0
  simp only [Utf8.decode] at h
  split at h
  · simp at h; omega
  · split at h
    · split at h
      · simp at h; omega
      · simp [Utf8.runeError] at h
    · split at h
      · rename_i hc
        split at h
        · simp only [Bool.and_eq_true, decide_eq_true_eq, beq_iff_eq] at hc
          obtain ⟨⟨hc0, hc1, hc2⟩, hc3, hc4⟩ := hc
          have g1 := get_bt hc1
          have g2 := get_bt hc3
          simp only at h
          exact hn ⟨by omega, by omega, by omega⟩
        · simp [Utf8.runeError] at h
      · split at h
        · split at h
          · rename_i hc
            simp only [Bool.and_eq_true, decide_eq_true_eq] at hc
            simp only at h
            omega
          · simp [Utf8.runeError] at h
        · simp [Utf8.runeError] at h

theorem bt_extract (s : ByteArray) (p k : Nat) : bt (s.extract p s.size) k = bt s (p + k) := by
  by_cases h : p + k < s.size
  · have hk : k < (s.extract p s.size).size := by simp [ByteArray.size_extract]; omega
    rw [bt_in h, bt_in hk]
    congr 2
    exact ByteArray.getElem_extract (h := hk)
  · rw [bt_out h, bt_out (by simp [ByteArray.size_extract]; omega)]

theorem scanF_fuel (s : ByteArray) : ∀ (f g pos : Nat) (st : PS), s.size ≤ pos + f → s.size ≤ pos + g → scanF s f pos st = scanF s g pos st
  | 0, g, pos, st, h1, h2 => by rw [scanF_end s 0 pos st (by omega), scanF_end s g pos st (by omega)]
  | f + 1, 0, pos, st, h1, h2 => by rw [scanF_end s 0 pos st (by omega), scanF_end s (f + 1) pos st (by omega)]
  | f + 1, g + 1, pos, st, h1, h2 => by
    rw [scanF, scanF]
    by_cases hp : pos < s.size
    · rw [if_pos hp, if_pos hp]
      have hw := wd_pos s pos hp
      cases takeP st pos (Utf8.decode s pos).1 with
      | none => rfl
      | some st' => exact scanF_fuel s f g _ st' (by omega) (by omega)
    · rw [if_neg hp, if_neg hp]

/-- what the rest of the text makes of a state -/
def TT (s : ByteArray) (pos : Nat) (st : PS) : Option (List (List Sp)) × Int := finP s (scanF s s.size pos st)

theorem TT_step {s : ByteArray} {pos : Nat} {st : PS} (hp : pos < s.size) : TT s pos st = match takeP st pos (Utf8.decode s pos).1 with
    | none => (none, (pos : Int) + bgP st.r.step (s.extract pos s.size))
    | some st' => TT s (pos + (Utf8.decode s pos).2) st' := by
  have hw := wd_pos s pos hp
  unfold TT
  rw [scanF_fuel s s.size (s.size + 1) pos st (by omega) (by omega), scanF, if_pos hp]
  cases takeP st pos (Utf8.decode s pos).1 with
  | none => rfl
  | some st' => rfl

theorem TT_end {s : ByteArray} {pos : Nat} {st : PS} (hp : ¬ pos < s.size) : TT s pos st = if mayE st.r true = true then (some (st.accs ++ [st.acc ++ [st.r.endN.sp]]), 0) else (none, (s.size : Int)) := by
  unfold TT
  rw [scanF_end s s.size pos st hp]
  rfl

theorem bgF_zero {t : ByteArray} (h : bt t 0 ≠ 226) : bgF t 3 0 = 0 := by rw [bgF, if_neg (by simpa [lm] using h)]
theorem bgP_step {st : Int} {t : ByteArray} (h : st ≠ 0) : bgP st t = 0 := if_neg h

theorem TT_ascii {s : ByteArray} {pos : Nat} {st : PS} (h0 : 0 ≤ bt s pos) (h1 : bt s pos < 128) : TT s pos st = match takeP st pos (bt s pos) with
    | none => (none, (pos : Int))
    | some st' => TT s (pos + 1) st' := by
  have hp := bt_pos h0
  have ha : (s[pos]'hp).toNat < 128 := by have := bt_in hp; omega
  rw [TT_step hp, Go.decode_ascii s pos hp ha, bt_in hp]
  cases takeP st pos (s[pos]'hp).toNat with
  | none =>
    have : bgP st.r.step (s.extract pos s.size) = 0 := by
      unfold bgP
      split
      · rw [bgF_zero (by rw [bt_extract, Nat.add_zero]; omega)]; rfl
      · rfl
    simp only [this, Int.add_zero]
  | some st' => rfl

theorem takeP_high {st : PS} {a c : Int} (h : 128 ≤ c) (hn : c ≠ 8722) : takeP st a c = none := by
  unfold takeP
  rw [if_neg (by omega), if_neg (by omega), if_neg (by omega), if_neg (by omega), if_neg (by omega)]

theorem TT_high {s : ByteArray} {pos : Nat} {st : PS} (h0 : 128 ≤ bt s pos) (hn : ¬ (bt s pos = 226 ∧ bt s (pos + 1) = 136 ∧ bt s (pos + 2) = 146)) : TT s pos st = (none, (pos : Int) + bgP st.r.step (s.extract pos s.size)) := by
  have hp := bt_pos (s := s) (k := pos) (by omega)
  have hd := (Go.decode_high s pos hp (by have := bt_in hp; omega)).1
  have hd2 := dec_other hp hn
  rw [TT_step hp, takeP_high (by omega) (by omega)]

theorem TT_long {s : ByteArray} {pos : Nat} {st : PS} (h0 : bt s pos = 226) (h1 : bt s (pos + 1) = 136) (h2 : bt s (pos + 2) = 146) : TT s pos st = if st.r.step = 0 then TT s (pos + 3) ⟨st.r.begin pos true, st.acc, st.accs⟩ else (none, (pos : Int)) := by
  have hp := bt_pos (s := s) (k := pos) (by omega)
  rw [TT_step hp, dec_long h0 h1 h2]
  by_cases hs : st.r.step = 0
  · have : takeP st pos ((8722 : Nat) : Int) = some ⟨st.r.begin pos true, st.acc, st.accs⟩ := by unfold takeP; rw [if_pos ⟨Or.inr rfl, hs⟩]
    simp only [this, if_pos hs]
  · have : takeP st pos ((8722 : Nat) : Int) = none := by unfold takeP; rw [if_neg (by omega), if_neg (by omega), if_neg (by omega), if_neg (by omega), if_neg (by omega)]
    simp only [this, if_neg hs, bgP_step hs, Int.add_zero]

/-- behind a sign or a number nothing else may stand -/
theorem TT_no {s : ByteArray} {pos : Nat} {st : PS} (hpos : pos ≤ s.size) (hs : st.r.step ≠ 0) (hd : st.r.step = 3 ∨ ¬ (48 ≤ bt s pos ∧ bt s pos ≤ 57)) (hc : mayE st.r false = false ∨ bt s pos ≠ 44) (hb : mayE st.r true = false ∨ (bt s pos ≠ 32 ∧ bt s pos ≠ 59 ∧ pos < s.size)) : TT s pos st = (none, (pos : Int)) := by
  by_cases hp : pos < s.size
  · have h0 : 0 ≤ bt s pos := by rw [bt_in hp]; omega
    have ht : ∀ c, c = bt s pos ∨ 128 ≤ bt s pos ∧ 128 ≤ c → takeP st pos c = none := fun c hcc => by
      unfold takeP
      rw [if_neg (by omega), if_neg (by omega)]
      have hk : c = bt s pos ∨ 128 ≤ c := by omega
      have n1 : ¬ (c = 44 ∧ mayE st.r false = true) := by
        rintro ⟨e1, e2⟩
        rcases hc with e | e
        · rw [e] at e2; cases e2
        · omega
      have n2 : ¬ (c = 32 ∧ mayE st.r true = true) := by
        rintro ⟨e1, e2⟩
        rcases hb with e | e
        · rw [e] at e2; cases e2
        · omega
      have n3 : ¬ (c = 59 ∧ mayE st.r true = true) := by
        rintro ⟨e1, e2⟩
        rcases hb with e | e
        · rw [e] at e2; cases e2
        · omega
      rw [if_neg n1, if_neg n2, if_neg n3]
    by_cases ha : bt s pos < 128
    · rw [TT_ascii h0 ha, ht _ (Or.inl rfl)]
    · by_cases hl : bt s pos = 226 ∧ bt s (pos + 1) = 136 ∧ bt s (pos + 2) = 146
      · rw [TT_long hl.1 hl.2.1 hl.2.2, if_neg hs]
      · rw [TT_high (by omega) hl, bgP_step hs, Int.add_zero]
  · rw [TT_end hp]
    rcases hb with e | e
    · rw [e]; simp; omega
    · exact absurd e.2.2 hp

end Go.Proofs.YtkjlkbgdkdcboaaGreatDoor

namespace Go.Proofs.YtkjlkbgdkdcboaaGreatDoor

theorem onP_neg (s : ByteArray) (i : Nat) (c : Int) : onP s i (-1) c = decide (bt s i = c) := by simp [onP]
theorem digP_neg (s : ByteArray) (i : Nat) : digP s i (-1) = decide (48 ≤ bt s i ∧ bt s i ≤ 57) := by simp [digP]
theorem onP_bad {s : ByteArray} {i : Nat} {b c : Int} (h : 0 ≤ b) : onP s i b c = false := by simp [onP]; omega
theorem digP_bad {s : ByteArray} {i : Nat} {b : Int} (h : 0 ≤ b) : digP s i b = false := by simp [digP]; omega
theorem failed_bad {i b : Int} (h : 0 ≤ b) : failed i b = b := if_neg (by omega)
theorem failed_neg {i : Int} : failed i (-1) = i := if_pos (by omega)

/-- behind a number: the other half is as it was, this one has its place and value -/
def After (r r' : RS) (i : Nat) (v : Int) : Prop :=
  r'.half = r.half ∧ (match r.half with | false => r'.endN.sp.1 = ((i : Int), v) | true => r'.endN.sp = ((r.a0, r.v0), ((i : Int), v)))
def Stop (s : ByteArray) (r' : RS) (j : Nat) : Prop := r'.step = 3 ∨ (r'.step = 2 ∧ ¬ (48 ≤ bt s j ∧ bt s j ≤ 57))

def NumSim (s : ByteArray) (i : Nat) (st : PS) (x : Int × Nat × Int) : Prop :=
  (0 ≤ x.2.2 ∧ TT s i st = (none, x.2.2)) ∨
  (x.2.2 = -1 ∧ x.2.1 ≤ s.size ∧ i < x.2.1 ∧ ∃ r', TT s i st = TT s x.2.1 ⟨r', st.acc, st.accs⟩ ∧ After st.r r' i x.1 ∧ Stop s r' x.2.1)

theorem more_step (r : RS) (i : Int) (m : Bool) (d : Int) : ((r.begin i m).more d).step = 2 ∧ (((r.begin i m).more d).half = r.half) := by
  obtain ⟨st, mi, ha, a0, v0, a1, v1⟩ := r
  cases ha <;> simp [RS.begin, RS.more]
theorem after1 (r : RS) (i : Nat) (m : Bool) (d : Int) : After r ((r.begin i m).more d) i (if m then -(10 * 0 + d) else 10 * 0 + d) := by
  obtain ⟨st, mi, ha, a0, v0, a1, v1⟩ := r
  cases ha <;> cases m <;> simp [After, RS.begin, RS.more, RS.endN, RS.sp]
theorem after2 (r : RS) (i : Nat) (m : Bool) (d e : Int) : After r (((r.begin i m).more d).more e) i (if m then -(10 * (10 * 0 + d) + e) else 10 * (10 * 0 + d) + e) := by
  obtain ⟨st, mi, ha, a0, v0, a1, v1⟩ := r
  cases ha <;> cases m <;> simp [After, RS.begin, RS.more, RS.endN, RS.sp] <;> omega

theorem takeP_dig {st : PS} {a c : Int} (hc : 48 ≤ c ∧ c ≤ 57) (hs : st.r.step ≠ 3) : takeP st a c = some ⟨st.r.digit a (c - 48), st.acc, st.accs⟩ := by
  unfold takeP; rw [if_neg (by omega), if_pos ⟨hc, hs⟩]

theorem tail_sim (s : ByteArray) (i j : Nat) (m : Bool) (st : PS) (hij : i ≤ j)
    (hd : 48 ≤ bt s j ∧ bt s j ≤ 57 → TT s i st = TT s (j + 1) ⟨(st.r.begin i m).more (bt s j - 48), st.acc, st.accs⟩)
    (hn : ¬ (48 ≤ bt s j ∧ bt s j ≤ 57) → TT s i st = (none, (j : Int))) : NumSim s i st (tailN s m (j, -1)) := by
  unfold tailN
  simp only [digP_neg]
  by_cases h1 : 48 ≤ bt s j ∧ bt s j ≤ 57
  · rw [if_pos (decide_eq_true h1)]
    have hj := bt_pos (s := s) (k := j) (by omega)
    have hm := more_step st.r i m (bt s j - 48)
    by_cases h2 : 48 ≤ bt s (j + 1) ∧ bt s (j + 1) ≤ 57
    · rw [if_pos (decide_eq_true h2)]
      have hj2 := bt_pos (s := s) (k := j + 1) (by omega)
      refine Or.inr ⟨rfl, by simp only; omega, by simp only; omega, ((st.r.begin i m).more (bt s j - 48)).more (bt s (j + 1) - 48), ?_, ?_, Or.inl ?_⟩
      · rw [hd h1, TT_ascii (by omega) (by omega), takeP_dig h2 (by rw [hm.1]; decide)]
        simp only [RS.digit, hm.1]
        rfl
      · have := after2 st.r i m (bt s j - 48) (bt s (j + 1) - 48)
        exact this
      · have : ∀ (r : RS) (d : Int), (r.more d).step = r.step + 1 := fun r d => by
          obtain ⟨st, mi, ha, a0, v0, a1, v1⟩ := r
          cases ha <;> rfl
        rw [this, hm.1]; rfl
    · rw [if_neg (by rw [decide_eq_true_eq]; exact h2)]
      exact Or.inr ⟨rfl, by simp only; omega, by simp only; omega, (st.r.begin i m).more (bt s j - 48), hd h1, after1 st.r i m (bt s j - 48), Or.inr ⟨hm.1, h2⟩⟩
  · rw [if_neg (by rw [decide_eq_true_eq]; exact h1)]
    refine Or.inl ⟨?_, ?_⟩
    · simp only [failed_neg]; omega
    · simp only [failed_neg]; exact hn h1

theorem mayE_step {r : RS} {h : Bool} (h2 : r.step ≠ 2) (h3 : r.step ≠ 3) : mayE r h = false := by
  unfold mayE
  have e1 : (r.step == 2) = false := by simpa using h2
  have e2 : (r.step == 3) = false := by simpa using h3
  rw [e1, e2]; simp
theorem begin_step (r : RS) (a : Int) (m : Bool) : (r.begin a m).step = 1 := by
  obtain ⟨st, mi, ha, a0, v0, a1, v1⟩ := r
  cases ha <;> rfl

/-- nothing begins so -/
theorem TT_no0 {s : ByteArray} {pos : Nat} {st : PS} (hpos : pos ≤ s.size) (hs : st.r.step = 0) (h1 : bt s pos ≠ 45) (h2 : bt s pos ≠ 226) (hd : ¬ (48 ≤ bt s pos ∧ bt s pos ≤ 57)) : TT s pos st = (none, (pos : Int)) := by
  have m0 := mayE_step (r := st.r) (h := false) (by omega) (by omega)
  have m1 := mayE_step (r := st.r) (h := true) (by omega) (by omega)
  by_cases hp : pos < s.size
  · have h0 : 0 ≤ bt s pos := by rw [bt_in hp]; omega
    by_cases ha : bt s pos < 128
    · rw [TT_ascii h0 ha]
      have : takeP st pos (bt s pos) = none := by
        unfold takeP
        rw [if_neg (by omega), if_neg (by omega), if_neg (by rw [m0]; simp), if_neg (by rw [m1]; simp), if_neg (by rw [m1]; simp)]
      rw [this]
    · rw [TT_high (by omega) (by omega)]
      have : bgP st.r.step (s.extract pos s.size) = 0 := by
        unfold bgP; rw [if_pos hs, bgF_zero (by rw [bt_extract, Nat.add_zero]; exact h2)]; rfl
      rw [this, Int.add_zero]
  · rw [TT_end hp, m1]; simp; omega

theorem num_sim (s : ByteArray) (i : Nat) (st : PS) (h0 : st.r.step = 0) (hi : i ≤ s.size) : NumSim s i st (numP s i (-1)) := by
  have hbs := begin_step st.r i true
  -- behind a sign
  have sign : ∀ j, i ≤ j → j ≤ s.size → TT s i st = TT s j ⟨st.r.begin i true, st.acc, st.accs⟩ → NumSim s i st (tailN s true (j, -1)) := fun j hij hj he =>
    tail_sim s i j true st hij
      (fun hd => by
        rw [he, TT_ascii (by omega) (by omega), takeP_dig hd (by simp only; omega)]
        simp only [RS.digit, hbs]
        rfl)
      (fun hn => by
        rw [he]
        exact TT_no hj (by simp only; omega) (Or.inr hn) (Or.inl (mayE_step (by simp only; omega) (by simp only; omega))) (Or.inl (mayE_step (by simp only; omega) (by simp only; omega))))
  unfold numP
  by_cases h45 : bt s i = 45
  · have e1 : signM s i (-1) = true := by simp [signM, onP_neg, h45]
    have e2 : signS s i (-1) = (i + 1, -1) := by simp [signS, onP_neg, h45, gotI]
    rw [e1, e2]
    have hp := bt_pos (s := s) (k := i) (by omega)
    refine sign (i + 1) (by omega) (by omega) ?_
    rw [TT_ascii (by omega) (by omega)]
    have : takeP st i (bt s i) = some ⟨st.r.begin i true, st.acc, st.accs⟩ := by unfold takeP; rw [if_pos ⟨Or.inl h45, h0⟩]
    rw [this]
  · have g0 : gotI s i (-1) 45 = i := by simp [gotI, onP_neg, h45]
    by_cases h226 : bt s i = 226
    · have hp := bt_pos (s := s) (k := i) (by omega)
      have e1 : signM s i (-1) = true := by simp [signM, onP_neg, g0, h226]
      have e2 : signS s i (-1) = mustS s (mustS s (i + 1, -1) 136) 146 := by
        simp [signS, onP_neg, h226, mustS, gotI, mustB]
      rw [e1, e2]
      have hb : ∀ k, bt (s.extract i s.size) k = bt s (i + k) := bt_extract s i
      by_cases h136 : bt s (i + 1) = 136
      · have hp1 := bt_pos (s := s) (k := i + 1) (by omega)
        have e3 : mustS s (i + 1, -1) 136 = (i + 2, -1) := by simp [mustS, gotI, mustB, onP_neg, h136]
        rw [e3]
        by_cases h146 : bt s (i + 2) = 146
        · have hp2 := bt_pos (s := s) (k := i + 2) (by omega)
          have e4 : mustS s (i + 2, -1) 146 = (i + 3, -1) := by simp [mustS, gotI, mustB, onP_neg, h146]
          rw [e4]
          refine sign (i + 3) (by omega) (by omega) ?_
          rw [TT_long h226 h136 h146, if_pos h0]
        · have e4 : mustS s (i + 2, -1) 146 = (i + 2, (i + 2 : Int)) := by simp [mustS, gotI, mustB, onP_neg, h146, failed_neg]
          rw [e4]
          have e5 : tailN s true (i + 2, (i + 2 : Int)) = (0, i + 2, (i + 2 : Int)) := by
            simp only [tailN, digP_bad (show (0 : Int) ≤ (i + 2 : Int) by omega), failed_bad (show (0 : Int) ≤ (i + 2 : Int) by omega)]; simp
          rw [e5]
          refine Or.inl ⟨by simp only; omega, ?_⟩
          rw [TT_high (by omega) (by omega)]
          have : bgP st.r.step (s.extract i s.size) = 2 := by
            unfold bgP; rw [if_pos h0]
            rw [bgF, if_pos (by rw [hb]; simpa [lm] using h226), bgF, if_pos (by rw [hb]; simpa [lm] using h136), bgF, if_neg (by rw [hb]; simpa [lm] using h146)]; rfl
          rw [this]
      · have e3 : mustS s (i + 1, -1) 136 = (i + 1, (i + 1 : Int)) := by simp [mustS, gotI, mustB, onP_neg, h136, failed_neg]
        have e4 : mustS s (i + 1, (i + 1 : Int)) 146 = (i + 1, (i + 1 : Int)) := by
          simp only [mustS, gotI, mustB, onP_bad (show (0 : Int) ≤ (i + 1 : Int) by omega), failed_bad (show (0 : Int) ≤ (i + 1 : Int) by omega)]; simp
        rw [e3, e4]
        have e5 : tailN s true (i + 1, (i + 1 : Int)) = (0, i + 1, (i + 1 : Int)) := by
          simp only [tailN, digP_bad (show (0 : Int) ≤ (i + 1 : Int) by omega), failed_bad (show (0 : Int) ≤ (i + 1 : Int) by omega)]; simp
        rw [e5]
        refine Or.inl ⟨by simp only; omega, ?_⟩
        rw [TT_high (by omega) (by omega)]
        have : bgP st.r.step (s.extract i s.size) = 1 := by
          unfold bgP; rw [if_pos h0]
          rw [bgF, if_pos (by rw [hb]; simpa [lm] using h226), bgF, if_neg (by rw [hb]; simpa [lm] using h136)]; rfl
        rw [this]
    · have e1 : signM s i (-1) = false := by simp [signM, onP_neg, g0, h226, h45]
      have e2 : signS s i (-1) = (i, -1) := by simp [signS, onP_neg, g0, h226, h45]
      rw [e1, e2]
      refine tail_sim s i i false st (Nat.le_refl _) (fun hd => ?_) (fun hn => TT_no0 hi h0 h45 h226 hn)
      rw [TT_ascii (by omega) (by omega), takeP_dig hd (by omega)]
      simp only [RS.digit, h0]
      rfl

end Go.Proofs.YtkjlkbgdkdcboaaGreatDoor

namespace Go.Proofs.YtkjlkbgdkdcboaaGreatDoor

/-- a point's two numbers as the document has them -/
def fl (p : Sp) : List (Int × Int) := [(p.1.2, p.1.1), (p.2.2, p.2.1)]

theorem numP_bad {s : ByteArray} {i : Nat} {b : Int} (h : 0 ≤ b) : (numP s i b).2 = (i, b) := by
  have e1 : signS s i b = (i, b) := by
    simp only [signS, gotI, onP_bad h]; simp
  unfold numP
  rw [e1]
  simp only [tailN, digP_bad h, failed_bad h]
  simp
theorem mustS_bad {s : ByteArray} {i : Nat} {b c : Int} (h : 0 ≤ b) : mustS s (i, b) c = (i, b) := by
  simp only [mustS, gotI, mustB, onP_bad h, failed_bad h]; simp
theorem mustS_yes {s : ByteArray} {i : Nat} {c : Int} (h : bt s i = c) : mustS s (i, -1) c = (i + 1, -1) := by
  simp [mustS, gotI, mustB, onP_neg, h]
theorem mustS_no {s : ByteArray} {i : Nat} {c : Int} (h : bt s i ≠ c) : mustS s (i, -1) c = (i, (i : Int)) := by
  simp [mustS, gotI, mustB, onP_neg, h, failed_neg]

theorem stop_mayE {s : ByteArray} {r : RS} {j : Nat} (h : Stop s r j) : mayE r r.half = true := by
  unfold mayE
  rcases h with e | ⟨e, _⟩ <;> simp [e]
theorem mayE_half {r : RS} {h : Bool} (hh : r.half ≠ h) : mayE r h = false := by
  unfold mayE
  cases hr : r.half <;> cases h <;> simp_all [hI]
theorem stop_step {s : ByteArray} {r : RS} {j : Nat} (h : Stop s r j) : r.step ≠ 0 := by rcases h with e | ⟨e, _⟩ <;> omega
theorem endN_step (r : RS) : r.endN.step = 0 := by
  obtain ⟨st, mi, ha, a0, v0, a1, v1⟩ := r
  cases ha <;> rfl
theorem stop_dig {s : ByteArray} {r : RS} {j : Nat} (h : Stop s r j) : r.step = 3 ∨ ¬ (48 ≤ bt s j ∧ bt s j ≤ 57) := by
  rcases h with e | ⟨_, e⟩
  · exact Or.inl e
  · exact Or.inr e

def PointSim (s : ByteArray) (i : Nat) (st : PS) : Prop :=
  (0 ≤ (pointE s i (-1)).2 ∧ TT s i st = (none, (pointE s i (-1)).2)) ∨
  ((pointE s i (-1)).2 = -1 ∧ (pointE s i (-1)).1 ≤ s.size ∧ i < (pointE s i (-1)).1 ∧ ∃ r', r'.half = true ∧ Stop s r' (pointE s i (-1)).1 ∧ TT s i st = TT s (pointE s i (-1)).1 ⟨r', st.acc, st.accs⟩ ∧ pointL s i (-1) = fl r'.endN.sp)

theorem point_sim (s : ByteArray) (i : Nat) (st : PS) (h0 : st.r.step = 0) (hh : st.r.half = false) (hi : i ≤ s.size) : PointSim s i st := by
  unfold PointSim pointE pointL
  obtain ⟨X, hX⟩ : ∃ X, numP s i (-1) = X := ⟨_, rfl⟩
  have n1 := num_sim s i st h0 hi
  rw [hX] at n1
  simp only [hX]
  obtain ⟨v1, j, bd⟩ := X
  rcases n1 with ⟨hb, ht⟩ | ⟨hb, hj, hij, r1, ht, ⟨hr1, hA⟩, hS⟩
  · simp only at hb ht
    left
    rw [mustS_bad hb, numP_bad hb]
    exact ⟨hb, ht⟩
  · simp only at hb hj hij ht hS hA
    subst hb
    rw [hh] at hr1 hA
    simp only at hA
    by_cases h44 : bt s j = 44
    · have hjl := bt_pos (s := s) (k := j) (by omega)
      rw [mustS_yes h44]
      have hm : mayE r1 false = true := by have := stop_mayE hS; rw [hr1] at this; exact this
      have ht2 : TT s i st = TT s (j + 1) ⟨{ r1.endN with half := true }, st.acc, st.accs⟩ := by
        rw [ht, TT_ascii (by omega) (by omega)]
        have : takeP ⟨r1, st.acc, st.accs⟩ j (bt s j) = some ⟨{ r1.endN with half := true }, st.acc, st.accs⟩ := by
          unfold takeP; rw [if_neg (by omega), if_neg (by omega), if_pos ⟨h44, hm⟩]
        rw [this]
      have n2 := num_sim s (j + 1) ⟨{ r1.endN with half := true }, st.acc, st.accs⟩ (endN_step r1) (by omega)
      obtain ⟨Y, hY⟩ : ∃ Y, numP s (j + 1) (-1) = Y := ⟨_, rfl⟩
      rw [hY] at n2
      simp only [hY]
      obtain ⟨v2, k, bd2⟩ := Y
      rcases n2 with ⟨hb2, ht3⟩ | ⟨hb2, hk, hjk, r2, ht3, ⟨hr2, hA2⟩, hS2⟩
      · simp only at hb2 ht3
        exact Or.inl ⟨hb2, by rw [ht2, ht3]⟩
      · simp only at hb2 hk hjk ht3 hS2 hA2 hr2
        refine Or.inr ⟨hb2, hk, by simp only; omega, r2, hr2, hS2, by rw [ht2, ht3], ?_⟩
        rw [hA2]
        have e1 : r1.endN.a0 = i := congrArg Prod.fst hA
        have e2 : r1.endN.v0 = v1 := congrArg Prod.snd hA
        simp [fl, e1, e2]
    · rw [mustS_no h44, numP_bad (by omega)]
      refine Or.inl ⟨by simp, ?_⟩
      rw [ht]
      exact TT_no hj (stop_step hS) (stop_dig hS) (Or.inr h44) (Or.inl (mayE_half (by simp only; rw [hr1]; simp)))

def RowSim (s : ByteArray) (n i : Nat) (st : PS) : Prop :=
  (0 ≤ (rowF s n i (-1)).2.2 ∧ TT s i st = (none, (rowF s n i (-1)).2.2)) ∨
  ((rowF s n i (-1)).2.2 = -1 ∧ (rowF s n i (-1)).2.1 ≤ s.size ∧ i < (rowF s n i (-1)).2.1 ∧ bt s (rowF s n i (-1)).2.1 ≠ 32 ∧
    ∃ r' ps, r'.half = true ∧ Stop s r' (rowF s n i (-1)).2.1 ∧ TT s i st = TT s (rowF s n i (-1)).2.1 ⟨r', st.acc ++ ps, st.accs⟩ ∧ (rowF s n i (-1)).1 = (ps ++ [r'.endN.sp]).flatMap fl)

theorem row_sim (s : ByteArray) : ∀ (n i : Nat) (st : PS), st.r.step = 0 → st.r.half = false → i ≤ s.size → s.size < i + n → RowSim s n i st
  | 0, i, st, h0, hh, hi, hn => by omega
  | n + 1, i, st, h0, hh, hi, hn => by
    have p := point_sim s i st h0 hh hi
    unfold RowSim
    unfold PointSim at p
    rw [rowF]
    obtain ⟨P, hP⟩ : ∃ P, pointE s i (-1) = P := ⟨_, rfl⟩
    simp only [hP] at p ⊢
    obtain ⟨j, bd⟩ := P
    rcases p with ⟨hb, ht⟩ | ⟨hb, hj, hij, r', hr, hS, ht, hL⟩
    · simp only at hb ht
      simp only [onP_bad hb]
      exact Or.inl ⟨hb, ht⟩
    · simp only at hb hj hij hS ht
      subst hb
      simp only [onP_neg]
      have hm : mayE r' true = true := by have := stop_mayE hS; rw [hr] at this; exact this
      by_cases h32 : bt s j = 32
      · have hjl := bt_pos (s := s) (k := j) (by omega)
        rw [if_pos (decide_eq_true h32)]
        have ht2 : TT s i st = TT s (j + 1) ⟨{ r'.endN with half := false }, st.acc ++ [r'.endN.sp], st.accs⟩ := by
          rw [ht, TT_ascii (by omega) (by omega)]
          have : takeP ⟨r', st.acc, st.accs⟩ j (bt s j) = some ⟨{ r'.endN with half := false }, st.acc ++ [r'.endN.sp], st.accs⟩ := by
            unfold takeP; rw [if_neg (by omega), if_neg (by omega), if_neg (by omega), if_pos ⟨h32, hm⟩]
          rw [this]
        have q := row_sim s n (j + 1) ⟨{ r'.endN with half := false }, st.acc ++ [r'.endN.sp], st.accs⟩ (endN_step r') rfl (by omega) (by omega)
        unfold RowSim at q
        rcases q with ⟨qb, qt⟩ | ⟨qb, qj, qij, q32, r2, ps, qr, qS, qt, qL⟩
        · exact Or.inl ⟨qb, by rw [ht2, qt]⟩
        · refine Or.inr ⟨qb, qj, by simp only; omega, q32, r2, r'.endN.sp :: ps, qr, qS, ?_, ?_⟩
          · rw [ht2, qt]; simp
          · rw [hL, qL]; simp
      · rw [if_neg (by rw [decide_eq_true_eq]; exact h32)]
        exact Or.inr ⟨rfl, hj, hij, h32, r', [], hr, hS, by rw [ht]; simp, by rw [hL]; simp⟩

def RingsSim (s : ByteArray) (n i : Nat) (st : PS) : Prop :=
  (0 ≤ badAt s.size (ringsF s n i (-1)).2.1 (ringsF s n i (-1)).2.2 ∧ TT s i st = (none, badAt s.size (ringsF s n i (-1)).2.1 (ringsF s n i (-1)).2.2)) ∨
  (badAt s.size (ringsF s n i (-1)).2.1 (ringsF s n i (-1)).2.2 = -1 ∧ ∃ Rs, TT s i st = (some (st.accs ++ Rs), 0) ∧ (ringsF s n i (-1)).1 = Rs.map (fun r => r.flatMap fl))

theorem badAt_bad {n j : Nat} {b : Int} (h : 0 ≤ b) : badAt n j b = b := by
  unfold badAt; split
  · exact failed_bad h
  · rfl

theorem rings_sim (s : ByteArray) : ∀ (n i : Nat) (st : PS), st.r.step = 0 → st.r.half = false → st.acc = [] → i ≤ s.size → s.size < i + n → RingsSim s n i st
  | 0, i, st, h0, hh, ha, hi, hn => by omega
  | n + 1, i, st, h0, hh, ha, hi, hn => by
    have p := row_sim s (s.size + 1) i st h0 hh hi (by omega)
    unfold RingsSim
    unfold RowSim at p
    rw [ringsF]
    obtain ⟨P, hP⟩ : ∃ P, rowF s (s.size + 1) i (-1) = P := ⟨_, rfl⟩
    simp only [hP] at p ⊢
    obtain ⟨L, j, bd⟩ := P
    rcases p with ⟨hb, ht⟩ | ⟨hb, hj, hij, h32, r', ps, hr, hS, ht, hL⟩
    · simp only at hb ht
      simp only [onP_bad hb]
      left
      rw [if_neg (by simp)]
      simp only [badAt_bad hb]
      exact ⟨hb, ht⟩
    · simp only at hb hj hij h32 hS ht hL
      subst hb
      rw [ha, List.nil_append] at ht
      simp only [onP_neg]
      have hm : mayE r' true = true := by have := stop_mayE hS; rw [hr] at this; exact this
      by_cases h59 : bt s j = 59
      · have hjl := bt_pos (s := s) (k := j) (by omega)
        rw [if_pos (decide_eq_true h59)]
        have ht2 : TT s i st = TT s (j + 1) ⟨{ r'.endN with half := false }, [], st.accs ++ [ps ++ [r'.endN.sp]]⟩ := by
          rw [ht, TT_ascii (by omega) (by omega)]
          have : takeP ⟨r', ps, st.accs⟩ j (bt s j) = some ⟨{ r'.endN with half := false }, [], st.accs ++ [ps ++ [r'.endN.sp]]⟩ := by
            unfold takeP; rw [if_neg (by omega), if_neg (by omega), if_neg (by omega), if_neg (by omega), if_pos ⟨h59, hm⟩]
          rw [this]
        have q := rings_sim s n (j + 1) ⟨{ r'.endN with half := false }, [], st.accs ++ [ps ++ [r'.endN.sp]]⟩ (endN_step r') rfl rfl (by omega) (by omega)
        unfold RingsSim at q
        rcases q with ⟨qb, qt⟩ | ⟨qb, Rs, qt, qL⟩
        · exact Or.inl ⟨qb, by rw [ht2, qt]⟩
        · refine Or.inr ⟨qb, (ps ++ [r'.endN.sp]) :: Rs, ?_, ?_⟩
          · rw [ht2, qt]; simp
          · rw [hL, qL]; simp
      · rw [if_neg (by rw [decide_eq_true_eq]; exact h59)]
        by_cases hjl : j < s.size
        · left
          have e : badAt s.size j (-1) = j := by unfold badAt; rw [if_pos hjl, failed_neg]
          simp only [e]
          refine ⟨by omega, ?_⟩
          rw [ht]
          exact TT_no (by omega) (stop_step hS) (stop_dig hS) (Or.inl (mayE_half (by simp only; rw [hr]; simp))) (Or.inr ⟨h32, h59, hjl⟩)
        · right
          have e : badAt s.size j (-1) = -1 := by unfold badAt; rw [if_neg hjl]
          simp only [e]
          refine ⟨trivial, [ps ++ [r'.endN.sp]], ?_, ?_⟩
          · rw [ht, TT_end hjl, if_pos hm]
          · rw [hL]; simp

/-- the program's reader and the document's: where one breaks off, so does the other, at the same place; else they have the same numbers -/
theorem scan_rings (s : ByteArray) : (0 ≤ (ringsP s).2 ∧ scanP s = (none, (ringsP s).2)) ∨ ((ringsP s).2 = -1 ∧ ∃ R, scanP s = (some R, 0) ∧ (ringsP s).1 = R.map (fun r => r.flatMap fl)) := by
  by_cases h0 : s.size = 0
  · right
    rw [ringsP, if_pos h0, scanP, if_pos h0]
    exact ⟨rfl, [], rfl, rfl⟩
  · have q := rings_sim s (s.size + 1) 0 init rfl rfl rfl (by omega) (by omega)
    unfold RingsSim at q
    rw [ringsP, if_neg h0, scanP, if_neg h0]
    simp only [TT] at q
    rcases q with ⟨qb, qt⟩ | ⟨qb, Rs, qt, qL⟩
    · exact Or.inl ⟨qb, qt⟩
    · exact Or.inr ⟨qb, Rs, by rw [qt]; simp [init], qL⟩

end Go.Proofs.YtkjlkbgdkdcboaaGreatDoor

