import Derived.Test.YtkjlkbgdkdcboaaGreatDoorRD
import Derived.Test.YtkjlkbgdkdcboaaGreatDoorPnA
import Derived.Test.YtkjlkbgdkdcboaaGreatDoorFaA
import Derived.Test.YtkjlkbgdkdcboaaGreatDoorMC
import Derived.Deep.DeepCutAuto

set_option linter.unusedSimpArgs false
set_option linter.unusedVariables false

set_option linter.unusedSimpArgs false
set_option linter.unusedVariables false
namespace Go.Proofs.YtkjlkbgdkdcboaaGreatDoor
theorem get_bt {s : ByteArray} {k : Nat} (h : k < s.size) : ((s.get! k).toNat : Int) = bt s k := by
  rw [bt_in h]
  have : s.get! (k + 0) = s[k]'h := Go.get_at s k h
  rw [Nat.add_zero] at this
  rw [this]
theorem dec_long {s : ByteArray} {p : Nat} (h0 : bt s p = 226) (h1 : bt s (p + 1) = 136) (h2 : bt s (p + 2) = 146) : Utf8.decode s p = (8722, 3) := by
  have l0 := bt_pos (s := s) (k := p) (by omega)
  have l1 := bt_pos (s := s) (k := p + 1) (by omega)
  have l2 := bt_pos (s := s) (k := p + 2) (by omega)
  have g0 := get_bt l0
  have g1 := get_bt l1
  have g2 := get_bt l2
  have e0 : (s.get! (p + 0)).toNat = 226 := by rw [Nat.add_zero]; omega
  have e1 : (s.get! (p + 1)).toNat = 136 := by omega
  have e2 : (s.get! (p + 2)).toNat = 146 := by omega
  simp only [Utf8.decode, e0, e1, e2, l1, l2]
  rw [if_neg (by decide), if_neg (by decide), if_pos (by decide), if_pos (by decide)]
theorem dec_other {s : ByteArray} {p : Nat} (hp : p < s.size) (hn : ¬ (bt s p = 226 ∧ bt s (p + 1) = 136 ∧ bt s (p + 2) = 146)) : (Utf8.decode s p).1 ≠ 8722 := by
  intro h
  have b0 : (s.get! (p + 0)).toNat < 256 := (s.get! (p + 0)).toNat_lt
  have b1 : (s.get! (p + 1)).toNat < 256 := (s.get! (p + 1)).toNat_lt
  have b2 : (s.get! (p + 2)).toNat < 256 := (s.get! (p + 2)).toNat_lt
  have g0 := get_bt hp
  have e0 : ((s.get! (p + 0)).toNat : Int) = bt s p := by rw [Nat.add_zero]; exact g0
  simp only [Utf8.decode] at h
  split at h
  · simp at h; omega
  · split at h
    · split at h
      · simp at h; omega
      · simp [Utf8.runeError] at h
    · split at h
      · rename_i hc
        split at h
        · simp only [Bool.and_eq_true, decide_eq_true_eq, beq_iff_eq] at hc
          obtain ⟨⟨hc0, hc1, hc2⟩, hc3, hc4⟩ := hc
          have g1 := get_bt hc1
          have g2 := get_bt hc3
          simp only at h
          exact hn ⟨by omega, by omega, by omega⟩
        · simp [Utf8.runeError] at h
      · split at h
        · split at h
          · rename_i hc
            simp only [Bool.and_eq_true, decide_eq_true_eq] at hc
            simp only at h
            omega
          · simp [Utf8.runeError] at h
        · simp [Utf8.runeError] at h
theorem bt_extract (s : ByteArray) (p k : Nat) : bt (s.extract p s.size) k = bt s (p + k) := by
  by_cases h : p + k < s.size
  · have hk : k < (s.extract p s.size).size := by simp [ByteArray.size_extract]; omega
    rw [bt_in h, bt_in hk]
    congr 2
    exact ByteArray.getElem_extract (h := hk)
  · rw [bt_out h, bt_out (by simp [ByteArray.size_extract]; omega)]
theorem scanF_fuel (s : ByteArray) : ∀ (f g pos : Nat) (st : PS), s.size ≤ pos + f → s.size ≤ pos + g → scanF s f pos st = scanF s g pos st
  | 0, g, pos, st, h1, h2 => by rw [scanF_end s 0 pos st (by omega), scanF_end s g pos st (by omega)]
  | f + 1, 0, pos, st, h1, h2 => by rw [scanF_end s 0 pos st (by omega), scanF_end s (f + 1) pos st (by omega)]
  | f + 1, g + 1, pos, st, h1, h2 => by
    rw [scanF, scanF]
    by_cases hp : pos < s.size
    · rw [if_pos hp, if_pos hp]
      have hw := wd_pos s pos hp
      cases takeP st pos (Utf8.decode s pos).1 with
      | none => rfl
      | some st' => exact scanF_fuel s f g _ st' (by omega) (by omega)
    · rw [if_neg hp, if_neg hp]
def TT (s : ByteArray) (pos : Nat) (st : PS) : Option (List (List Sp)) × Int := finP s (scanF s s.size pos st)
theorem TT_step {s : ByteArray} {pos : Nat} {st : PS} (hp : pos < s.size) : TT s pos st = match takeP st pos (Utf8.decode s pos).1 with
    | none => (none, (pos : Int) + bgP st.r.step (s.extract pos s.size))
    | some st' => TT s (pos + (Utf8.decode s pos).2) st' := by
  have hw := wd_pos s pos hp
  unfold TT
  rw [scanF_fuel s s.size (s.size + 1) pos st (by omega) (by omega), scanF, if_pos hp]
  cases takeP st pos (Utf8.decode s pos).1 with
  | none => rfl
  | some st' => rfl
theorem TT_end {s : ByteArray} {pos : Nat} {st : PS} (hp : ¬ pos < s.size) : TT s pos st = if mayE st.r true = true then (some (st.accs ++ [st.acc ++ [st.r.endN.sp]]), 0) else (none, (s.size : Int)) := by
  unfold TT
  rw [scanF_end s s.size pos st hp]
  rfl
theorem bgF_zero {t : ByteArray} (h : bt t 0 ≠ 226) : bgF t 3 0 = 0 := by rw [bgF, if_neg (by simpa [lm] using h)]
theorem bgP_step {st : Int} {t : ByteArray} (h : st ≠ 0) : bgP st t = 0 := if_neg h
theorem TT_ascii {s : ByteArray} {pos : Nat} {st : PS} (h0 : 0 ≤ bt s pos) (h1 : bt s pos < 128) : TT s pos st = match takeP st pos (bt s pos) with
    | none => (none, (pos : Int))
    | some st' => TT s (pos + 1) st' := by
  have hp := bt_pos h0
  have ha : (s[pos]'hp).toNat < 128 := by have := bt_in hp; omega
  rw [TT_step hp, Go.decode_ascii s pos hp ha, bt_in hp]
  cases takeP st pos (s[pos]'hp).toNat with
  | none =>
    have : bgP st.r.step (s.extract pos s.size) = 0 := by
      unfold bgP
      split
      · rw [bgF_zero (by rw [bt_extract, Nat.add_zero]; omega)]; rfl
      · rfl
    simp only [this, Int.add_zero]
  | some st' => rfl
theorem takeP_high {st : PS} {a c : Int} (h : 128 ≤ c) (hn : c ≠ 8722) : takeP st a c = none := by
  unfold takeP
  rw [if_neg (by omega), if_neg (by omega), if_neg (by omega), if_neg (by omega), if_neg (by omega)]
theorem TT_high {s : ByteArray} {pos : Nat} {st : PS} (h0 : 128 ≤ bt s pos) (hn : ¬ (bt s pos = 226 ∧ bt s (pos + 1) = 136 ∧ bt s (pos + 2) = 146)) : TT s pos st = (none, (pos : Int) + bgP st.r.step (s.extract pos s.size)) := by
  have hp := bt_pos (s := s) (k := pos) (by omega)
  have hd := (Go.decode_high s pos hp (by have := bt_in hp; omega)).1
  have hd2 := dec_other hp hn
  rw [TT_step hp, takeP_high (by omega) (by omega)]
theorem TT_long {s : ByteArray} {pos : Nat} {st : PS} (h0 : bt s pos = 226) (h1 : bt s (pos + 1) = 136) (h2 : bt s (pos + 2) = 146) : TT s pos st = if st.r.step = 0 then TT s (pos + 3) ⟨st.r.begin pos true, st.acc, st.accs⟩ else (none, (pos : Int)) := by
  have hp := bt_pos (s := s) (k := pos) (by omega)
  rw [TT_step hp, dec_long h0 h1 h2]
  by_cases hs : st.r.step = 0
  · have : takeP st pos ((8722 : Nat) : Int) = some ⟨st.r.begin pos true, st.acc, st.accs⟩ := by unfold takeP; rw [if_pos ⟨Or.inr rfl, hs⟩]
    simp only [this, if_pos hs]
  · have : takeP st pos ((8722 : Nat) : Int) = none := by unfold takeP; rw [if_neg (by omega), if_neg (by omega), if_neg (by omega), if_neg (by omega), if_neg (by omega)]
    simp only [this, if_neg hs, bgP_step hs, Int.add_zero]
theorem TT_no {s : ByteArray} {pos : Nat} {st : PS} (hpos : pos ≤ s.size) (hs : st.r.step ≠ 0) (hd : st.r.step = 3 ∨ ¬ (48 ≤ bt s pos ∧ bt s pos ≤ 57)) (hc : mayE st.r false = false ∨ bt s pos ≠ 44) (hb : mayE st.r true = false ∨ (bt s pos ≠ 32 ∧ bt s pos ≠ 59 ∧ pos < s.size)) : TT s pos st = (none, (pos : Int)) := by
  by_cases hp : pos < s.size
  · have h0 : 0 ≤ bt s pos := by rw [bt_in hp]; omega
    have ht : ∀ c, c = bt s pos ∨ 128 ≤ bt s pos ∧ 128 ≤ c → takeP st pos c = none := fun c hcc => by
      unfold takeP
      rw [if_neg (by omega), if_neg (by omega)]
      have hk : c = bt s pos ∨ 128 ≤ c := by omega
      have n1 : ¬ (c = 44 ∧ mayE st.r false = true) := by
        rintro ⟨e1, e2⟩
        rcases hc with e | e
        · rw [e] at e2; cases e2
        · omega
      have n2 : ¬ (c = 32 ∧ mayE st.r true = true) := by
        rintro ⟨e1, e2⟩
        rcases hb with e | e
        · rw [e] at e2; cases e2
        · omega
      have n3 : ¬ (c = 59 ∧ mayE st.r true = true) := by
        rintro ⟨e1, e2⟩
        rcases hb with e | e
        · rw [e] at e2; cases e2
        · omega
      rw [if_neg n1, if_neg n2, if_neg n3]
    by_cases ha : bt s pos < 128
    · rw [TT_ascii h0 ha, ht _ (Or.inl rfl)]
    · by_cases hl : bt s pos = 226 ∧ bt s (pos + 1) = 136 ∧ bt s (pos + 2) = 146
      · rw [TT_long hl.1 hl.2.1 hl.2.2, if_neg hs]
      · rw [TT_high (by omega) hl, bgP_step hs, Int.add_zero]
  · rw [TT_end hp]
    rcases hb with e | e
    · rw [e]; simp; omega
    · exact absurd e.2.2 hp
end Go.Proofs.YtkjlkbgdkdcboaaGreatDoor
namespace Go.Proofs.YtkjlkbgdkdcboaaGreatDoor
theorem onP_neg (s : ByteArray) (i : Nat) (c : Int) : onP s i (-1) c = decide (bt s i = c) := by simp [onP]
theorem digP_neg (s : ByteArray) (i : Nat) : digP s i (-1) = decide (48 ≤ bt s i ∧ bt s i ≤ 57) := by simp [digP]
theorem onP_bad {s : ByteArray} {i : Nat} {b c : Int} (h : 0 ≤ b) : onP s i b c = false := by simp [onP]; omega
theorem digP_bad {s : ByteArray} {i : Nat} {b : Int} (h : 0 ≤ b) : digP s i b = false := by simp [digP]; omega
theorem failed_bad {i b : Int} (h : 0 ≤ b) : failed i b = b := if_neg (by omega)
theorem failed_neg {i : Int} : failed i (-1) = i := if_pos (by omega)
def After (r r' : RS) (i : Nat) (v : Int) : Prop :=
  r'.half = r.half ∧ (match r.half with | false => r'.endN.sp.1 = ((i : Int), v) | true => r'.endN.sp = ((r.a0, r.v0), ((i : Int), v)))
def Stop (s : ByteArray) (r' : RS) (j : Nat) : Prop := r'.step = 3 ∨ (r'.step = 2 ∧ ¬ (48 ≤ bt s j ∧ bt s j ≤ 57))
def NumSim (s : ByteArray) (i : Nat) (st : PS) (x : Int × Nat × Int) : Prop :=
  (0 ≤ x.2.2 ∧ TT s i st = (none, x.2.2)) ∨
  (x.2.2 = -1 ∧ x.2.1 ≤ s.size ∧ i < x.2.1 ∧ ∃ r', TT s i st = TT s x.2.1 ⟨r', st.acc, st.accs⟩ ∧ After st.r r' i x.1 ∧ Stop s r' x.2.1)
theorem more_step (r : RS) (i : Int) (m : Bool) (d : Int) : ((r.begin i m).more d).step = 2 ∧ (((r.begin i m).more d).half = r.half) := by
  obtain ⟨st, mi, ha, a0, v0, a1, v1⟩ := r
  cases ha <;> simp [RS.begin, RS.more]
theorem after1 (r : RS) (i : Nat) (m : Bool) (d : Int) : After r ((r.begin i m).more d) i (if m then -(10 * 0 + d) else 10 * 0 + d) := by
  obtain ⟨st, mi, ha, a0, v0, a1, v1⟩ := r
  cases ha <;> cases m <;> simp [After, RS.begin, RS.more, RS.endN, RS.sp]
theorem after2 (r : RS) (i : Nat) (m : Bool) (d e : Int) : After r (((r.begin i m).more d).more e) i (if m then -(10 * (10 * 0 + d) + e) else 10 * (10 * 0 + d) + e) := by
  obtain ⟨st, mi, ha, a0, v0, a1, v1⟩ := r
  cases ha <;> cases m <;> simp [After, RS.begin, RS.more, RS.endN, RS.sp] <;> omega
theorem takeP_dig {st : PS} {a c : Int} (hc : 48 ≤ c ∧ c ≤ 57) (hs : st.r.step ≠ 3) : takeP st a c = some ⟨st.r.digit a (c - 48), st.acc, st.accs⟩ := by
  unfold takeP; rw [if_neg (by omega), if_pos ⟨hc, hs⟩]
theorem tail_sim (s : ByteArray) (i j : Nat) (m : Bool) (st : PS) (hij : i ≤ j)
    (hd : 48 ≤ bt s j ∧ bt s j ≤ 57 → TT s i st = TT s (j + 1) ⟨(st.r.begin i m).more (bt s j - 48), st.acc, st.accs⟩)
    (hn : ¬ (48 ≤ bt s j ∧ bt s j ≤ 57) → TT s i st = (none, (j : Int))) : NumSim s i st (tailN s m (j, -1)) := by
  unfold tailN
  simp only [digP_neg]
  by_cases h1 : 48 ≤ bt s j ∧ bt s j ≤ 57
  · rw [if_pos (decide_eq_true h1)]
    have hj := bt_pos (s := s) (k := j) (by omega)
    have hm := more_step st.r i m (bt s j - 48)
    by_cases h2 : 48 ≤ bt s (j + 1) ∧ bt s (j + 1) ≤ 57
    · rw [if_pos (decide_eq_true h2)]
      have hj2 := bt_pos (s := s) (k := j + 1) (by omega)
      refine Or.inr ⟨rfl, by simp only; omega, by simp only; omega, ((st.r.begin i m).more (bt s j - 48)).more (bt s (j + 1) - 48), ?_, ?_, Or.inl ?_⟩
      · rw [hd h1, TT_ascii (by omega) (by omega), takeP_dig h2 (by rw [hm.1]; decide)]
        simp only [RS.digit, hm.1]
        rfl
      · have := after2 st.r i m (bt s j - 48) (bt s (j + 1) - 48)
        exact this
      · have : ∀ (r : RS) (d : Int), (r.more d).step = r.step + 1 := fun r d => by
          obtain ⟨st, mi, ha, a0, v0, a1, v1⟩ := r
          cases ha <;> rfl
        rw [this, hm.1]; rfl
    · rw [if_neg (by rw [decide_eq_true_eq]; exact h2)]
      exact Or.inr ⟨rfl, by simp only; omega, by simp only; omega, (st.r.begin i m).more (bt s j - 48), hd h1, after1 st.r i m (bt s j - 48), Or.inr ⟨hm.1, h2⟩⟩
  · rw [if_neg (by rw [decide_eq_true_eq]; exact h1)]
    refine Or.inl ⟨?_, ?_⟩
    · simp only [failed_neg]; omega
    · simp only [failed_neg]; exact hn h1
theorem mayE_step {r : RS} {h : Bool} (h2 : r.step ≠ 2) (h3 : r.step ≠ 3) : mayE r h = false := by
  unfold mayE
  have e1 : (r.step == 2) = false := by simpa using h2
  have e2 : (r.step == 3) = false := by simpa using h3
  rw [e1, e2]; simp
theorem begin_step (r : RS) (a : Int) (m : Bool) : (r.begin a m).step = 1 := by
  obtain ⟨st, mi, ha, a0, v0, a1, v1⟩ := r
  cases ha <;> rfl
theorem TT_no0 {s : ByteArray} {pos : Nat} {st : PS} (hpos : pos ≤ s.size) (hs : st.r.step = 0) (h1 : bt s pos ≠ 45) (h2 : bt s pos ≠ 226) (hd : ¬ (48 ≤ bt s pos ∧ bt s pos ≤ 57)) : TT s pos st = (none, (pos : Int)) := by
  have m0 := mayE_step (r := st.r) (h := false) (by omega) (by omega)
  have m1 := mayE_step (r := st.r) (h := true) (by omega) (by omega)
  by_cases hp : pos < s.size
  · have h0 : 0 ≤ bt s pos := by rw [bt_in hp]; omega
    by_cases ha : bt s pos < 128
    · rw [TT_ascii h0 ha]
      have : takeP st pos (bt s pos) = none := by
        unfold takeP
        rw [if_neg (by omega), if_neg (by omega), if_neg (by rw [m0]; simp), if_neg (by rw [m1]; simp), if_neg (by rw [m1]; simp)]
      rw [this]
    · rw [TT_high (by omega) (by omega)]
      have : bgP st.r.step (s.extract pos s.size) = 0 := by
        unfold bgP; rw [if_pos hs, bgF_zero (by rw [bt_extract, Nat.add_zero]; exact h2)]; rfl
      rw [this, Int.add_zero]
  · rw [TT_end hp, m1]; simp; omega
theorem num_sim (s : ByteArray) (i : Nat) (st : PS) (h0 : st.r.step = 0) (hi : i ≤ s.size) : NumSim s i st (numP s i (-1)) := by
  have hbs := begin_step st.r i true
  -- behind a sign
  have sign : ∀ j, i ≤ j → j ≤ s.size → TT s i st = TT s j ⟨st.r.begin i true, st.acc, st.accs⟩ → NumSim s i st (tailN s true (j, -1)) := fun j hij hj he =>
    tail_sim s i j true st hij
      (fun hd => by
        rw [he, TT_ascii (by omega) (by omega), takeP_dig hd (by simp only; omega)]
        simp only [RS.digit, hbs]
        rfl)
      (fun hn => by
        rw [he]
        exact TT_no hj (by simp only; omega) (Or.inr hn) (Or.inl (mayE_step (by simp only; omega) (by simp only; omega))) (Or.inl (mayE_step (by simp only; omega) (by simp only; omega))))
  unfold numP
  by_cases h45 : bt s i = 45
  · have e1 : signM s i (-1) = true := by simp [signM, onP_neg, h45]
    have e2 : signS s i (-1) = (i + 1, -1) := by simp [signS, onP_neg, h45, gotI]
    rw [e1, e2]
    have hp := bt_pos (s := s) (k := i) (by omega)
    refine sign (i + 1) (by omega) (by omega) ?_
    rw [TT_ascii (by omega) (by omega)]
    have : takeP st i (bt s i) = some ⟨st.r.begin i true, st.acc, st.accs⟩ := by unfold takeP; rw [if_pos ⟨Or.inl h45, h0⟩]
    rw [this]
  · have g0 : gotI s i (-1) 45 = i := by simp [gotI, onP_neg, h45]
    by_cases h226 : bt s i = 226
    · have hp := bt_pos (s := s) (k := i) (by omega)
      have e1 : signM s i (-1) = true := by simp [signM, onP_neg, g0, h226]
      have e2 : signS s i (-1) = mustS s (mustS s (i + 1, -1) 136) 146 := by
        simp [signS, onP_neg, h226, mustS, gotI, mustB]
      rw [e1, e2]
      have hb : ∀ k, bt (s.extract i s.size) k = bt s (i + k) := bt_extract s i
      by_cases h136 : bt s (i + 1) = 136
      · have hp1 := bt_pos (s := s) (k := i + 1) (by omega)
        have e3 : mustS s (i + 1, -1) 136 = (i + 2, -1) := by simp [mustS, gotI, mustB, onP_neg, h136]
        rw [e3]
        by_cases h146 : bt s (i + 2) = 146
        · have hp2 := bt_pos (s := s) (k := i + 2) (by omega)
          have e4 : mustS s (i + 2, -1) 146 = (i + 3, -1) := by simp [mustS, gotI, mustB, onP_neg, h146]
          rw [e4]
          refine sign (i + 3) (by omega) (by omega) ?_
          rw [TT_long h226 h136 h146, if_pos h0]
        · have e4 : mustS s (i + 2, -1) 146 = (i + 2, (i + 2 : Int)) := by simp [mustS, gotI, mustB, onP_neg, h146, failed_neg]
          rw [e4]
          have e5 : tailN s true (i + 2, (i + 2 : Int)) = (0, i + 2, (i + 2 : Int)) := by
            simp only [tailN, digP_bad (show (0 : Int) ≤ (i + 2 : Int) by omega), failed_bad (show (0 : Int) ≤ (i + 2 : Int) by omega)]; simp
          rw [e5]
          refine Or.inl ⟨by simp only; omega, ?_⟩
          rw [TT_high (by omega) (by omega)]
          have : bgP st.r.step (s.extract i s.size) = 2 := by
            unfold bgP; rw [if_pos h0]
            rw [bgF, if_pos (by rw [hb]; simpa [lm] using h226), bgF, if_pos (by rw [hb]; simpa [lm] using h136), bgF, if_neg (by rw [hb]; simpa [lm] using h146)]; rfl
          rw [this]
      · have e3 : mustS s (i + 1, -1) 136 = (i + 1, (i + 1 : Int)) := by simp [mustS, gotI, mustB, onP_neg, h136, failed_neg]
        have e4 : mustS s (i + 1, (i + 1 : Int)) 146 = (i + 1, (i + 1 : Int)) := by
          simp only [mustS, gotI, mustB, onP_bad (show (0 : Int) ≤ (i + 1 : Int) by omega), failed_bad (show (0 : Int) ≤ (i + 1 : Int) by omega)]; simp
        rw [e3, e4]
        have e5 : tailN s true (i + 1, (i + 1 : Int)) = (0, i + 1, (i + 1 : Int)) := by
          simp only [tailN, digP_bad (show (0 : Int) ≤ (i + 1 : Int) by omega), failed_bad (show (0 : Int) ≤ (i + 1 : Int) by omega)]; simp
        rw [e5]
        refine Or.inl ⟨by simp only; omega, ?_⟩
        rw [TT_high (by omega) (by omega)]
        have : bgP st.r.step (s.extract i s.size) = 1 := by
          unfold bgP; rw [if_pos h0]
          rw [bgF, if_pos (by rw [hb]; simpa [lm] using h226), bgF, if_neg (by rw [hb]; simpa [lm] using h136)]; rfl
        rw [this]
    · have e1 : signM s i (-1) = false := by simp [signM, onP_neg, g0, h226, h45]
      have e2 : signS s i (-1) = (i, -1) := by simp [signS, onP_neg, g0, h226, h45]
      rw [e1, e2]
      refine tail_sim s i i false st (Nat.le_refl _) (fun hd => ?_) (fun hn => TT_no0 hi h0 h45 h226 hn)
      rw [TT_ascii (by omega) (by omega), takeP_dig hd (by omega)]
      simp only [RS.digit, h0]
      rfl
end Go.Proofs.YtkjlkbgdkdcboaaGreatDoor
namespace Go.Proofs.YtkjlkbgdkdcboaaGreatDoor
def fl (p : Sp) : List (Int × Int) := [(p.1.2, p.1.1), (p.2.2, p.2.1)]
theorem numP_bad {s : ByteArray} {i : Nat} {b : Int} (h : 0 ≤ b) : (numP s i b).2 = (i, b) := by
  have e1 : signS s i b = (i, b) := by
    simp only [signS, gotI, onP_bad h]; simp
  unfold numP
  rw [e1]
  simp only [tailN, digP_bad h, failed_bad h]
  simp
theorem mustS_bad {s : ByteArray} {i : Nat} {b c : Int} (h : 0 ≤ b) : mustS s (i, b) c = (i, b) := by
  simp only [mustS, gotI, mustB, onP_bad h, failed_bad h]; simp
theorem mustS_yes {s : ByteArray} {i : Nat} {c : Int} (h : bt s i = c) : mustS s (i, -1) c = (i + 1, -1) := by
  simp [mustS, gotI, mustB, onP_neg, h]
theorem mustS_no {s : ByteArray} {i : Nat} {c : Int} (h : bt s i ≠ c) : mustS s (i, -1) c = (i, (i : Int)) := by
  simp [mustS, gotI, mustB, onP_neg, h, failed_neg]
theorem stop_mayE {s : ByteArray} {r : RS} {j : Nat} (h : Stop s r j) : mayE r r.half = true := by
  unfold mayE
  rcases h with e | ⟨e, _⟩ <;> simp [e]
theorem mayE_half {r : RS} {h : Bool} (hh : r.half ≠ h) : mayE r h = false := by
  unfold mayE
  cases hr : r.half <;> cases h <;> simp_all [hI]
theorem stop_step {s : ByteArray} {r : RS} {j : Nat} (h : Stop s r j) : r.step ≠ 0 := by rcases h with e | ⟨e, _⟩ <;> omega
theorem endN_step (r : RS) : r.endN.step = 0 := by
  obtain ⟨st, mi, ha, a0, v0, a1, v1⟩ := r
  cases ha <;> rfl
theorem stop_dig {s : ByteArray} {r : RS} {j : Nat} (h : Stop s r j) : r.step = 3 ∨ ¬ (48 ≤ bt s j ∧ bt s j ≤ 57) := by
  rcases h with e | ⟨_, e⟩
  · exact Or.inl e
  · exact Or.inr e
def PointSim (s : ByteArray) (i : Nat) (st : PS) : Prop :=
  (0 ≤ (pointE s i (-1)).2 ∧ TT s i st = (none, (pointE s i (-1)).2)) ∨
  ((pointE s i (-1)).2 = -1 ∧ (pointE s i (-1)).1 ≤ s.size ∧ i < (pointE s i (-1)).1 ∧ ∃ r', r'.half = true ∧ Stop s r' (pointE s i (-1)).1 ∧ TT s i st = TT s (pointE s i (-1)).1 ⟨r', st.acc, st.accs⟩ ∧ pointL s i (-1) = fl r'.endN.sp)
theorem point_sim (s : ByteArray) (i : Nat) (st : PS) (h0 : st.r.step = 0) (hh : st.r.half = false) (hi : i ≤ s.size) : PointSim s i st := by
  unfold PointSim pointE pointL
  obtain ⟨X, hX⟩ : ∃ X, numP s i (-1) = X := ⟨_, rfl⟩
  have n1 := num_sim s i st h0 hi
  rw [hX] at n1
  simp only [hX]
  obtain ⟨v1, j, bd⟩ := X
  rcases n1 with ⟨hb, ht⟩ | ⟨hb, hj, hij, r1, ht, ⟨hr1, hA⟩, hS⟩
  · simp only at hb ht
    left
    rw [mustS_bad hb, numP_bad hb]
    exact ⟨hb, ht⟩
  · simp only at hb hj hij ht hS hA
    subst hb
    rw [hh] at hr1 hA
    simp only at hA
    by_cases h44 : bt s j = 44
    · have hjl := bt_pos (s := s) (k := j) (by omega)
      rw [mustS_yes h44]
      have hm : mayE r1 false = true := by have := stop_mayE hS; rw [hr1] at this; exact this
      have ht2 : TT s i st = TT s (j + 1) ⟨{ r1.endN with half := true }, st.acc, st.accs⟩ := by
        rw [ht, TT_ascii (by omega) (by omega)]
        have : takeP ⟨r1, st.acc, st.accs⟩ j (bt s j) = some ⟨{ r1.endN with half := true }, st.acc, st.accs⟩ := by
          unfold takeP; rw [if_neg (by omega), if_neg (by omega), if_pos ⟨h44, hm⟩]
        rw [this]
      have n2 := num_sim s (j + 1) ⟨{ r1.endN with half := true }, st.acc, st.accs⟩ (endN_step r1) (by omega)
      obtain ⟨Y, hY⟩ : ∃ Y, numP s (j + 1) (-1) = Y := ⟨_, rfl⟩
      rw [hY] at n2
      simp only [hY]
      obtain ⟨v2, k, bd2⟩ := Y
      rcases n2 with ⟨hb2, ht3⟩ | ⟨hb2, hk, hjk, r2, ht3, ⟨hr2, hA2⟩, hS2⟩
      · simp only at hb2 ht3
        exact Or.inl ⟨hb2, by rw [ht2, ht3]⟩
      · simp only at hb2 hk hjk ht3 hS2 hA2 hr2
        refine Or.inr ⟨hb2, hk, by simp only; omega, r2, hr2, hS2, by rw [ht2, ht3], ?_⟩
        rw [hA2]
        have e1 : r1.endN.a0 = i := congrArg Prod.fst hA
        have e2 : r1.endN.v0 = v1 := congrArg Prod.snd hA
        simp [fl, e1, e2]
    · rw [mustS_no h44, numP_bad (by omega)]
      refine Or.inl ⟨by simp, ?_⟩
      rw [ht]
      exact TT_no hj (stop_step hS) (stop_dig hS) (Or.inr h44) (Or.inl (mayE_half (by simp only; rw [hr1]; simp)))
def RowSim (s : ByteArray) (n i : Nat) (st : PS) : Prop :=
  (0 ≤ (rowF s n i (-1)).2.2 ∧ TT s i st = (none, (rowF s n i (-1)).2.2)) ∨
  ((rowF s n i (-1)).2.2 = -1 ∧ (rowF s n i (-1)).2.1 ≤ s.size ∧ i < (rowF s n i (-1)).2.1 ∧ bt s (rowF s n i (-1)).2.1 ≠ 32 ∧
    ∃ r' ps, r'.half = true ∧ Stop s r' (rowF s n i (-1)).2.1 ∧ TT s i st = TT s (rowF s n i (-1)).2.1 ⟨r', st.acc ++ ps, st.accs⟩ ∧ (rowF s n i (-1)).1 = (ps ++ [r'.endN.sp]).flatMap fl)
theorem row_sim (s : ByteArray) : ∀ (n i : Nat) (st : PS), st.r.step = 0 → st.r.half = false → i ≤ s.size → s.size < i + n → RowSim s n i st
  | 0, i, st, h0, hh, hi, hn => by omega
  | n + 1, i, st, h0, hh, hi, hn => by
    have p := point_sim s i st h0 hh hi
    unfold RowSim
    unfold PointSim at p
    rw [rowF]
    obtain ⟨P, hP⟩ : ∃ P, pointE s i (-1) = P := ⟨_, rfl⟩
    simp only [hP] at p ⊢
    obtain ⟨j, bd⟩ := P
    rcases p with ⟨hb, ht⟩ | ⟨hb, hj, hij, r', hr, hS, ht, hL⟩
    · simp only at hb ht
      simp only [onP_bad hb]
      exact Or.inl ⟨hb, ht⟩
    · simp only at hb hj hij hS ht
      subst hb
      simp only [onP_neg]
      have hm : mayE r' true = true := by have := stop_mayE hS; rw [hr] at this; exact this
      by_cases h32 : bt s j = 32
      · have hjl := bt_pos (s := s) (k := j) (by omega)
        rw [if_pos (decide_eq_true h32)]
        have ht2 : TT s i st = TT s (j + 1) ⟨{ r'.endN with half := false }, st.acc ++ [r'.endN.sp], st.accs⟩ := by
          rw [ht, TT_ascii (by omega) (by omega)]
          have : takeP ⟨r', st.acc, st.accs⟩ j (bt s j) = some ⟨{ r'.endN with half := false }, st.acc ++ [r'.endN.sp], st.accs⟩ := by
            unfold takeP; rw [if_neg (by omega), if_neg (by omega), if_neg (by omega), if_pos ⟨h32, hm⟩]
          rw [this]
        have q := row_sim s n (j + 1) ⟨{ r'.endN with half := false }, st.acc ++ [r'.endN.sp], st.accs⟩ (endN_step r') rfl (by omega) (by omega)
        unfold RowSim at q
        rcases q with ⟨qb, qt⟩ | ⟨qb, qj, qij, q32, r2, ps, qr, qS, qt, qL⟩
        · exact Or.inl ⟨qb, by rw [ht2, qt]⟩
        · refine Or.inr ⟨qb, qj, by simp only; omega, q32, r2, r'.endN.sp :: ps, qr, qS, ?_, ?_⟩
          · rw [ht2, qt]; simp
          · rw [hL, qL]; simp
      · rw [if_neg (by rw [decide_eq_true_eq]; exact h32)]
        exact Or.inr ⟨rfl, hj, hij, h32, r', [], hr, hS, by rw [ht]; simp, by rw [hL]; simp⟩
def RingsSim (s : ByteArray) (n i : Nat) (st : PS) : Prop :=
  (0 ≤ badAt s.size (ringsF s n i (-1)).2.1 (ringsF s n i (-1)).2.2 ∧ TT s i st = (none, badAt s.size (ringsF s n i (-1)).2.1 (ringsF s n i (-1)).2.2)) ∨
  (badAt s.size (ringsF s n i (-1)).2.1 (ringsF s n i (-1)).2.2 = -1 ∧ ∃ Rs, TT s i st = (some (st.accs ++ Rs), 0) ∧ (ringsF s n i (-1)).1 = Rs.map (fun r => r.flatMap fl))
theorem badAt_bad {n j : Nat} {b : Int} (h : 0 ≤ b) : badAt n j b = b := by
  unfold badAt; split
  · exact failed_bad h
  · rfl
theorem rings_sim (s : ByteArray) : ∀ (n i : Nat) (st : PS), st.r.step = 0 → st.r.half = false → st.acc = [] → i ≤ s.size → s.size < i + n → RingsSim s n i st
  | 0, i, st, h0, hh, ha, hi, hn => by omega
  | n + 1, i, st, h0, hh, ha, hi, hn => by
    have p := row_sim s (s.size + 1) i st h0 hh hi (by omega)
    unfold RingsSim
    unfold RowSim at p
    rw [ringsF]
    obtain ⟨P, hP⟩ : ∃ P, rowF s (s.size + 1) i (-1) = P := ⟨_, rfl⟩
    simp only [hP] at p ⊢
    obtain ⟨L, j, bd⟩ := P
    rcases p with ⟨hb, ht⟩ | ⟨hb, hj, hij, h32, r', ps, hr, hS, ht, hL⟩
    · simp only at hb ht
      simp only [onP_bad hb]
      left
      rw [if_neg (by simp)]
      simp only [badAt_bad hb]
      exact ⟨hb, ht⟩
    · simp only at hb hj hij h32 hS ht hL
      subst hb
      rw [ha, List.nil_append] at ht
      simp only [onP_neg]
      have hm : mayE r' true = true := by have := stop_mayE hS; rw [hr] at this; exact this
      by_cases h59 : bt s j = 59
      · have hjl := bt_pos (s := s) (k := j) (by omega)
        rw [if_pos (decide_eq_true h59)]
        have ht2 : TT s i st = TT s (j + 1) ⟨{ r'.endN with half := false }, [], st.accs ++ [ps ++ [r'.endN.sp]]⟩ := by
          rw [ht, TT_ascii (by omega) (by omega)]
          have : takeP ⟨r', ps, st.accs⟩ j (bt s j) = some ⟨{ r'.endN with half := false }, [], st.accs ++ [ps ++ [r'.endN.sp]]⟩ := by
            unfold takeP; rw [if_neg (by omega), if_neg (by omega), if_neg (by omega), if_neg (by omega), if_pos ⟨h59, hm⟩]
          rw [this]
        have q := rings_sim s n (j + 1) ⟨{ r'.endN with half := false }, [], st.accs ++ [ps ++ [r'.endN.sp]]⟩ (endN_step r') rfl rfl (by omega) (by omega)
        unfold RingsSim at q
        rcases q with ⟨qb, qt⟩ | ⟨qb, Rs, qt, qL⟩
        · exact Or.inl ⟨qb, by rw [ht2, qt]⟩
        · refine Or.inr ⟨qb, (ps ++ [r'.endN.sp]) :: Rs, ?_, ?_⟩
          · rw [ht2, qt]; simp
          · rw [hL, qL]; simp
      · rw [if_neg (by rw [decide_eq_true_eq]; exact h59)]
        by_cases hjl : j < s.size
        · left
          have e : badAt s.size j (-1) = j := by unfold badAt; rw [if_pos hjl, failed_neg]
          simp only [e]
          refine ⟨by omega, ?_⟩
          rw [ht]
          exact TT_no (by omega) (stop_step hS) (stop_dig hS) (Or.inl (mayE_half (by simp only; rw [hr]; simp))) (Or.inr ⟨h32, h59, hjl⟩)
        · right
          have e : badAt s.size j (-1) = -1 := by unfold badAt; rw [if_neg hjl]
          simp only [e]
          refine ⟨trivial, [ps ++ [r'.endN.sp]], ?_, ?_⟩
          · rw [ht, TT_end hjl, if_pos hm]
          · rw [hL]; simp
theorem scan_rings (s : ByteArray) : (0 ≤ (ringsP s).2 ∧ scanP s = (none, (ringsP s).2)) ∨ ((ringsP s).2 = -1 ∧ ∃ R, scanP s = (some R, 0) ∧ (ringsP s).1 = R.map (fun r => r.flatMap fl)) := by
  by_cases h0 : s.size = 0
  · right
    rw [ringsP, if_pos h0, scanP, if_pos h0]
    exact ⟨rfl, [], rfl, rfl⟩
  · have q := rings_sim s (s.size + 1) 0 init rfl rfl rfl (by omega) (by omega)
    unfold RingsSim at q
    rw [ringsP, if_neg h0, scanP, if_neg h0]
    simp only [TT] at q
    rcases q with ⟨qb, qt⟩ | ⟨qb, Rs, qt, qL⟩
    · exact Or.inl ⟨qb, qt⟩
    · exact Or.inr ⟨qb, Rs, by rw [qt]; simp [init], qL⟩
end Go.Proofs.YtkjlkbgdkdcboaaGreatDoor

set_option linter.unusedSimpArgs false
set_option linter.unusedVariables false
namespace Go.Proofs.YtkjlkbgdkdcboaaGreatDoor
open Go.RowKit
attribute [local go_sem ↓] Go.wp_at_zero Go.wp_at_succ
def wSide (n p : Int × Int) : Int × Int := if (12 < n.1 ∨ n.1 < -12) ∧ (p.1 = 0 ∨ n.2 < p.2 ∨ (n.2 = p.2 ∧ p.1 ≠ 5)) then (5, n.2) else p
def wMany (k : Nat) (n p : Int × Int) : Int × Int := if k = 12 ∧ (p.1 = 0 ∨ n.2 < p.2) then (3, n.2) else p
def wNums : Nat → List (Int × Int) → Int × Int → Int × Int
  | _, [], p => p
  | k, n :: r, p => wNums (k + 1) r (wMany k n (wSide n p))
def wHead (i : Nat) (r : List (Int × Int)) (p : Int × Int) : Int × Int :=
  if (2 ≤ i ∨ r.length < 6) ∧ (p.1 = 0 ∨ (r.headD (0, 0)).2 < p.2) then (if 2 ≤ i then 3 else 4, (r.headD (0, 0)).2) else p
def wRings : Nat → List (List (Int × Int)) → Int × Int → Int × Int
  | _, [], p => p
  | i, r :: R, p => wRings (i + 1) R (wNums 0 r (wHead i r p))
theorem wNums_app (k : Nat) (a b : List (Int × Int)) (p : Int × Int) : wNums k (a ++ b) p = wNums (k + a.length) b (wNums k a p) := by
  induction a generalizing k p with
  | nil => rfl
  | cons x r ih => simp only [List.cons_append, wNums, ih, List.length_cons]; congr 1; omega
set_option maxRecDepth 100000 in
set_option maxHeartbeats 4000000 in
theorem wrong_any (R : List (List (Int × Int))) (v : Value) (w : World) (hR : Rings w v R) (hne : ∀ r ∈ R, r ≠ []) (hn : R.length ≤ 10000) (hm : ∀ r ∈ R, r.length ≤ 10000) :
    Calls Tryz.prog 30 #[v] w fun e w' => e = .returned (.tuple #[.int .i64 (wRings 0 R (0, 0)).1, .int .i64 (wRings 0 R (0, 0)).2]) ∧ Below w.heap.size w w' := by
  obtain ⟨ga, b, off, cap, rfl, hga, hcs⟩ := hR
  obtain ⟨F, hF⟩ : ∃ F, wRings 0 R (0, 0) = F := ⟨_, rfl⟩
  rw [hF]
  have HF := hide hF
  clear hF
  go_enter Tryz.func30, Tryz.ntmps30
  go_wp2
  go_loopw [4, 5, 6] (fun e a i wr => ∃ (k : Nat) (ev av : Int), e = .int .i64 ev ∧ a = .int .i64 av ∧ i = .int .i64 k ∧ k ≤ R.length ∧ Hid (Below w.heap.size w wr ∧ wRings k (R.drop k) (ev, av) = F)) (fun _ _ i _ => R.length - (intOf i).toNat)
  case atStart => exact ⟨0, 0, 0, rfl, rfl, rfl, Nat.zero_le _, Below.refl _ _, HF.out⟩
  case round =>
    obtain ⟨k, ev, av, rfl, rfl, rfl, hk, hw⟩ := hrel
    by_cases hlt : k < R.length
    · obtain rfl := hga (by omega)
      obtain ⟨s, hs, hring⟩ := hcs k hlt
      have hml := hm R[k] (List.getElem_mem hlt)
      have hnr := hne R[k] (List.getElem_mem hlt)
      have hdrop : R.drop k = R[k] :: R.drop (k + 1) := (List.getElem_cons_drop hlt).symm
      obtain ⟨ra, rb, roff, rcap, rfl, hra, hpts⟩ := hring
      have hw1 := hw.out.1
      have hF2 := hw.out.2
      rw [hdrop] at hF2
      generalize R[k] = r at *
      have HF2 := hide (show wRings (k + 1) (R.drop (k + 1)) (wNums 0 r (wHead k r (ev, av))) = F from hF2)
      clear hF2 hdrop
      have hrp : 0 < r.length := List.length_pos_iff.2 hnr
      obtain ⟨rfl, hrb⟩ := hra hrp
      obtain ⟨p0, p1⟩ := (hpts.later hw1) 0 hrp
      have hs' := cell_later hw1 hs
      have hhd : r.headD (0, 0) = r[0] := by cases r with | nil => exact absurd rfl hnr | cons a t => rfl
      have hH : wHead k r (ev, av) = if (2 ≤ k ∨ r.length < 6) ∧ (ev = 0 ∨ r[0].2 < av) then ((if 2 ≤ k then 3 else 4 : Int), r[0].2) else (ev, av) := by rw [wHead, hhd]
      have HH := hide hH
      clear hH hhd
      have hk0 : (0 : Int) ≤ (k : Int) := Int.natCast_nonneg _
      have hk1 : (k : Int) < (R.length : Int) := by omega
      have hr0 : (0 : Int) < (r.length : Int) := by omega
      simp only [Nat.zero_mul, Nat.add_zero] at p0 p1
      generalize r[0] = n0 at *
      have Hw := hide hw1
      have Hs := hide hs
      have Hpts := hide hpts
      clear hw hw1 hs hpts
      obtain ⟨D, hD⟩ : ∃ D, D = decide ((2 ≤ k ∨ r.length < 6) ∧ (ev = 0 ∨ n0.2 < av)) := ⟨_, rfl⟩
      have HD := hide hD
      clear hD
      obtain ⟨M, hM⟩ : ∃ M, M = decide ((2 : Int) ≤ (k : Int)) := ⟨_, rfl⟩
      have HM := hide hM
      clear hM
      go_upto_region 7 with fail
      go_cut [7, 41] (fun m t wc => wc = wr ∧ m = .bool M ∧ t = .bool D)
      case first =>
        by_cases h2 : 2 ≤ k
        · have h2' : (2 : Int) ≤ (k : Int) := by omega
          have HMv := hide (show M = true by rw [HM.out]; exact decide_eq_true h2')
          by_cases h3 : ev = 0
          · have HDv := hide (show D = true by rw [HD.out]; simp [h2, h3])
            subst h3
            go_wp2_with fail
            go_meet
            case rel => exact ⟨rfl, by rw [HMv.out], by rw [HDv.out]⟩
          · have h3b : (ev == 0) = false := by simpa using h3
            have HDv := hide (show D = decide (n0.2 < av) by rw [HD.out]; simp [h2, h3])
            clear h3
            go_wp2_with fail
            go_meet
            case rel => exact ⟨rfl, by rw [HMv.out], by rw [HDv.out]⟩
        · have h2' : ¬ (2 : Int) ≤ (k : Int) := by omega
          have HMv := hide (show M = false by rw [HM.out]; exact decide_eq_false h2')
          by_cases h6 : r.length < 6
          · have h6' : (r.length : Int) < 6 := by omega
            by_cases h3 : ev = 0
            · have HDv := hide (show D = true by rw [HD.out]; simp [h6, h3])
              subst h3
              go_wp2_with fail
              go_meet
              case rel => exact ⟨rfl, by rw [HMv.out], by rw [HDv.out]⟩
            · have h3b : (ev == 0) = false := by simpa using h3
              have HDv := hide (show D = decide (n0.2 < av) by rw [HD.out]; simp [h6, h3])
              clear h3
              go_wp2_with fail
              go_meet
              case rel => exact ⟨rfl, by rw [HMv.out], by rw [HDv.out]⟩
          · have h6' : ¬ (r.length : Int) < 6 := by omega
            have HDv := hide (show D = false by rw [HD.out]; simp [h6, h2])
            go_wp2_with fail
            go_meet
            case rel => exact ⟨rfl, by rw [HMv.out], by rw [HDv.out]⟩
      case rest =>
        obtain ⟨rfl, rfl, rfl⟩ := hcut
        obtain ⟨E, hE⟩ : ∃ E, wHead k r (ev, av) = E := ⟨_, rfl⟩
        rw [hE] at HF2 HH
        clear hE
        go_upto_if 41 with fail
        go_cut [4, 5, 7] (fun e5 a5 m wx => wx = wc ∧ m = .bool M ∧ e5 = .int .i64 E.1 ∧ a5 = .int .i64 E.2)
        case first =>
          cases hDc : D with
          | false =>
            have HE := hide (show E = (ev, av) by
              have hd := HD.out; rw [hDc] at hd
              rw [HH.out, if_neg (of_decide_eq_false hd.symm)])
            subst hDc
            go_wp2_with fail
            go_meet
            case rel => exact ⟨rfl, rfl, by rw [HE.out], by rw [HE.out]⟩
          | true =>
            have hE1 : E = ((if 2 ≤ k then 3 else 4 : Int), n0.2) := by
              have hd := HD.out; rw [hDc] at hd
              rw [HH.out, if_pos (of_decide_eq_true hd.symm)]
            subst hDc
            by_cases h2 : 2 ≤ k
            · have h2' : (2 : Int) ≤ (k : Int) := by omega
              have hMv : M = true := by rw [HM.out]; exact decide_eq_true h2'
              have HE := hide (show E = (3, n0.2) by rw [hE1, if_pos h2])
              clear hE1 HM
              subst hMv
              go_wp2_with fail
              go_meet
              case rel => exact ⟨rfl, rfl, by rw [HE.out], by rw [HE.out]⟩
            · have h2' : ¬ (2 : Int) ≤ (k : Int) := by omega
              have hMv : M = false := by rw [HM.out]; exact decide_eq_false h2'
              have HE := hide (show E = (4, n0.2) by rw [hE1, if_neg h2])
              clear hE1 HM
              subst hMv
              go_wp2_with fail
              go_meet
              case rel => exact ⟨rfl, rfl, by rw [HE.out], by rw [HE.out]⟩
        case rest =>
          obtain ⟨rfl, rfl, rfl, rfl⟩ := hcut
          clear p0 p1 HH HD hs'
          go_wp2_with fail
          go_loopw [4, 5, 8] (fun e a i wr => ∃ (j : Nat) (q : Int × Int), e = .int .i64 q.1 ∧ a = .int .i64 q.2 ∧ i = .int .i64 j ∧ j ≤ r.length ∧ Hid (Below w.heap.size w wr ∧ q = wNums 0 (r.take j) E)) (fun _ _ i _ => r.length - (intOf i).toNat)
          case atStart => exact ⟨0, E, rfl, rfl, rfl, Nat.zero_le _, Hw.out, rfl⟩
          case round =>
            obtain ⟨j, q, rfl, rfl, rfl, hj, hr2⟩ := hrel
            obtain ⟨hw5, hq⟩ := hr2.out
            have hs5 := cell_later hw5 Hs.out
            clear hr2 Hw
            by_cases hjl : j < r.length
            · obtain ⟨p0, p1⟩ := (Hpts.out.later hw5) j hjl
              have hst : r.take (j + 1) = r.take j ++ [r[j]] := List.take_succ_eq_append_getElem hjl
              have hjk : (r.take j).length = j := by rw [List.length_take]; omega
              have Hst := hide (show wNums 0 (r.take (j + 1)) E = wMany j r[j] (wSide r[j] q) by rw [hst, wNums_app, ← hq, hjk, Nat.zero_add]; rfl)
              have hj0 : (0 : Int) ≤ (j : Int) := Int.natCast_nonneg _
              have hj1 : (j : Int) < (r.length : Int) := by omega
              clear hst hjk hq
              generalize r[j] = n at *
              obtain ⟨B, hB⟩ : ∃ B, B = decide (12 < n.1 ∨ n.1 < -12) := ⟨_, rfl⟩
              have HB := hide hB
              clear hB
              go_upto_region 16 with fail
              go_cut [73] (fun t wx => wx = wr.alloc (.cells #[.int .i64 n.1, .int .i64 n.2] 83) ∧ t = .bool B)
              case first =>
                by_cases h1 : 12 < n.1
                · have HBv := hide (show B = true by rw [HB.out]; simp [h1])
                  go_wp2_with fail
                  go_meet
                  case rel => exact ⟨rfl, by rw [HBv.out]⟩
                · have HBv := hide (show B = decide (n.1 < -12) by rw [HB.out]; simp [h1])
                  go_wp2_with fail
                  go_meet
                  case rel => exact ⟨rfl, by rw [HBv.out]⟩
              case rest =>
                obtain ⟨rfl, rfl⟩ := hcut
                obtain ⟨S, hS⟩ : ∃ S, wSide n q = S := ⟨_, rfl⟩
                rw [hS] at Hst
                have HS := hide hS
                clear hS
                go_upto_if 73 with fail
                go_cut [4, 5] (fun e5 a5 wx => wx = wr.alloc (.cells #[.int .i64 n.1, .int .i64 n.2] 83) ∧ e5 = .int .i64 S.1 ∧ a5 = .int .i64 S.2)
                case first =>
                  cases hBc : B with
                  | false =>
                    have hBf : ¬ (12 < n.1 ∨ n.1 < -12) := by have hd := HB.out; rw [hBc] at hd; exact of_decide_eq_false hd.symm
                    have HSv := hide (show S = q by rw [← HS.out, wSide, if_neg (fun h => hBf h.1)])
                    clear hBf
                    subst hBc
                    go_wp2_with fail
                    go_meet
                    case rel => exact ⟨rfl, by rw [HSv.out], by rw [HSv.out]⟩
                  | true =>
                    have hBf : (12 < n.1 ∨ n.1 < -12) := by have hd := HB.out; rw [hBc] at hd; exact of_decide_eq_true hd.symm
                    subst hBc
                    by_cases h3 : q.1 = 0
                    · have HSv := hide (show S = (5, n.2) by rw [← HS.out, wSide, if_pos ⟨hBf, Or.inl h3⟩])
                      have h3b : (q.1 == 0) = true := by simpa using h3
                      clear hBf h3
                      go_wp2_with fail
                      go_meet
                      case rel => exact ⟨rfl, by rw [HSv.out], by rw [HSv.out]⟩
                    · have h3b : (q.1 == 0) = false := by simpa using h3
                      by_cases h4 : n.2 < q.2
                      · have HSv := hide (show S = (5, n.2) by rw [← HS.out, wSide, if_pos ⟨hBf, Or.inr (Or.inl h4)⟩])
                        clear hBf h3
                        go_wp2_with fail
                        go_meet
                        case rel => exact ⟨rfl, by rw [HSv.out], by rw [HSv.out]⟩
                      · by_cases h5 : n.2 = q.2
                        · have h5b : (n.2 == q.2) = true := by simpa using h5
                          by_cases h6 : q.1 = 5
                          · have h6b : (q.1 == 5) = true := by simpa using h6
                            have HSv := hide (show S = q by rw [← HS.out, wSide, if_neg (by omega)])
                            clear hBf h3 h5 h6
                            go_wp2_with fail
                            go_meet
                            case rel => exact ⟨rfl, by rw [HSv.out], by rw [HSv.out]⟩
                          · have h6b : (q.1 == 5) = false := by simpa using h6
                            have HSv := hide (show S = (5, n.2) by rw [← HS.out, wSide, if_pos ⟨hBf, Or.inr (Or.inr ⟨h5, h6⟩)⟩])
                            clear hBf h3 h5 h6
                            go_wp2_with fail
                            go_meet
                            case rel => exact ⟨rfl, by rw [HSv.out], by rw [HSv.out]⟩
                        · have h5b : (n.2 == q.2) = false := by simpa using h5
                          have HSv := hide (show S = q by rw [← HS.out, wSide, if_neg (by omega)])
                          clear hBf h3 h5
                          go_wp2_with fail
                          go_meet
                          case rel => exact ⟨rfl, by rw [HSv.out], by rw [HSv.out]⟩
                case rest =>
                  obtain ⟨rfl, rfl, rfl⟩ := hcut
                  have Hw6 := hide (show Below w.heap.size w (wr.alloc (.cells #[.int .i64 n.1, .int .i64 n.2] 83)) from hw5.alloc hw5.size _)
                  clear p0 p1 hs5 hw5 HB HS
                  by_cases h12 : j = 12
                  · subst h12
                    by_cases h3 : S.1 = 0
                    · have h3b : (S.1 == 0) = true := by simpa using h3
                      have HN := hide (show wMany 12 n S = (3, n.2) by rw [wMany, if_pos ⟨rfl, Or.inl h3⟩])
                      clear h3
                      go_wp2
                      go_roundw
                      case rel => exact ⟨12 + 1, (3, n.2), rfl, rfl, by go_num, by omega, Hw6.out, by rw [Hst.out, HN.out]⟩
                      case measure => simp [intOf]; omega
                    · have h3b : (S.1 == 0) = false := by simpa using h3
                      by_cases h4 : n.2 < S.2
                      · have HN := hide (show wMany 12 n S = (3, n.2) by rw [wMany, if_pos ⟨rfl, Or.inr h4⟩])
                        clear h3
                        go_wp2
                        go_roundw
                        case rel => exact ⟨12 + 1, (3, n.2), rfl, rfl, by go_num, by omega, Hw6.out, by rw [Hst.out, HN.out]⟩
                        case measure => simp [intOf]; omega
                      · have HN := hide (show wMany 12 n S = S by rw [wMany, if_neg (by omega)])
                        clear h3
                        go_wp2
                        go_roundw
                        case rel => exact ⟨12 + 1, S, rfl, rfl, by go_num, by omega, Hw6.out, by rw [Hst.out, HN.out]⟩
                        case measure => simp [intOf]; omega
                  · have h12b : ((j : Int) == 12) = false := by simp; omega
                    have HN := hide (show wMany j n S = S by rw [wMany, if_neg (fun h => h12 h.1)])
                    clear h12
                    go_wp2
                    go_roundw
                    case rel => exact ⟨j + 1, S, rfl, rfl, by go_num, by omega, Hw6.out, by rw [Hst.out, HN.out]⟩
                    case measure => simp [intOf]; omega
            · obtain rfl : j = r.length := by omega
              rw [List.take_of_length_le (Nat.le_refl _)] at hq
              have Hw5 := hide hw5
              rw [← hq] at HF2
              clear hw5 hq
              go_wp2
              go_roundw
              case rel => exact ⟨k + 1, q.1, q.2, rfl, rfl, by go_num, by omega, Hw5.out, HF2.out⟩
              case measure => simp [intOf]; omega
    · have hF2 := hw.out.2
      have hw1 := hw.out.1
      rw [List.drop_eq_nil_of_le (by omega)] at hF2
      have HF2 : Hid ((ev, av) = F) := hF2
      have Hw := hide hw1
      clear hF2 hw1 hw
      go_wp2
      go_ret2
      exact ⟨by rw [← HF2.out]; rfl, Hw.out⟩
end Go.Proofs.YtkjlkbgdkdcboaaGreatDoor
namespace Go.Proofs.YtkjlkbgdkdcboaaGreatDoor
open Go.RowKit
attribute [local go_sem ↓] Go.wp_at_zero Go.wp_at_succ
def prOf : List (Int × Int) → List Acre.Pt
  | a :: b :: r => (a.1, b.1) :: prOf r
  | _ => []
theorem prOf_len : ∀ r : List (Int × Int), (prOf r).length = r.length / 2
  | [] => rfl
  | [_] => by simp [prOf]
  | a :: b :: r => by simp only [prOf, List.length_cons, prOf_len r]; omega
theorem prOf_get : ∀ (r : List (Int × Int)) (j : Nat) (h : 2 * j + 1 < r.length) (h' : j < (prOf r).length), (prOf r)[j] = (r[2 * j].1, r[2 * j + 1].1)
  | [], j, h, h' => by simp at h
  | [_], j, h, h' => by simp at h
  | a :: b :: r, 0, h, h' => rfl
  | a :: b :: r, j + 1, h, h' => by
    have e := prOf_get r j (by simp at h; omega) (by simp [prOf] at h'; exact h')
    simp only [prOf, List.getElem_cons_succ, e]
    have e1 : 2 * (j + 1) = 2 * j + 1 + 1 := by omega
    simp only [e1, List.getElem_cons_succ]
theorem pointL_len (s : ByteArray) (i : Nat) (bad : Int) : (pointL s i bad).length = 2 := rfl
theorem rowF_len (s : ByteArray) : ∀ (n i : Nat) (bad : Int), (rowF s n i bad).1.length ≤ 2 * n ∧ (0 < n → 2 ≤ (rowF s n i bad).1.length)
  | 0, i, bad => by simp [rowF]
  | n + 1, i, bad => by
    rw [rowF]
    have h := rowF_len s n ((pointE s i bad).1 + 1) (pointE s i bad).2
    split
    · simp only [List.length_append, pointL_len]; omega
    · simp only [pointL_len]; omega
theorem ringsF_inv (s : ByteArray) : ∀ (n i : Nat) (bad : Int), (ringsF s n i bad).1.length ≤ n ∧ ∀ r ∈ (ringsF s n i bad).1, r ≠ [] ∧ r.length ≤ 2 * (s.size + 1)
  | 0, i, bad => by simp [ringsF]
  | n + 1, i, bad => by
    rw [ringsF]
    have hr := rowF_len s (s.size + 1) i bad
    have hr2 : (rowF s (s.size + 1) i bad).1 ≠ [] := fun e => by rw [e] at hr; simp at hr
    have h := ringsF_inv s n ((rowF s (s.size + 1) i bad).2.1 + 1) (rowF s (s.size + 1) i bad).2.2
    split
    · refine ⟨by simp only [List.length_cons]; omega, fun r hm => ?_⟩
      rcases List.mem_cons.1 hm with e | e
      · rw [e]; exact ⟨hr2, hr.1⟩
      · exact h.2 r e
    · refine ⟨by simp, fun r hm => ?_⟩
      rw [List.mem_singleton.1 hm]; exact ⟨hr2, hr.1⟩
theorem ringsP_inv (s : ByteArray) : (ringsP s).1.length ≤ s.size + 1 ∧ ∀ r ∈ (ringsP s).1, r ≠ [] ∧ r.length ≤ 2 * (s.size + 1) := by
  unfold ringsP
  split
  · simp
  · exact ringsF_inv s (s.size + 1) 0 (-1)
def rreadP (s : ByteArray) : List (List Acre.Pt) × Int × Int :=
  if 120 < s.size then ([], 1, 0)
  else if 0 ≤ (ringsP s).2 then ([], 2, (ringsP s).2)
  else if (wRings 0 (ringsP s).1 (0, 0)).1 = 0 then ((ringsP s).1.map prOf, 0, 0)
  else ([], (wRings 0 (ringsP s).1 (0, 0)).1, (wRings 0 (ringsP s).1 (0, 0)).2)
def RReadPost (s : ByteArray) (w : World) (e : Ending) (w' : World) : Prop :=
  ∃ u, e = .returned (.tuple #[u, .int .i64 (rreadP s).2.1, .int .i64 (rreadP s).2.2]) ∧ Rings w' u (rreadP s).1 ∧ Below w.heap.size w w'
theorem rings_nil (w : World) : Rings w (.slice none 0 0) [] := ⟨none, 0, 0, 0, rfl, fun k => absurd k (by simp), fun i hi => absurd hi (by simp)⟩
set_option maxRecDepth 100000 in
set_option maxHeartbeats 4000000 in
theorem rread_ok (s : ByteArray) (w : World) (hl : ¬ 120 < s.size) (hb : ¬ 0 ≤ (ringsP s).2) (hz : (wRings 0 (ringsP s).1 (0, 0)).1 = 0) : Calls Tryz.prog 16 #[.string s] w (RReadPost s w) := by
  have HP := hide (show rreadP s = ((ringsP s).1.map prOf, 0, 0) by rw [rreadP, if_neg hl, if_neg hb, if_pos hz])
  have hl' : ¬ (120 : Int) < (s.size : Int) := by omega
  obtain ⟨hi1, hi2⟩ := ringsP_inv s
  have K1 := hide (rings_any s w (by omega))
  have K2 := hide (fun W v hv => wrong_any (ringsP s).1 v W hv (fun r hr => (hi2 r hr).1) (by omega) (fun r hr => by have := (hi2 r hr).2; omega))
  rw [hz] at K2
  obtain ⟨R, hR⟩ : ∃ R, (ringsP s).1 = R := ⟨_, rfl⟩
  have hm : ∀ r ∈ R, r.length ≤ 10000 := fun r hr => by rw [← hR] at hr; have := (hi2 r hr).2; omega
  have hn : R.length ≤ 10000 := by rw [← hR]; omega
  rw [hR] at HP K1 K2
  clear hi1 hi2 hz hR
  generalize (wRings 0 R (0, 0)).2 = wa at *
  generalize (ringsP s).2 = bd at *
  obtain ⟨Q, hQ⟩ : ∃ Q, R.map prOf = Q := ⟨_, rfl⟩
  have hQl : Q.length = R.length := by rw [← hQ, List.length_map]
  have hQk : ∀ k (h : k < R.length) (h' : k < Q.length), Q[k] = prOf R[k] := fun k h h' => by subst hQ; simp
  rw [hQ] at HP
  clear hQ
  obtain ⟨i0, hi, hz0, hz1, hz2⟩ := info_parts info51
  obtain ⟨i1, hi1, hy0, hy1, hy2⟩ := info_parts info66
  go_enter Tryz.func16, Tryz.ntmps16
  go_wp2_with fail
  refine K1.out.mono ?_
  rintro e wa1 ⟨v, rfl, hv, hbv⟩
  have Hv := hide hv
  clear hv
  go_wp2_with fail
  refine (K2.out wa1 v Hv.out).mono ?_
  rintro e wb ⟨rfl, hbw2⟩
  have hvb := Hv.out.later hbw2
  have HB := hide (below_call hbw2 hbv)
  clear K1 K2 Hv hbw2 hbv
  obtain ⟨ga, b, off, cap, rfl, hga, hcs⟩ := hvb
  go_wp2
  go_loopw [9, 10] (fun l i wr => ∃ k : Nat, i = .int .i64 k ∧ k ≤ R.length ∧ Hid (Copied wr wb.heap.size l (Q.take k) ∧ Below wb.heap.size wb wr)) (fun _ i _ => R.length - (intOf i).toNat)
  case atStart => exact ⟨0, rfl, Nat.zero_le _, ⟨[], rfl, by simp, World.ownsRow_nil _ _ _ _, fun i h _ => by simp at h⟩, Below.refl _ _⟩
  case round =>
    obtain ⟨k, rfl, hk, hr⟩ := hrel
    by_cases hlt : k < R.length
    · obtain ⟨o1, hw⟩ := hr.out
      obtain rfl := hga (by omega)
      obtain ⟨s1, hs, hring⟩ := hcs k hlt
      have hml := hm R[k] (List.getElem_mem hlt)
      obtain ⟨ra, rb, roff, rcap, rfl, hra, hpts0⟩ := hring
      have htk : Q.take (k + 1) = Q.take k ++ [prOf R[k]] := by rw [List.take_succ_eq_append_getElem (show k < Q.length by omega), hQk k hlt (by omega)]
      obtain ⟨r, hrr⟩ : ∃ r, R[k] = r := ⟨_, rfl⟩
      rw [hrr] at hs hml hra hpts0 htk
      have Htk : Hid _ := htk
      have Ho1 : Hid (Copied wr wb.heap.size u9 (Q.take k)) := o1
      have hbw : b < wb.heap.size := World.block_lt_of_cell? _ _ hs
      have hsW := hw.size
      have Hpl := hide (prOf_len r)
      clear htk hrr hr o1
      obtain ⟨WO, hWO⟩ : ∃ WO, WO = wr := ⟨_, rfl⟩
      subst hWO
      go_wp2
      go_loopw [11, 12] (fun q i w2 => ∃ j m : Nat, i = .int .i64 (m : Int) ∧ m = 2 * j ∧ j ≤ (prOf r).length ∧ Hid (w2.ownsRow WO.heap.size 84 2 q j (flat ((prOf r).take j)) ∧ Below WO.heap.size WO w2)) (fun _ i _ => r.length + 2 - (intOf i).toNat)
      case atStart => exact ⟨0, 0, rfl, rfl, Nat.zero_le _, World.ownsRow_nil _ _ _ _, Below.refl _ _⟩
      case round =>
        obtain ⟨j, m, rfl, hmj, hj, hr2⟩ := hrel
        obtain ⟨o2, hw2⟩ := hr2.out
        have hww : Below wb.heap.size wb wr := below_call hw2 hw
        have hs2 := cell_later hww hs
        have lbb : b < wr.heap.size := World.block_lt_of_cell? _ _ hs2
        have hk0 : (0 : Int) ≤ (k : Int) := Int.natCast_nonneg _
        have hk1 : (k : Int) < (R.length : Int) := by omega
        by_cases hjl : m + 1 < r.length
        · have hjp : j < (prOf r).length := by have := Hpl.out; omega
          obtain ⟨rfl, hrb⟩ := hra (by omega)
          obtain ⟨p0, p1⟩ := (hpts0.later hww) m (by omega)
          obtain ⟨p2, p3⟩ := (hpts0.later hww) (m + 1) hjl
          have hst : (prOf r).take (j + 1) = (prOf r).take j ++ [(r[m].1, r[m + 1].1)] := by
            rw [List.take_succ_eq_append_getElem hjp, prOf_get r j (by omega) hjp]
            simp only [hmj]
          have Hst : Hid _ := hst
          clear hst p1 p3
          generalize r[m].1 = x0 at *
          generalize r[m + 1].1 = x1 at *
          have lb : rb < wr.heap.size := World.block_lt_of_cell? _ _ p0
          have hu : ∀ c, u11.ownBlock = some c → WO.heap.size ≤ c ∧ c < wr.heap.size := o2.lt
          have av : u11.ownBlock ≠ some b := fun e => by have := hu _ e; omega
          have ak : u11.ownBlock ≠ some rb := fun e => by have := hu _ e; omega
          have hj2 : (0 : Int) ≤ (m : Int) := by omega
          have hj3 : (m : Int) < (r.length : Int) := by omega
          have hj4 : (m : Int) + 1 < (r.length : Int) := by omega
          have hj5 : (0 : Int) ≤ (m : Int) + 1 := by omega
          have hsum : IntKind.i64.wrap ((m : Int) + 1) = (m : Int) + 1 := wrap_in _ (by omega)
          have hmb := hide hmj
          clear hmj
          go_wp2_with fail
          go_region_held3 (fun w' => w'.cell? ⟨b, off + k, none⟩ = some (.slice (some ⟨rb, roff, none⟩) r.length rcap) ∧ w'.cell? ⟨rb, roff + m * 2, none⟩ = some (.int .i64 x0) ∧ w'.cell? ⟨rb, roff + (m + 1) * 2, none⟩ = some (.int .i64 x1))
            (first
              | go_keep
              | (go_split_ands
                 refine ⟨?_, ?_, ?_⟩
                 · (rw [hgrow.cell_far _ (Nat.lt_trans lbb (by simp)) (Ne.symm av)]; assumption)
                 · (rw [hgrow.cell_far _ (Nat.lt_trans lb (by simp)) (Ne.symm ak)]; assumption)
                 · (rw [hgrow.cell_far _ (Nat.lt_trans lb (by simp)) (Ne.symm ak)]; assumption)))
            ((refine step_append_lies _ (by rfl) _ _ _ (by rfl) WO.heap.size 84 i0 _ 2 16 Tryz.underlying80 hi hz0 hz1 hz2 rfl (by omega) u11 j (flat ((prOf r).take j)) (by rfl) ((o2.alloc _).drew)
                ⟨wr.heap.size, 0, none⟩ 1 1 [.int .i64 x0, .int .i64 x1] (by rfl) (by rfl) (World.news_of_block (cs := #[.int .i64 x0, .int .i64 x1]) (t := 84) (fr := (0, 0)) (heap_alloc_new wr _)) (by simp [Value.oneCell'])
                (by omega) (by unfold maxLen; have := Hpl.out; omega) (by have := Hpl.out; omega) (by have := hw2.size; simp; omega) (wr.heap.size + 1) (by simp) ?_; intro gg cap' w1 hown1 hgrow hat hlt'))
          have n1 : w1.ownsRow WO.heap.size 84 2 (.slice (some ⟨gg, 0, none⟩) (j + 1) cap') (j + 1) (flat ((prOf r).take (j + 1))) := by
            rw [Hst.out, flat_app]; exact hown1
          have n2 : Below WO.heap.size WO w1 := (Below.drew (hw2.alloc hw2.size _)).grown hgrow (by have := hw2.size; simp; omega) (fun c hc => (hu c hc).1)
          have NN : Hid (w1.ownsRow WO.heap.size 84 2 (.slice (some ⟨gg, 0, none⟩) (j + 1) cap') (j + 1) (flat ((prOf r).take (j + 1))) ∧ Below WO.heap.size WO w1) := ⟨n1, n2⟩
          clear n1 n2 hown1 hgrow
          go_wp2
          go_roundw
          case rel => exact ⟨j + 1, m + 2, by go_num, by have := hmb.out; omega, by omega, NN⟩
          case measure => simp [intOf]; omega
        · obtain rfl : j = (prOf r).length := by have := Hpl.out; omega
          rw [List.take_of_length_le (Nat.le_refl _)] at o2
          obtain ⟨vs, v1, v2, v3, v4⟩ := Ho1.out
          have hkl : (Q.take k).length = k := by rw [List.length_take]; omega
          rw [hkl] at v1 v3
          have v3' := row_call v3 hw2
          have hlo : ∀ c, u9.ownBlock = some c → c < WO.heap.size := fun c hc => (v3.lt c hc).2
          have hnew : RingC wr u9 u11 (prOf r) := RingC.row o2 hlo
          have Hnew : Hid (RingC wr u9 u11 (prOf r)) := hnew
          have Hv4 : Hid (∀ i (h : i < (Q.take k).length) (h' : i < vs.length), RingC wr u9 vs[i] (Q.take k)[i]) := fun i h h' => (v4 i h h').below hw2
          have Hv2 : Hid _ := v2
          have hform : ∃ ga5 cap5, u11 = .slice ga5 (prOf r).length cap5 := by
            rcases o2.2 with ⟨rfl, h0⟩ | ⟨g, cap, cur, rfl, _⟩
            · exact ⟨none, 0, by rw [h0]⟩
            · exact ⟨_, _, rfl⟩
          obtain ⟨ga5, cap5, rfl⟩ := hform
          have hm1 : ¬ (m : Int) + 1 < (r.length : Int) := by omega
          clear hnew v4 v2 v3
          have hPl : (prOf r).length ≤ 10000 := by have := Hpl.out; omega
          have hsum : IntKind.i64.wrap ((m : Int) + 1) = (m : Int) + 1 := wrap_in _ (by have := Hpl.out; omega)
          clear Hpl hmj
          generalize prOf r = P at *
          go_wp2_with (first
            | (at_builtin; refine wpList_append_own_at _ rfl _ _ 53 rfl wb.heap.size 80 i1 (.slice none 0 0) 1 24 Tryz.underlying53 hi1 hy0 hy1 hy2 rfl (by decide) _ _ _ rfl (v3'.alloc _) ⟨wr.heap.size, 0, none⟩ 1 1 [.slice ga5 P.length cap5] rfl rfl (cell_one_new _ _ _) ?_ ?_ ?_ ?_ ?_)
            | go_in)
          · rfl
          · unfold maxLen; omega
          · omega
          · have := hww.size; simp; omega
          · intro v' w' hown hgrow hne hob
            have n0 : Below wb.heap.size wb w' := (hww.alloc hww.size _).grown hgrow (by have := hww.size; simp; omega) (fun c hc => (v3'.lt c hc).1)
            have n1 : Copied w' wb.heap.size v' (Q.take (k + 1)) := by
              rw [Htk.out]
              refine ⟨vs ++ [.slice ga5 P.length cap5], by simp [v1, hkl], ?_, ?_, ?_⟩
              · intro u hu
                rcases List.mem_append.1 hu with h | h
                · exact Hv2.out u h
                · rw [List.mem_singleton.1 h]; rfl
              · have : (Q.take k ++ [P]).length = k + 1 := by simp [hkl]
                rw [this]; exact hown
              · have hal : Below wr.heap.size wr (wr.alloc (.cells #[.slice ga5 P.length cap5] 80)) := (Below.refl _ _).alloc (Nat.le_refl _) _
                intro i h h'
                have hi' : i < k + 1 := by simpa [hkl] using h
                by_cases hik : i < k
                · have e1 : (vs ++ [Value.slice ga5 P.length cap5])[i] = vs[i]'(by omega) := List.getElem_append_left (by omega)
                  have e2 : (Q.take k ++ [P])[i] = (Q.take k)[i]'(by omega) := List.getElem_append_left (by omega)
                  rw [e1, e2]
                  exact ((Hv4.out i (by omega) (by omega)).below hal).append hgrow hob (by simp)
                · obtain rfl : i = k := by omega
                  have e1 : (vs ++ [Value.slice ga5 P.length cap5])[i] = Value.slice ga5 P.length cap5 := by
                    rw [List.getElem_append_right (by omega)]; simp [v1]
                  have e2 : (Q.take i ++ [P])[i] = P := by
                    rw [List.getElem_append_right (by omega)]; simp [hkl]
                  rw [e1, e2]
                  exact (Hnew.out.below hal).append hgrow hob (by simp)
            have NN : Hid (Copied w' wb.heap.size v' (Q.take (k + 1)) ∧ Below wb.heap.size wb w') := ⟨n1, n0⟩
            clear n0 n1 hown hgrow
            go_wp2
            go_roundw
            case rel => exact ⟨k + 1, by go_num, by omega, NN⟩
            case measure => simp [intOf]; omega
    · obtain rfl : k = R.length := by omega
      obtain ⟨o1, hw⟩ := hr.out
      rw [List.take_of_length_le (by omega)] at o1
      have Ho1 := hide o1.rings
      have Hw := hide (below_call hw HB.out)
      have hform : ∃ ga n cap, u9 = .slice ga n cap := by
        obtain ⟨ga, b, off, cap, rfl, _⟩ := o1.rings
        exact ⟨_, _, _, rfl⟩
      obtain ⟨ga1, n1, cap1, rfl⟩ := hform
      clear o1 hw hr
      go_wp2
      refine bodyPost_ret (v := .tuple #[.slice ga1 n1 cap1, .int .i64 0, .int .i64 0]) (by simp [results, Tryz.results16, go_sem]) rfl ⟨.slice ga1 n1 cap1, ?_, ?_, Hw.out⟩
      · rw [HP.out]
      · rw [HP.out]; exact Ho1.out
set_option maxHeartbeats 1000000 in
theorem rread_any (s : ByteArray) (w : World) : Calls Tryz.prog 16 #[.string s] w (RReadPost s w) := by
  by_cases hl : 120 < s.size
  · have HP := hide (show rreadP s = ([], 1, 0) by rw [rreadP, if_pos hl])
    have hl' : (120 : Int) < (s.size : Int) := by omega
    go_enter Tryz.func16, Tryz.ntmps16
    go_wp2
    refine bodyPost_ret (v := .tuple #[.slice none 0 0, .int .i64 1, .int .i64 0]) (by simp [results, Tryz.results16, go_sem]) rfl ⟨.slice none 0 0, ?_, ?_, Below.refl _ _⟩
    · rw [HP.out]
    · rw [HP.out]; exact rings_nil _
  · have hl' : ¬ (120 : Int) < (s.size : Int) := by omega
    by_cases hb : 0 ≤ (ringsP s).2
    · have HP := hide (show rreadP s = ([], 2, (ringsP s).2) by rw [rreadP, if_neg hl, if_pos hb])
      have K1 := hide (rings_any s w (by omega))
      generalize (ringsP s).2 = bd at *
      go_enter Tryz.func16, Tryz.ntmps16
      go_wp2_with fail
      refine K1.out.mono ?_
      rintro e w1 ⟨v, rfl, hv, hbv⟩
      clear hv
      go_wp2
      refine bodyPost_ret (v := .tuple #[.slice none 0 0, .int .i64 2, .int .i64 bd]) (by simp [results, Tryz.results16, go_sem]) rfl ⟨.slice none 0 0, ?_, ?_, hbv⟩
      · rw [HP.out]
      · rw [HP.out]; exact rings_nil _
    · by_cases hz : (wRings 0 (ringsP s).1 (0, 0)).1 = 0
      · exact rread_ok s w hl hb hz
      · have HP := hide (show rreadP s = ([], (wRings 0 (ringsP s).1 (0, 0)).1, (wRings 0 (ringsP s).1 (0, 0)).2) by rw [rreadP, if_neg hl, if_neg hb, if_neg hz])
        obtain ⟨hi1, hi2⟩ := ringsP_inv s
        have K1 := hide (rings_any s w (by omega))
        have K2 := hide (fun W v hv => wrong_any (ringsP s).1 v W hv (fun r hr => (hi2 r hr).1) (by omega) (fun r hr => by have := (hi2 r hr).2; omega))
        generalize (wRings 0 (ringsP s).1 (0, 0)).1 = we at *
        generalize (wRings 0 (ringsP s).1 (0, 0)).2 = wa at *
        generalize (ringsP s).2 = bd at *
        have hzb : (we == 0) = false := by simpa using hz
        clear hz hi1 hi2
        go_enter Tryz.func16, Tryz.ntmps16
        go_wp2_with fail
        refine K1.out.mono ?_
        rintro e w1 ⟨v, rfl, hv, hbv⟩
        have Hv := hide hv
        clear hv
        go_wp2_with fail
        refine (K2.out w1 v Hv.out).mono ?_
        rintro e w2 ⟨rfl, hb2⟩
        go_wp2
        refine bodyPost_ret (v := .tuple #[.slice none 0 0, .int .i64 we, .int .i64 wa]) (by simp [results, Tryz.results16, go_sem]) rfl ⟨.slice none 0 0, ?_, ?_, below_call hb2 hbv⟩
        · rw [HP.out]
        · rw [HP.out]; exact rings_nil _
end Go.Proofs.YtkjlkbgdkdcboaaGreatDoor

set_option linter.unusedSimpArgs false
set_option linter.unusedVariables false
namespace Go.Proofs.YtkjlkbgdkdcboaaGreatDoor
open Go.RowKit
attribute [local go_sem ↓] Go.wp_at_zero Go.wp_at_succ
def ptOf (p : Sp) : Acre.Pt := (p.1.2, p.2.2)
def RingP (w : World) (base : Nat) (l : Value) (v : Value) (ps : List Acre.Pt) : Prop :=
  ∃ ga b off cap, v = .slice ga ps.length cap ∧ (0 < ps.length → ga = some ⟨b, off, none⟩ ∧ b < w.heap.size ∧ base ≤ b ∧ l.ownBlock ≠ some b ∧ ∀ o, w.frozen? ⟨b, o, none⟩ = false) ∧ PtsAt w b off ps
theorem RingP.below {w w' : World} {base : Nat} {l s : Value} {ps : List Acre.Pt} (h : RingP w base l s ps) (hb : Below w.heap.size w w') : RingP w' base l s ps := by
  obtain ⟨ga, b, off, cap, h1, h2, h3⟩ := h
  exact ⟨ga, b, off, cap, h1, fun k => ⟨(h2 k).1, Nat.lt_of_lt_of_le (h2 k).2.1 hb.size, (h2 k).2.2.1, (h2 k).2.2.2.1, fun o => (hb.frozen (h2 k).2.1).trans ((h2 k).2.2.2.2 o)⟩, h3.later hb⟩
theorem RingP.append {w w' : World} {base : Nat} {l l' s : Value} {ps : List Acre.Pt} {H : Nat} (h : RingP w base l s ps) (hg : w.grownBy w' l.ownBlock) (hl : l'.ownBlock = l.ownBlock ∨ l'.ownBlock = some H) (hH : w.heap.size ≤ H) : RingP w' base l' s ps := by
  obtain ⟨ga, b, off, cap, h1, h2, h3⟩ := h
  refine ⟨ga, b, off, cap, h1, fun k => ?_, fun k hk => ?_⟩
  · obtain ⟨e1, e2, e4, e3, e5⟩ := h2 k
    have hbk : w'.heap[b]? = w.heap[b]? := hg.block b e2 (fun e => e3 e.symm)
    refine ⟨e1, Nat.lt_of_lt_of_le e2 hg.size, e4, ?_, fun o => (World.frozen?_of_block (w := w) hbk).trans (e5 o)⟩
    rcases hl with e | e
    · rw [e]; exact e3
    · rw [e]; intro e'; simp at e'; omega
  · obtain ⟨e1, e2, e4, e3, e5⟩ := h2 (by omega)
    have c := h3 k hk
    exact ⟨hg.cell c.1 (fun e => e3 e.symm), hg.cell c.2 (fun e => e3 e.symm)⟩
theorem RingP.ring {w : World} {base : Nat} {l s : Value} {ps : List Acre.Pt} (h : RingP w base l s ps) : Ring w s ps := by
  obtain ⟨ga, b, off, cap, h1, h2, h3⟩ := h
  exact ⟨ga, b, off, cap, h1, fun k => ⟨(h2 k).1, (h2 k).2.1⟩, h3⟩
theorem RingP.row {w : World} {base : Nat} {l v : Value} {H : Nat} {t : TypeId} {ps : List Acre.Pt} (h : w.ownsRow H t 2 v ps.length (flat ps)) (hl : ∀ c, l.ownBlock = some c → c < H) (hb : base ≤ H) : RingP w base l v ps := by
  rcases h.2 with ⟨rfl, h0⟩ | ⟨g, cap, cur, rfl, hHg, hgg, _⟩
  · refine ⟨none, 0, 0, 0, by rw [h0], fun k => absurd k (by omega), fun k hk => absurd hk (by omega)⟩
  · refine ⟨_, g, 0, cap, rfl, fun _ => ⟨rfl, (Array.getElem?_eq_some_iff.1 hgg).1, by omega, fun e => by have := hl g e; omega, fun o => ?_⟩, fun k hk => ?_⟩
    · simp [World.frozen?, hgg]
    · obtain ⟨e1, e2⟩ := flat_at ps k hk
      simp only [Nat.zero_add]
      exact ⟨(h.cellAt _ (by omega)).trans e1, (h.cellAt _ (by omega)).trans e2⟩
def Answer (w : World) (base : Nat) (l : Value) (R : List (List Acre.Pt)) : Prop :=
  ∃ vs : List Value, vs.length = R.length ∧ (∀ u ∈ vs, u.oneCell' = true) ∧ w.ownsRow base 132 1 l R.length vs ∧ ∀ i (h : i < R.length) (h' : i < vs.length), RingP w base l vs[i] R[i]
theorem Answer.rings {w : World} {base : Nat} {l : Value} {R : List (List Acre.Pt)} (h : Answer w base l R) : Rings w l R := by
  obtain ⟨vs, h1, _, h2, h3⟩ := h
  rcases h2.2 with ⟨rfl, h0⟩ | ⟨g, cap, cur, rfl, _⟩
  · exact ⟨none, 0, 0, 0, by rw [h0], fun k => absurd k (by omega), fun i hi => absurd hi (by omega)⟩
  · refine ⟨_, g, 0, cap, rfl, fun _ => rfl, fun i hi => ⟨vs[i], ?_, (h3 i hi (by omega)).ring⟩⟩
    rw [Nat.zero_add]
    exact (h2.cellAt i (by omega)).trans (List.getElem?_eq_getElem (by omega))
theorem info28 : (Tryz.prog.info? 40).map (fun i => (i.zero, i.size, i.bytes)) = some (some (.agg #[.int .i64 0, .int .i64 0]), 2, 16) := by kernel_rfl
theorem info26 : (Tryz.prog.info? 132).map (fun i => (i.zero, i.size, i.bytes)) = some (some (.slice none 0 0), 1, 24) := by kernel_rfl
theorem cell_two_at' (w : World) (o : Obj) (x y : Value) (t : TypeId) : ∀ j u, [x, y][j]? = some u → ((w.alloc o).alloc (.cells #[x, y] t)).cell? ((⟨w.heap.size + 1, 0, none⟩ : Addr).add j) = some u := by
  have := cell_two_new (w.alloc o) x y t
  simpa using this
set_option maxRecDepth 100000 in
set_option maxHeartbeats 4000000 in
theorem pointsOf_any (R : List (List Sp)) (v : Value) (w : World) (hR : RSpots w v R) (hn : R.length ≤ 1000) (hm : ∀ r ∈ R, r.length ≤ 1000) :
    Calls Tryz.prog 52 #[v] w fun e w' => ∃ u, e = .returned u ∧ Answer w' w.heap.size u (R.map (fun r => r.map ptOf)) ∧ Below w.heap.size w w' := by
  obtain ⟨ga, b, off, cap, rfl, hga, hcs⟩ := hR
  obtain ⟨i0, hi, hz0, hz1, hz2⟩ := info_parts info28
  obtain ⟨i1, hi1, hy0, hy1, hy2⟩ := info_parts info26
  obtain ⟨Q, hQ⟩ : ∃ Q, R.map (fun r => r.map ptOf) = Q := ⟨_, rfl⟩
  rw [hQ]
  have hQl : Q.length = R.length := by rw [← hQ, List.length_map]
  have hQk : ∀ k (h : k < R.length) (h' : k < Q.length), Q[k] = R[k].map ptOf := fun k h h' => by subst hQ; simp
  clear hQ
  go_enter Tryz.func52, Tryz.ntmps52
  go_wp2
  go_loopw [3, 11] (fun l i wr => ∃ k : Nat, i = .int .i64 k ∧ k ≤ R.length ∧ Hid (Answer wr w.heap.size l (Q.take k) ∧ Below w.heap.size w wr)) (fun _ i _ => R.length - (intOf i).toNat)
  case atStart => exact ⟨0, rfl, Nat.zero_le _, ⟨[], rfl, by simp, World.ownsRow_nil _ _ _ _, fun i h _ => by simp at h⟩, Below.refl _ _⟩
  case round =>
    obtain ⟨k, rfl, hk, hr⟩ := hrel
    by_cases hlt : k < R.length
    · obtain ⟨o1, hw⟩ := hr.out
      obtain rfl := hga (by omega)
      obtain ⟨s, hs, hring⟩ := hcs k hlt
      have hml := hm R[k] (List.getElem_mem hlt)
      obtain ⟨ra, rb, roff, rcap, rfl, hra, hpts0⟩ := hring
      have htk : Q.take (k + 1) = Q.take k ++ [R[k].map ptOf] := by rw [List.take_succ_eq_append_getElem (show k < Q.length by omega), hQk k hlt (by omega)]
      obtain ⟨r, hrr⟩ : ∃ r, R[k] = r := ⟨_, rfl⟩
      rw [hrr] at hs hml hra hpts0 htk
      have Htk : Hid _ := htk
      have Ho1 : Hid (Answer wr w.heap.size u3 (Q.take k)) := o1
      have hbw : b < w.heap.size := World.block_lt_of_cell? _ _ hs
      have hsW := hw.size
      have hk0 : (0 : Int) ≤ (k : Int) := Int.natCast_nonneg _
      have hk1 : (k : Int) < (R.length : Int) := by omega
      have hs2 := cell_later hw hs
      clear htk hrr hr o1
      obtain ⟨WO, hWO⟩ : ∃ WO, WO = wr := ⟨_, rfl⟩
      subst hWO
      go_wp2
      go_loopw [6, 17] (fun q i w2 => ∃ j : Nat, i = .int .i64 j ∧ j ≤ r.length ∧ Hid (w2.ownsRow WO.heap.size 40 2 q j (flat ((r.map ptOf).take j)) ∧ Below WO.heap.size WO w2)) (fun _ i _ => r.length - (intOf i).toNat)
      case atStart => exact ⟨0, rfl, Nat.zero_le _, World.ownsRow_nil _ _ _ _, Below.refl _ _⟩
      case round =>
        obtain ⟨j, rfl, hj, hr2⟩ := hrel
        obtain ⟨o2, hw2⟩ := hr2.out
        have hww : Below w.heap.size w wr := below_call hw2 hw
        by_cases hjl : j < r.length
        · obtain ⟨rfl, hrb⟩ := hra (by omega)
          obtain ⟨p0, p1, p2, p3⟩ := (hpts0.later hww) j hjl
          have hj2 : (0 : Int) ≤ (j : Int) := Int.natCast_nonneg _
          have hj3 : (j : Int) < (r.length : Int) := by omega
          have hst : (r.map ptOf).take (j + 1) = (r.map ptOf).take j ++ [ptOf r[j]] := by rw [List.take_succ_eq_append_getElem (by simpa using hjl)]; simp
          have Hst : Hid _ := hst
          have hu : ∀ c, u6.ownBlock = some c → WO.heap.size ≤ c ∧ c < wr.heap.size := o2.lt
          clear hst
          generalize r[j] = pj at *
          go_wp2_with (at_builtin; refine wpList_append_own_at _ rfl _ _ 132 rfl WO.heap.size 40 i0 (.agg #[.int .i64 0, .int .i64 0]) 2 16 Tryz.underlying132 hi hz0 hz1 hz2 rfl (by decide) _ _ _ rfl ((o2.alloc _).alloc _) ⟨wr.heap.size + 1, 0, none⟩ 1 1 [.int .i64 pj.1.2, .int .i64 pj.2.2] rfl rfl (cell_two_at' _ _ _ _ _) (one2 _ _) (by unfold maxLen; omega) (by omega) (by have := hw2.size; simp; omega) ?_)
          intro v1 w1 hown1 hgrow hne1 hob1
          have n1 : w1.ownsRow WO.heap.size 40 2 v1 (j + 1) (flat ((r.map ptOf).take (j + 1))) := by
            rw [Hst.out, flat_app]; exact hown1
          have n2 : Below WO.heap.size WO w1 := ((hw2.alloc hw2.size _).alloc (by have := hw2.size; simp; omega) _).grown hgrow (by have := hw2.size; simp; omega) (fun c hc => (hu c hc).1)
          have NN : Hid (w1.ownsRow WO.heap.size 40 2 v1 (j + 1) (flat ((r.map ptOf).take (j + 1))) ∧ Below WO.heap.size WO w1) := ⟨n1, n2⟩
          clear n1 n2 hown1 hgrow
          go_wp2
          go_roundw
          case rel => exact ⟨j + 1, by go_num, by omega, NN⟩
          case measure => simp [intOf]; omega
        · obtain rfl : j = r.length := by omega
          rw [List.take_of_length_le (by simp)] at o2
          obtain ⟨vs, v1, v2, v3, v4⟩ := Ho1.out
          have hkl : (Q.take k).length = k := by rw [List.length_take]; omega
          rw [hkl] at v1 v3
          have v3' := row_call v3 hw2
          have hlo : ∀ c, u3.ownBlock = some c → c < WO.heap.size := fun c hc => (v3.lt c hc).2
          have hml2 : (r.map ptOf).length = r.length := List.length_map _
          have hnew : RingP wr w.heap.size u3 u6 (r.map ptOf) := RingP.row (by rw [hml2]; exact o2) hlo hsW
          have Hnew : Hid (RingP wr w.heap.size u3 u6 (r.map ptOf)) := hnew
          have Hv4 : Hid (∀ i (h : i < (Q.take k).length) (h' : i < vs.length), RingP wr w.heap.size u3 vs[i] (Q.take k)[i]) := fun i h h' => (v4 i h h').below hw2
          have Hv2 : Hid _ := v2
          have hform : ∃ ga5 cap5, u6 = .slice ga5 r.length cap5 := by
            rcases o2.2 with ⟨rfl, h0⟩ | ⟨g, cap, cur, rfl, _⟩
            · exact ⟨none, 0, by rw [h0]⟩
            · exact ⟨_, _, rfl⟩
          obtain ⟨ga5, cap5, rfl⟩ := hform
          clear hnew v4 v2 v3
          go_wp2_with (first
            | (at_builtin; refine wpList_append_own_at _ rfl _ _ 66 rfl w.heap.size 132 i1 (.slice none 0 0) 1 24 Tryz.underlying66 hi1 hy0 hy1 hy2 rfl (by decide) _ _ _ rfl (v3'.alloc _) ⟨wr.heap.size, 0, none⟩ 1 1 [.slice ga5 r.length cap5] rfl rfl (cell_one_new _ _ _) ?_ ?_ ?_ ?_ ?_)
            | go_in)
          · intro u hu; simp only [List.mem_singleton] at hu; rw [hu]; rfl
          · unfold maxLen; omega
          · omega
          · have := hww.size; simp; omega
          · intro v' w' hown hgrow hne hob
            have n0 : Below w.heap.size w w' := (hww.alloc hww.size _).grown hgrow (by have := hww.size; simp; omega) (fun c hc => (v3'.lt c hc).1)
            have n1 : Answer w' w.heap.size v' (Q.take (k + 1)) := by
              rw [Htk.out]
              refine ⟨vs ++ [.slice ga5 r.length cap5], by simp [v1, hkl], ?_, ?_, ?_⟩
              · intro u hu
                rcases List.mem_append.1 hu with h | h
                · exact Hv2.out u h
                · rw [List.mem_singleton.1 h]; rfl
              · have : (Q.take k ++ [r.map ptOf]).length = k + 1 := by simp [hkl]
                rw [this]; exact hown
              · have hal : Below wr.heap.size wr (wr.alloc (.cells #[.slice ga5 r.length cap5] 132)) := (Below.refl _ _).alloc (Nat.le_refl _) _
                intro i h h'
                have hi' : i < k + 1 := by simpa [hkl] using h
                by_cases hik : i < k
                · have e1 : (vs ++ [Value.slice ga5 r.length cap5])[i] = vs[i]'(by omega) := List.getElem_append_left (by omega)
                  have e2 : (Q.take k ++ [r.map ptOf])[i] = (Q.take k)[i]'(by omega) := List.getElem_append_left (by omega)
                  rw [e1, e2]
                  exact ((Hv4.out i (by omega) (by omega)).below hal).append hgrow hob (by simp)
                · obtain rfl : i = k := by omega
                  have e1 : (vs ++ [Value.slice ga5 r.length cap5])[i] = Value.slice ga5 r.length cap5 := by
                    rw [List.getElem_append_right (by omega)]; simp [v1]
                  have e2 : (Q.take i ++ [r.map ptOf])[i] = r.map ptOf := by
                    rw [List.getElem_append_right (by omega)]; simp [hkl]
                  rw [e1, e2]
                  exact (Hnew.out.below hal).append hgrow hob (by simp)
            have NN : Hid (Answer w' w.heap.size v' (Q.take (k + 1)) ∧ Below w.heap.size w w') := ⟨n1, n0⟩
            clear n0 n1 hown hgrow
            go_wp2
            go_roundw
            case rel => exact ⟨k + 1, by go_num, by omega, NN⟩
            case measure => simp [intOf]; omega
    · obtain rfl : k = R.length := by omega
      obtain ⟨o1, hw⟩ := hr.out
      rw [List.take_of_length_le (by omega)] at o1
      go_wp2
      go_ret
      exact ⟨_, rfl, o1, hw⟩
end Go.Proofs.YtkjlkbgdkdcboaaGreatDoor
namespace Go.Proofs.YtkjlkbgdkdcboaaGreatDoor
open Go.RowKit
attribute [local go_sem ↓] Go.wp_at_zero Go.wp_at_succ
structure PInv (N : Nat) (f : Nat) (st : PS) : Prop where
  a : st.acc.length + f ≤ N
  b : st.accs.length + f ≤ N
  c : ∀ r ∈ st.accs, r ≠ [] ∧ r.length ≤ N
theorem PInv.take {N f : Nat} {s s' : PS} {a c : Int} (h : PInv N (f + 1) s) (ht : takeP s a c = some s') : PInv N f s' := by
  obtain ⟨h1, h2, h3⟩ := h
  unfold takeP at ht
  split at ht
  · obtain rfl := Option.some.inj ht; exact ⟨by simp; omega, by simp; omega, h3⟩
  · split at ht
    · obtain rfl := Option.some.inj ht; exact ⟨by simp; omega, by simp; omega, h3⟩
    · split at ht
      · obtain rfl := Option.some.inj ht; exact ⟨by simp; omega, by simp; omega, h3⟩
      · split at ht
        · obtain rfl := Option.some.inj ht; exact ⟨by simp; omega, by simp; omega, h3⟩
        · split at ht
          · obtain rfl := Option.some.inj ht
            refine ⟨by simp; omega, by simp; omega, fun r hr => ?_⟩
            rcases List.mem_append.1 hr with hr | hr
            · exact h3 r hr
            · rw [List.mem_singleton.1 hr]; exact ⟨by simp, by simp; omega⟩
          · cases ht
theorem scanF_inv (s : ByteArray) (N : Nat) : ∀ (f pos : Nat) (st st' : PS) (k : Int), PInv N f st → scanF s f pos st = (some st', k) → ∃ g, PInv N g st'
  | 0, pos, st, st', k, h, hs => by
    obtain rfl : st = st' := by simpa [scanF] using congrArg Prod.fst hs
    exact ⟨0, h⟩
  | f + 1, pos, st, st', k, h, hs => by
    rw [scanF] at hs
    split at hs
    · cases ht : takeP st pos (Utf8.decode s pos).1 with
      | none => rw [ht] at hs; simp at hs
      | some st2 =>
        rw [ht] at hs
        exact scanF_inv s N f _ st2 st' k (h.take ht) hs
    · obtain rfl : st = st' := by simpa using congrArg Prod.fst hs
      exact ⟨_, h⟩
theorem scanP_inv {s : ByteArray} {R : List (List Sp)} (h : (scanP s).1 = some R) : R.length ≤ s.size + 1 ∧ ∀ r ∈ R, r ≠ [] ∧ r.length ≤ s.size + 1 := by
  unfold scanP at h
  split at h
  · obtain rfl := Option.some.inj h; simp
  · obtain ⟨F, hF⟩ : ∃ F, scanF s s.size 0 init = F := ⟨_, rfl⟩
    rw [hF] at h
    obtain ⟨F1, F2⟩ := F
    cases F1 with
    | none => simp [finP] at h
    | some st =>
      obtain ⟨g, p⟩ := scanF_inv s s.size s.size 0 init st F2 ⟨by simp [init], by simp [init], fun r hr => by simp [init] at hr⟩ hF
      simp only [finP] at h
      split at h
      · obtain rfl := Option.some.inj h
        obtain ⟨p1, p2, p3⟩ := p
        refine ⟨by simp; omega, fun r hr => ?_⟩
        rcases List.mem_append.1 hr with hr | hr
        · have := p3 r hr; exact ⟨this.1, by omega⟩
        · rw [List.mem_singleton.1 hr]; exact ⟨by simp, by simp; omega⟩
      · cases h
def readP (s : ByteArray) : List (List Acre.Pt) × Int × Int :=
  if 120 < s.size then ([], 1, 0)
  else match (scanP s).1 with
    | none => ([], 2, (scanP s).2)
    | some R => if (firstP R).1 = 0 then (R.map (fun r => r.map ptOf), 0, 0) else ([], (firstP R).1, (firstP R).2)
def ReadPost (s : ByteArray) (w : World) (e : Ending) (w' : World) : Prop :=
  ∃ u, e = .returned (.tuple #[u, .int .i64 (readP s).2.1, .int .i64 (readP s).2.2]) ∧ Answer w' w.heap.size u (readP s).1 ∧ Below w.heap.size w w'
theorem answer_nil (w : World) (base : Nat) : Answer w base (.slice none 0 0) [] := ⟨[], rfl, by simp, World.ownsRow_nil _ _ _ _, fun i h _ => by simp at h⟩
theorem Answer.base {w : World} {a b : Nat} {l : Value} {R : List (List Acre.Pt)} (h : Answer w b l R) (hab : a ≤ b) : Answer w a l R := by
  obtain ⟨vs, h1, h2, h3, h4⟩ := h
  refine ⟨vs, h1, h2, ⟨h3.1, ?_⟩, fun i hi hi' => ?_⟩
  · rcases h3.2 with e | ⟨g, cap, cur, q1, q2, q3⟩
    · exact Or.inl e
    · exact Or.inr ⟨g, cap, cur, q1, by omega, q3⟩
  · obtain ⟨ga, b', off, cap, q1, q2, q3⟩ := h4 i hi hi'
    exact ⟨ga, b', off, cap, q1, fun k => ⟨(q2 k).1, (q2 k).2.1, by have := (q2 k).2.2.1; omega, (q2 k).2.2.2⟩, q3⟩
theorem RSpots.later {w w' : World} {v : Value} {R : List (List Sp)} (h : RSpots w v R) (hb : Below w.heap.size w w') : RSpots w' v R := by
  obtain ⟨ga, b, off, cap, h1, h2, h3⟩ := h
  refine ⟨ga, b, off, cap, h1, h2, fun i hi => ?_⟩
  obtain ⟨u, q1, ga', b', off', cap', q2, q3, q4⟩ := h3 i hi
  exact ⟨u, cell_later hb q1, ga', b', off', cap', q2, fun k => ⟨(q3 k).1, Nat.lt_of_lt_of_le (q3 k).2 hb.size⟩, q4.later hb⟩
set_option maxHeartbeats 1000000 in
theorem read_any (s : ByteArray) (w : World) : Calls Tryz.prog 23 #[.string s] w (ReadPost s w) := by
  by_cases hl : 120 < s.size
  · have HP := hide (show readP s = ([], 1, 0) by rw [readP, if_pos hl])
    have hl' : (120 : Int) < (s.size : Int) := by omega
    go_enter Tryz.func23, Tryz.ntmps23
    go_wp2
    refine bodyPost_ret (v := .tuple #[.slice none 0 0, .int .i64 1, .int .i64 0]) (by simp [results, Tryz.results23, go_sem]) rfl ⟨.slice none 0 0, ?_, ?_, Below.refl _ _⟩
    · rw [HP.out]
    · rw [HP.out]; exact answer_nil _ _
  · have hl' : ¬ (120 : Int) < (s.size : Int) := by omega
    have ks := scan_any s w (by omega)
    cases hS : (scanP s).1 with
    | none =>
      have HP := hide (show readP s = ([], 2, (scanP s).2) by rw [readP, if_neg hl, hS])
      have ks' : Calls Tryz.prog 50 #[.string s] w fun e w' => ∃ v, e = .returned (.tuple #[v, .int .i64 (scanP s).2, .bool false]) ∧ Below w.heap.size w w' := ks.mono fun e w' h => by
        obtain ⟨v, h1, h2, _⟩ := h
        rw [hS] at h1
        exact ⟨v, h1, h2⟩
      have Ks := hide ks'
      clear ks ks' hS
      generalize (scanP s).2 = at' at *
      go_enter Tryz.func23, Tryz.ntmps23
      go_wp2_with fail
      refine Ks.out.mono ?_
      rintro e w1 ⟨v, rfl, hb1⟩
      go_wp2
      refine bodyPost_ret (v := .tuple #[.slice none 0 0, .int .i64 2, .int .i64 at']) (by simp [results, Tryz.results23, go_sem]) rfl ⟨.slice none 0 0, ?_, ?_, hb1⟩
      · rw [HP.out]
      · rw [HP.out]; exact answer_nil _ _
    | some R =>
      obtain ⟨hR1, hR2⟩ := scanP_inv hS
      have ks' : Calls Tryz.prog 50 #[.string s] w fun e w' => ∃ v, e = .returned (.tuple #[v, .int .i64 (scanP s).2, .bool true]) ∧ Below w.heap.size w w' ∧ RSpots w' v R := ks.mono fun e w' h => by
        obtain ⟨v, h1, h2, h3⟩ := h
        rw [hS] at h1
        exact ⟨v, h1, h2, h3 R hS⟩
      have Ks := hide ks'
      have hne : ∀ r ∈ R, r ≠ [] := fun r hr => (hR2 r hr).1
      have hlen : ∀ r ∈ R, r.length ≤ 1000 := fun r hr => by have := (hR2 r hr).2; omega
      have hRl : R.length ≤ 1000 := by omega
      by_cases hf : (firstP R).1 = 0
      · have HP := hide (show readP s = (R.map (fun r => r.map ptOf), 0, 0) by rw [readP, if_neg hl, hS]; simp only; rw [if_pos hf])
        have Kf := hide (fun W v hv => firstFault_any R v W hv hne hRl hlen)
        rw [hf] at Kf
        have Kp := hide (fun W v hv => pointsOf_any R v W hv hRl hlen)
        clear ks ks' hS hf hne hlen hR2
        generalize (firstP R).2 = fa at *
        generalize (scanP s).2 = at' at *
        go_enter Tryz.func23, Tryz.ntmps23
        go_wp2_with fail
        refine Ks.out.mono ?_
        rintro e w1 ⟨v, rfl, hb1, hv1⟩
        have Hv := hide hv1
        go_wp2_with fail
        refine (Kf.out w1 v Hv.out).mono ?_
        rintro e w2 ⟨rfl, hb2⟩
        have hv2 := hide (hv1.later hb2)
        clear hv1 Hv
        go_wp2_with fail
        refine (Kp.out w2 v hv2.out).mono ?_
        rintro e w3 ⟨u, rfl, hA, hb3⟩
        have hA' := hide (hA.base (Nat.le_trans hb1.size hb2.size))
        have hB := hide (below_call hb3 (below_call hb2 hb1))
        have hform : ∃ ga n cap, u = .slice ga n cap := by
          obtain ⟨vs, h1, h2, h3, h4⟩ := hA
          rcases h3.2 with ⟨rfl, _⟩ | ⟨g, cap, cur, rfl, _⟩ <;> exact ⟨_, _, _, rfl⟩
        obtain ⟨ga, n, cap, rfl⟩ := hform
        clear hA hv2 hb1 hb2 hb3
        go_wp2
        refine bodyPost_ret (v := .tuple #[.slice ga n cap, .int .i64 0, .int .i64 0]) (by simp [results, Tryz.results23, go_sem]) rfl ⟨.slice ga n cap, ?_, ?_, hB.out⟩
        · rw [HP.out]
        · rw [HP.out]; exact hA'.out
      · have HP := hide (show readP s = ([], (firstP R).1, (firstP R).2) by rw [readP, if_neg hl, hS]; simp only; rw [if_neg hf])
        have Kf := hide (fun W v hv => firstFault_any R v W hv hne hRl hlen)
        clear ks ks' hS hne hlen hR2
        generalize (firstP R).1 = fe at *
        generalize (firstP R).2 = fa at *
        generalize (scanP s).2 = at' at *
        have hfb : (fe == 0) = false := by simpa using hf
        clear hf
        go_enter Tryz.func23, Tryz.ntmps23
        go_wp2_with fail
        refine Ks.out.mono ?_
        rintro e w1 ⟨v, rfl, hb1, hv1⟩
        have Hv := hide hv1
        clear hv1
        go_wp2_with fail
        refine (Kf.out w1 v Hv.out).mono ?_
        rintro e w2 ⟨rfl, hb2⟩
        go_wp2
        refine bodyPost_ret (v := .tuple #[.slice none 0 0, .int .i64 fe, .int .i64 fa]) (by simp [results, Tryz.results23, go_sem]) rfl ⟨.slice none 0 0, ?_, ?_, below_call hb2 hb1⟩
        · rw [HP.out]
        · rw [HP.out]; exact answer_nil _ _
end Go.Proofs.YtkjlkbgdkdcboaaGreatDoor

set_option linter.unusedSimpArgs false
set_option linter.unusedVariables false
namespace Go.Proofs.YtkjlkbgdkdcboaaGreatDoor
def minI (a b : Int) : Int := if b < a then b else a
def farN (n : Int × Int) : Int := farP n.2 n.1 NW
def farF (a : Int) (l : List (Int × Int)) : Int := l.foldl (fun x n => minI x (farN n)) a
theorem ffFar_eq (far : Int) (r : List Sp) : ffFar far r = farF far (r.flatMap fl) := by
  induction r generalizing far with
  | nil => rfl
  | cons p t ih =>
    have : ffFar far (p :: t) = ffFar (ffPt far p) t := rfl
    rw [this, ih]
    rfl
def IncN : Int → List (Int × Int) → Int → Prop
  | lo, [], hi => lo ≤ hi
  | lo, n :: t, hi => lo ≤ n.2 ∧ IncN (n.2 + 1) t hi
def IncR : Int → List (List (Int × Int)) → Int → Prop
  | lo, [], hi => lo ≤ hi
  | lo, l :: t, hi => ∃ mid, IncN lo l mid ∧ IncR mid t hi
theorem IncN.le {lo hi : Int} {l : List (Int × Int)} (h : IncN lo l hi) : lo ≤ hi := by
  induction l generalizing lo with
  | nil => exact h
  | cons n t ih => have := ih h.2; have := h.1; omega
theorem IncR.le {lo hi : Int} {L : List (List (Int × Int))} (h : IncR lo L hi) : lo ≤ hi := by
  induction L generalizing lo with
  | nil => exact h
  | cons l t ih => obtain ⟨mid, h1, h2⟩ := h; have := h1.le; have := ih h2; omega
theorem IncN.down {lo lo' hi : Int} {l : List (Int × Int)} (h : IncN lo l hi) (hl : lo' ≤ lo) : IncN lo' l hi := by
  cases l with
  | nil => exact Int.le_trans hl h
  | cons n t => exact ⟨Int.le_trans hl h.1, h.2⟩
theorem IncN.append {lo mid hi : Int} {a b : List (Int × Int)} (h : IncN lo a mid) (k : IncN mid b hi) : IncN lo (a ++ b) hi := by
  induction a generalizing lo with
  | nil => exact k.down h
  | cons n t ih => exact ⟨h.1, ih h.2⟩
theorem IncN.get {lo hi : Int} {l : List (Int × Int)} (h : IncN lo l hi) {k : Nat} (hk : k < l.length) : lo + k ≤ l[k].2 ∧ l[k].2 < hi := by
  induction l generalizing lo k with
  | nil => simp at hk
  | cons n t ih =>
    cases k with
    | zero => have := h.1; have := IncN.le h.2; simp; omega
    | succ k =>
      have := ih h.2 (k := k) (by simpa using hk)
      have := h.1
      simp only [List.getElem_cons_succ]
      omega
theorem farN_le (n : Int × Int) : farN n = NW ∨ farN n = n.2 := by unfold farN farP; split <;> simp
theorem farF_cons (a : Int) (n : Int × Int) (t : List (Int × Int)) : farF a (n :: t) = farF (minI a (farN n)) t := rfl
theorem farF_min (a : Int) (l : List (Int × Int)) (ha : a ≤ NW) : farF a l = minI a (farF NW l) ∧ farF NW l ≤ NW := by
  induction l generalizing a with
  | nil => constructor <;> simp [farF, minI] <;> omega
  | cons n t ih =>
    have hb : minI a (farN n) ≤ NW := by unfold minI; split <;> omega
    have hc : minI NW (farN n) ≤ NW := by unfold minI; split <;> omega
    have h1 := (ih (minI a (farN n)) hb).1
    have h2 := (ih (minI NW (farN n)) hc)
    rw [farF_cons, farF_cons, h1, h2.1]
    have h3 := (ih NW (Int.le_refl _)).2
    refine ⟨?_, ?_⟩
    · simp only [minI]; repeat' split
      all_goals omega
    · simp only [minI] at hc ⊢; repeat' split
      all_goals omega
theorem farF_low {lo hi : Int} {l : List (Int × Int)} (h : IncN lo l hi) (hh : hi ≤ NW) : lo ≤ farF NW l ∧ (farF NW l = NW ∨ farF NW l < hi) := by
  induction l generalizing lo with
  | nil => exact ⟨by have := h; simp only [IncN] at this; simp [farF]; omega, Or.inl rfl⟩
  | cons n t ih =>
    have h1 := ih h.2
    have h0 := h.1
    have hle := IncN.le h.2
    have hn := farN_le n
    rw [farF_cons, (farF_min (minI NW (farN n)) t (by unfold minI; split <;> omega)).1]
    simp only [minI]
    repeat' split
    all_goals omega
theorem wNums_const {hi : Int} : ∀ (l : List (Int × Int)) (k : Nat) (p : Int × Int), p.1 ≠ 0 → IncN (p.2 + 1) l hi → wNums k l p = p
  | [], _, _, _, _ => rfl
  | n :: t, k, p, hp, h => by
    have h1 := h.1
    have e1 : wSide n p = p := by unfold wSide; rw [if_neg (by omega)]
    have e2 : wMany k n p = p := by unfold wMany; rw [if_neg (by omega)]
    rw [wNums, e1, e2]
    exact wNums_const t (k + 1) p hp (h.2.down (by omega))
def manyF (k : Nat) (l : List (Int × Int)) : Int := if k ≤ 12 then ((l[12 - k]?).map (fun n => n.2)).getD NW else NW
def end2 (f m : Int) : Int × Int := if minI f m = NW then (0, 0) else if minI f m = f then (5, f) else (3, m)
theorem manyF_cons {k : Nat} {n : Int × Int} {t : List (Int × Int)} (hk : k ≠ 12) : manyF k (n :: t) = manyF (k + 1) t := by
  unfold manyF
  by_cases h : k ≤ 12
  · rw [if_pos h, if_pos (by omega)]
    have e : 12 - k = (12 - (k + 1)) + 1 := by omega
    rw [e, List.getElem?_cons_succ]
  · rw [if_neg h, if_neg (by omega)]
theorem manyF_low {lo hi : Int} {l : List (Int × Int)} (h : IncN lo l hi) (hh : hi ≤ NW) (k : Nat) : lo ≤ manyF k l ∧ (manyF k l = NW ∨ manyF k l < hi) := by
  have hle := h.le
  unfold manyF
  split
  · by_cases hk : 12 - k < l.length
    · rw [List.getElem?_eq_getElem hk]
      have := h.get hk
      simp only [Option.map_some, Option.getD_some]
      omega
    · rw [List.getElem?_eq_none (by omega)]
      exact ⟨by simp; omega, Or.inl rfl⟩
  · exact ⟨by omega, Or.inl rfl⟩
theorem wNums_zero {hi : Int} (hh : hi ≤ NW) : ∀ (l : List (Int × Int)) (k : Nat) (lo : Int), IncN lo l hi → wNums k l (0, 0) = end2 (farF NW l) (manyF k l)
  | [], k, lo, h => by
    have : manyF k [] = NW := by unfold manyF; split <;> simp
    rw [this]; simp [wNums, end2, farF, minI]
  | n :: t, k, lo, h => by
    have h0 := h.1
    have hle := IncN.le h.2
    have hf := farF_low h.2 hh
    have hm := manyF_low h.2 hh (k + 1)
    have hmk := manyF_low h hh k
    rw [wNums, farF_cons, (farF_min (minI NW (farN n)) t (by unfold minI; split <;> omega)).1]
    by_cases hfar : 12 < n.1 ∨ n.1 < -12
    · have e1 : wSide n (0, 0) = (5, n.2) := by unfold wSide; rw [if_pos ⟨hfar, Or.inl rfl⟩]
      have e2 : wMany k n (5, n.2) = (5, n.2) := by unfold wMany; rw [if_neg (by simp)]
      have e3 : farN n = n.2 := by unfold farN farP; rw [if_neg (by omega)]
      rw [e1, e2, wNums_const t (k + 1) (5, n.2) (by simp) h.2, e3]
      have e4 : n.2 ≤ manyF k (n :: t) := by
        by_cases hk : k = 12
        · subst hk; simp [manyF]
        · rw [manyF_cons hk]; omega
      unfold end2
      simp only [minI]
      repeat' split
      all_goals first | rfl | omega
    · have e1 : wSide n (0, 0) = (0, 0) := by unfold wSide; rw [if_neg (by intro x; exact hfar x.1)]
      have e3 : farN n = NW := by unfold farN farP; rw [if_pos (by omega)]
      have e4 : minI (minI NW (farN n)) (farF NW t) = farF NW t := by
        rw [e3]
        have := (farF_min NW t (Int.le_refl _)).2
        simp only [minI]
        repeat' split
        all_goals omega
      rw [e1, e4]
      by_cases hk : k = 12
      · subst hk
        have e2 : wMany 12 n (0, 0) = (3, n.2) := by unfold wMany; rw [if_pos ⟨rfl, Or.inl rfl⟩]
        have e5 : manyF 12 (n :: t) = n.2 := by simp [manyF]
        rw [e2, wNums_const t (12 + 1) (3, n.2) (by simp) h.2, e5]
        unfold end2
        simp only [minI]
        repeat' split
        all_goals first | rfl | omega
      · have e2 : wMany k n (0, 0) = (0, 0) := by unfold wMany; rw [if_neg (by intro x; exact hk x.1)]
        rw [e2, manyF_cons hk]
        exact wNums_zero hh t (k + 1) _ h.2
structure Ahead (s : FF) (lo : Int) : Prop where
  a : s.far = NW ∨ s.far < lo
  b : s.many = NW ∨ s.many < lo
  c : s.few = NW ∨ s.few < lo
theorem ffEnd_eq (s : FF) : ffEnd s = if minI (minI s.far s.many) s.few = NW then (0, 0) else if minI (minI s.far s.many) s.few = s.far then (5, minI (minI s.far s.many) s.few) else if minI (minI s.far s.many) s.few = s.many then (3, minI (minI s.far s.many) s.few) else (4, minI (minI s.far s.many) s.few) := rfl
theorem spots_len (r : List Sp) : (r.flatMap fl).length = 2 * r.length := by
  induction r with
  | nil => rfl
  | cons p t ih => simp only [List.flatMap_cons, List.length_append, ih, fl, List.length_cons, List.length_nil]; omega
theorem flat_head {r : List Sp} (h : r ≠ []) : ((r.flatMap fl).headD (0, 0)).2 = (r.headD default).1.1 := by
  cases r with
  | nil => exact absurd rfl h
  | cons p t => rfl
theorem spots_get : ∀ (r : List Sp) (k : Nat) (h : k < r.length), (r.flatMap fl)[2 * k]? = some (r[k].1.2, r[k].1.1)
  | p :: t, 0, _ => rfl
  | p :: t, k + 1, h => by
    have e : 2 * (k + 1) = 2 * k + 1 + 1 := by omega
    have := spots_get t k (by simpa using h)
    simp only [List.flatMap_cons, fl, List.cons_append, List.nil_append, e, List.getElem?_cons_succ, List.getElem_cons_succ] at this ⊢
    exact this
theorem minI_spec (a b : Int) : (minI a b = a ∧ a ≤ b) ∨ (minI a b = b ∧ b < a) := by
  unfold minI; split <;> omega
theorem ffEnd_far {s : FF} (h1 : s.far ≤ s.many) (h2 : s.far ≤ s.few) (h3 : s.far ≠ NW) : ffEnd s = (5, s.far) := by
  have e : minI (minI s.far s.many) s.few = s.far := by
    have := minI_spec s.far s.many; have := minI_spec (minI s.far s.many) s.few; omega
  rw [ffEnd_eq, e, if_neg h3, if_pos rfl]
theorem ffEnd_many {s : FF} (h1 : s.many < s.far) (h2 : s.many ≤ s.few) (h3 : s.many ≠ NW) : ffEnd s = (3, s.many) := by
  have e : minI (minI s.far s.many) s.few = s.many := by
    have := minI_spec s.far s.many; have := minI_spec (minI s.far s.many) s.few; omega
  rw [ffEnd_eq, e, if_neg h3, if_neg (by omega), if_pos rfl]
theorem ffEnd_few {s : FF} (h1 : s.few < s.far) (h2 : s.few < s.many) (h3 : s.few ≠ NW) : ffEnd s = (4, s.few) := by
  have e : minI (minI s.far s.many) s.few = s.few := by
    have := minI_spec s.far s.many; have := minI_spec (minI s.far s.many) s.few; omega
  rw [ffEnd_eq, e, if_neg h3, if_neg (by omega), if_neg (by omega)]
theorem ffEnd_none {s : FF} (h1 : s.far = NW) (h2 : s.many = NW) (h3 : s.few = NW) : ffEnd s = (0, 0) := by
  rw [ffEnd_eq, h1, h2, h3]; simp [minI]
theorem end2_far {f m : Int} (h1 : f ≤ m) (h2 : f ≠ NW) : end2 f m = (5, f) := by
  have e : minI f m = f := by have := minI_spec f m; omega
  rw [end2, e, if_neg h2, if_pos rfl]
theorem end2_many {f m : Int} (h1 : m < f) (h2 : m ≠ NW) : end2 f m = (3, m) := by
  have e : minI f m = m := by have := minI_spec f m; omega
  rw [end2, e, if_neg h2, if_neg (by omega)]
theorem end2_none {f m : Int} (h1 : f = NW) (h2 : m = NW) : end2 f m = (0, 0) := by
  rw [end2, h1, h2]; simp [minI]
set_option maxHeartbeats 8000000 in
theorem ring_first (i : Nat) (s : FF) (r : List Sp) (lo hi : Int) (hr : r ≠ []) (hI : IncN lo (r.flatMap fl) hi) (hh : hi ≤ NW) (hA : Ahead s lo) :
    wNums 0 (r.flatMap fl) (wHead i (r.flatMap fl) (ffEnd s)) = ffEnd (ffRing i s r) ∧ Ahead (ffRing i s r) hi := by
  obtain ⟨a1, a2, a3⟩ := hA
  obtain ⟨l, hl⟩ : ∃ l, r.flatMap fl = l := ⟨_, rfl⟩
  have hlen := spots_len r
  have hhd := flat_head hr
  have hpos : 0 < r.length := List.length_pos_iff.2 hr
  have hF : ffRing i s r = ⟨farF s.far l, (if 6 < r.length then minI (if 2 ≤ i then minI s.many (l.headD (0, 0)).2 else s.many) (manyF 0 l) else (if 2 ≤ i then minI s.many (l.headD (0, 0)).2 else s.many)), (if r.length < 3 then minI s.few (l.headD (0, 0)).2 else s.few)⟩ := by
    unfold ffRing ffMany2 ffMany1 ffFew
    rw [ffFar_eq, hl, ← hhd, hl]
    congr 1
    by_cases h6 : 6 < r.length
    · rw [if_pos h6, if_pos h6]
      have e : manyF 0 l = (r.getD 6 default).1.1 := by
        have g := spots_get r 6 h6
        rw [hl] at g
        have g' : l[12]? = some (r[6].1.2, r[6].1.1) := g
        unfold manyF
        rw [if_pos (by omega)]
        simp only [Nat.sub_zero]
        rw [g', List.getD_eq_getElem?_getD, List.getElem?_eq_getElem h6]
        rfl
      rw [e]; rfl
    · rw [if_neg h6, if_neg h6]; rfl
  have hM6 : ¬ 6 < r.length → manyF 0 l = NW := fun h6 => by
    unfold manyF
    rw [if_pos (by omega), List.getElem?_eq_none (by rw [← hl, hlen]; omega)]
    rfl
  rw [hF]
  rw [hl] at hI hlen ⊢
  clear hF hhd hl
  cases l with
  | nil => simp at hlen; omega
  | cons n t =>
    have h0 := hI.1
    have hle := IncN.le hI.2
    have hM := manyF_low hI hh 0
    have hM1 := manyF_low hI.2 hh 1
    rw [← manyF_cons (n := n) (by decide)] at hM1
    have hG := farF_low hI hh
    have hGt := farF_low hI.2 hh
    have hGc : farF NW (n :: t) = minI (minI NW (farN n)) (farF NW t) := (farF_min (minI NW (farN n)) t (by have := minI_spec NW (farN n); omega)).1
    have hfn := farN_le n
    have hff := (farF_min s.far (n :: t) (by omega)).1
    have m1 := minI_spec NW (farN n)
    have m2 := minI_spec (minI NW (farN n)) (farF NW t)
    rw [← hGc] at m2
    rw [hff]
    simp only [List.headD_cons]
    have hz := wNums_zero hh (n :: t) 0 lo hI
    generalize farF NW (n :: t) = G at *
    generalize manyF 0 (n :: t) = M at *
    have m3 := minI_spec s.far G
    have m4 := minI_spec s.many n.2
    have m5 := minI_spec s.few n.2
    -- the new many, the new few
    obtain ⟨F', hF'⟩ : ∃ F', minI s.far G = F' := ⟨_, rfl⟩
    obtain ⟨M1, hM1e⟩ : ∃ M1, (if 2 ≤ i then minI s.many n.2 else s.many) = M1 := ⟨_, rfl⟩
    obtain ⟨M', hM'e⟩ : ∃ M', (if 6 < r.length then minI M1 M else M1) = M' := ⟨_, rfl⟩
    obtain ⟨W', hW'e⟩ : ∃ W', (if r.length < 3 then minI s.few n.2 else s.few) = W' := ⟨_, rfl⟩
    rw [hM1e, hM'e, hW'e, hF']
    rw [hF'] at m3
    have q1 : (2 ≤ i ∧ M1 = minI s.many n.2) ∨ (¬ 2 ≤ i ∧ M1 = s.many) := by
      by_cases h : 2 ≤ i
      · rw [if_pos h] at hM1e; exact Or.inl ⟨h, hM1e.symm⟩
      · rw [if_neg h] at hM1e; exact Or.inr ⟨h, hM1e.symm⟩
    have m6 := minI_spec M1 M
    have q2 : (6 < r.length ∧ M' = minI M1 M) ∨ (¬ 6 < r.length ∧ M = NW ∧ M' = M1) := by
      by_cases h : 6 < r.length
      · rw [if_pos h] at hM'e; exact Or.inl ⟨h, hM'e.symm⟩
      · rw [if_neg h] at hM'e; exact Or.inr ⟨h, hM6 h, hM'e.symm⟩
    have q3 : (r.length < 3 ∧ W' = minI s.few n.2) ∨ (¬ r.length < 3 ∧ W' = s.few) := by
      by_cases h : r.length < 3
      · rw [if_pos h] at hW'e; exact Or.inl ⟨h, hW'e.symm⟩
      · rw [if_neg h] at hW'e; exact Or.inr ⟨h, hW'e.symm⟩
    clear hM1e hM'e hW'e hF' hff hM6 hGc
    have hlen2 : (n :: t).length = 2 * r.length := hlen
    have hw : wHead i (n :: t) (ffEnd s) = if (2 ≤ i ∨ (n :: t).length < 6) ∧ ((ffEnd s).1 = 0 ∨ n.2 < (ffEnd s).2) then ((if 2 ≤ i then 3 else 4 : Int), n.2) else ffEnd s := rfl
    have g1 : lo ≤ G := hG.1
    have g2 : n.2 + 1 ≤ M := hM1.1
    have A1 : F' = NW ∨ F' < hi := by clear q1 q2 q3 m1 m2 m4 m5 m6 a2 a3 hM hM1 hGt hfn; omega
    have A3 : W' = NW ∨ W' < hi := by clear q1 q2 m1 m2 m3 m4 m6 a1 a2 hM hM1 hGt hfn hG; omega
    have A2' : M1 = NW ∨ M1 < hi := by clear q2 q3 m1 m2 m3 m5 m6 a1 a3 hM hM1 hGt hfn hG; omega
    have A2 : M' = NW ∨ M' < hi := by clear q1 q3 m1 m2 m3 m4 m5 a1 a2 a3 hM1 hGt hfn hG; omega
    refine ⟨?_, ⟨A1, A2, A3⟩⟩
    clear A1 A2 A2' A3
    rw [hw]
    clear hw hlen
    by_cases c0 : s.far = NW ∧ s.many = NW ∧ s.few = NW
    · obtain ⟨c1, c2, c3⟩ := c0
      rw [ffEnd_none c1 c2 c3]
      have eF : F' = G := by clear q1 q2 q3 m1 m2 m4 m5 m6 a1 a2 a3 hM hM1 hGt hfn; omega
      have eW : (r.length < 3 ∧ W' = n.2) ∨ (¬ r.length < 3 ∧ W' = NW) := by clear q1 q2 m1 m2 m3 m4 m6 a1 a2 a3 hM hM1 hGt hfn hG; omega
      have eM1 : (2 ≤ i ∧ M1 = n.2) ∨ (¬ 2 ≤ i ∧ M1 = NW) := by clear q2 q3 m1 m2 m3 m5 m6 a1 a2 a3 hM hM1 hGt hfn hG eW; omega
      have eM : (2 ≤ i ∧ M' = n.2) ∨ (¬ 2 ≤ i ∧ M' = M) := by clear q1 q3 m1 m2 m3 m4 m5 a1 a2 a3 hM1 hGt hfn hG eW; omega
      have hGn : (farN n = n.2 ∧ G = n.2) ∨ (farN n = NW ∧ n.2 + 1 ≤ G) := by clear q1 q2 q3 m3 m4 m5 m6 a1 a2 a3 hM hM1 eW eM eM1 hG; omega
      have hMN : M ≤ NW := by omega
      have hGN : G ≤ NW := by omega
      subst eF
      clear q1 q2 q3 m1 m2 m3 m4 m5 m6 a1 a2 a3 hM hM1 hGt hfn hG eM1
      by_cases hhd : 2 ≤ i ∨ r.length < 3
      · rw [if_pos ⟨by omega, Or.inl rfl⟩]
        obtain ⟨e, he⟩ : ∃ e : Int, (if 2 ≤ i then 3 else 4 : Int) = e := ⟨_, rfl⟩
        rw [he]
        have he2 : (2 ≤ i ∧ e = 3) ∨ (¬ 2 ≤ i ∧ e = 4) := by
          by_cases h : 2 ≤ i
          · rw [if_pos h] at he; exact Or.inl ⟨h, he.symm⟩
          · rw [if_neg h] at he; exact Or.inr ⟨h, he.symm⟩
        rw [wNums]
        have e2 : ∀ p : Int × Int, wMany 0 n p = p := fun p => by unfold wMany; rw [if_neg (by omega)]
        rw [e2]
        by_cases hfar : 12 < n.1 ∨ n.1 < -12
        · have e1 : wSide n (e, n.2) = (5, n.2) := by unfold wSide; rw [if_pos ⟨hfar, Or.inr (Or.inr ⟨rfl, by simp only; omega⟩)⟩]
          have e3 : farN n = n.2 := by unfold farN farP; rw [if_neg (by omega)]
          rw [e1, wNums_const t (0 + 1) (5, n.2) (by simp) hI.2, ffEnd_far (by simp only; omega) (by simp only; omega) (by simp only; omega)]
          simp only [Prod.mk.injEq, true_and]
          omega
        · have e1 : wSide n (e, n.2) = (e, n.2) := by unfold wSide; rw [if_neg (fun h => hfar h.1)]
          have e3 : farN n = NW := by unfold farN farP; rw [if_pos (by omega)]
          rw [e1, wNums_const t (0 + 1) (e, n.2) (by simp only; omega) hI.2]
          rcases he2 with ⟨hi2, rfl⟩ | ⟨hi2, rfl⟩
          · rw [ffEnd_many (by simp only; omega) (by simp only; omega) (by simp only; omega)]
            simp only [Prod.mk.injEq, true_and]
            omega
          · rw [ffEnd_few (by simp only; omega) (by simp only; omega) (by simp only; omega)]
            simp only [Prod.mk.injEq, true_and]
            omega
      · rw [if_neg (by omega), hz]
        by_cases d1 : F' = NW ∧ M = NW
        · rw [end2_none d1.1 d1.2, ffEnd_none (by simp only; omega) (by simp only; omega) (by simp only; omega)]
        · by_cases d2 : F' ≤ M
          · rw [end2_far d2 (by omega), ffEnd_far (by simp only; omega) (by simp only; omega) (by simp only; omega)]
          · rw [end2_many (by omega) (by omega), ffEnd_many (by simp only; omega) (by simp only; omega) (by simp only; omega)]
            simp only [Prod.mk.injEq, true_and]
            omega
    · have Q1 : F' = s.far ∨ (lo ≤ F' ∧ F' < s.far) := by clear q1 q2 q3 m1 m2 m4 m5 m6 a1 a2 a3 hM hM1 hGt hfn hG; omega
      have Q3 : W' = s.few ∨ (lo ≤ W' ∧ W' < s.few) := by clear q1 q2 m1 m2 m3 m4 m6 a1 a2 a3 hM hM1 hGt hfn hG; omega
      have Q2' : M1 = s.many ∨ (lo ≤ M1 ∧ M1 < s.many) := by clear q2 q3 m1 m2 m3 m5 m6 a1 a2 a3 hM hM1 hGt hfn hG; omega
      have Q2 : M' = s.many ∨ (lo ≤ M' ∧ M' < s.many) := by clear q1 q3 m1 m2 m3 m4 m5 a1 a2 a3 hM hM1 hGt hfn hG Q1 Q3; omega
      clear q1 q2 q3 m1 m2 m3 m4 m5 m6 hM hM1 hGt hfn hG Q2' hz
      by_cases d1 : s.far ≤ s.many ∧ s.far ≤ s.few
      · have e0 := ffEnd_far d1.1 d1.2 (by omega)
        rw [e0, if_neg (by simp only; omega), wNums_const (n :: t) 0 (5, s.far) (by simp) (hI.down (by simp only; omega)), ffEnd_far (by simp only; omega) (by simp only; omega) (by simp only; omega)]
        simp only [Prod.mk.injEq, true_and]
        omega
      · by_cases d2 : s.many < s.far ∧ s.many ≤ s.few
        · have e0 := ffEnd_many d2.1 d2.2 (by omega)
          rw [e0, if_neg (by simp only; omega), wNums_const (n :: t) 0 (3, s.many) (by simp) (hI.down (by simp only; omega)), ffEnd_many (by simp only; omega) (by simp only; omega) (by simp only; omega)]
          simp only [Prod.mk.injEq, true_and]
          omega
        · have e0 := ffEnd_few (s := s) (by omega) (by omega) (by omega)
          rw [e0, if_neg (by simp only; omega), wNums_const (n :: t) 0 (4, s.few) (by simp) (hI.down (by simp only; omega)), ffEnd_few (by simp only; omega) (by simp only; omega) (by simp only; omega)]
          simp only [Prod.mk.injEq, true_and]
          omega
theorem rings_first {hi : Int} (hh : hi ≤ NW) : ∀ (R : List (List Sp)) (i : Nat) (s : FF) (lo : Int), (∀ r ∈ R, r ≠ []) → IncR lo (R.map (fun r => r.flatMap fl)) hi → Ahead s lo → wRings i (R.map (fun r => r.flatMap fl)) (ffEnd s) = ffEnd (ffAll i s R)
  | [], _, _, _, _, _, _ => rfl
  | r :: R, i, s, lo, hne, hI, hA => by
    obtain ⟨mid, h1, h2⟩ := hI
    have hm := IncR.le h2
    obtain ⟨q1, q2⟩ := ring_first i s r lo mid (hne r (List.mem_cons_self)) h1 (by omega) hA
    simp only [List.map_cons, wRings, ffAll]
    rw [q1]
    exact rings_first hh R (i + 1) _ mid (fun x hx => hne x (List.mem_cons_of_mem _ hx)) h2 q2
end Go.Proofs.YtkjlkbgdkdcboaaGreatDoor
namespace Go.Proofs.YtkjlkbgdkdcboaaGreatDoor
theorem num_inc {s : ByteArray} {i : Nat} (hi : i ≤ s.size) (hb : (numP s i (-1)).2.2 = -1) : i < (numP s i (-1)).2.1 ∧ (numP s i (-1)).2.1 ≤ s.size := by
  rcases num_sim s i init rfl hi with ⟨h, _⟩ | ⟨_, h2, h3, _⟩
  · rw [hb] at h; omega
  · exact ⟨h3, h2⟩
theorem num_bad {s : ByteArray} {i : Nat} (hi : i ≤ s.size) : (numP s i (-1)).2.2 = -1 ∨ 0 ≤ (numP s i (-1)).2.2 := by
  rcases num_sim s i init rfl hi with ⟨h, _⟩ | ⟨h, _⟩
  · exact Or.inr h
  · exact Or.inl h
theorem point_inc {s : ByteArray} {i : Nat} (hi : i ≤ s.size) (hb : (pointE s i (-1)).2 = -1) : IncN i (pointL s i (-1)) (pointE s i (-1)).1 ∧ (pointE s i (-1)).1 ≤ s.size := by
  unfold pointE pointL at *
  obtain ⟨X, hX⟩ : ∃ X, numP s i (-1) = X := ⟨_, rfl⟩
  have n1 := num_bad hi
  have n2 := num_inc hi
  rw [hX] at n1 n2
  simp only [hX] at hb ⊢
  obtain ⟨v1, j, bd⟩ := X
  rcases n1 with e | e
  · simp only at e
    subst e
    obtain ⟨n3, n4⟩ := n2 rfl
    simp only at n3 n4
    by_cases h44 : bt s j = 44
    · have hjl := bt_pos (s := s) (k := j) (by omega)
      simp only [mustS_yes h44] at hb ⊢
      obtain ⟨k1, k2⟩ := num_inc (s := s) (i := j + 1) (by omega) hb
      refine ⟨⟨by simp, ⟨?_, ?_⟩⟩, k2⟩
      · simp only; omega
      · simp only [IncN]; omega
    · simp only [mustS_no h44, numP_bad (show (0 : Int) ≤ (j : Int) by omega)] at hb
      omega
  · simp only at e
    simp only [mustS_bad e, numP_bad e] at hb
    omega
theorem row_inc (s : ByteArray) : ∀ (n i : Nat), i ≤ s.size → s.size < i + n → (rowF s n i (-1)).2.2 = -1 → IncN i (rowF s n i (-1)).1 (rowF s n i (-1)).2.1 ∧ (rowF s n i (-1)).2.1 ≤ s.size
  | 0, i, hi, hn, hb => by omega
  | n + 1, i, hi, hn, hb => by
    have p := point_inc hi (s := s)
    have ps := point_sim s i init rfl rfl hi
    unfold PointSim at ps
    rw [rowF] at hb ⊢
    obtain ⟨P, hP⟩ : ∃ P, pointE s i (-1) = P := ⟨_, rfl⟩
    simp only [hP] at p ps hb ⊢
    obtain ⟨j, bd⟩ := P
    have hbd : bd = -1 := by
      rcases ps with ⟨e, _⟩ | ⟨e, _⟩
      · simp only at e
        simp only [onP_bad e] at hb
        simpa using hb
      · exact e
    subst hbd
    obtain ⟨p1, p2⟩ := p rfl
    simp only [onP_neg] at hb ⊢
    by_cases h32 : bt s j = 32
    · have hjl := bt_pos (s := s) (k := j) (by omega)
      rw [if_pos (decide_eq_true h32)] at hb ⊢
      have q := row_inc s n (j + 1) (by omega) (by have := p1.le; simp only at this; omega) hb
      exact ⟨p1.append (q.1.down (by simp only; omega)), q.2⟩
    · rw [if_neg (by rw [decide_eq_true_eq]; exact h32)]
      exact ⟨p1, p2⟩
theorem rings_inc (s : ByteArray) : ∀ (n i : Nat), i ≤ s.size → s.size < i + n → badAt s.size (ringsF s n i (-1)).2.1 (ringsF s n i (-1)).2.2 = -1 → IncR i (ringsF s n i (-1)).1 s.size
  | 0, i, hi, hn, hb => by omega
  | n + 1, i, hi, hn, hb => by
    have p := row_inc s (s.size + 1) i hi (by omega)
    have ps := row_sim s (s.size + 1) i init rfl rfl hi (by omega)
    unfold RowSim at ps
    rw [ringsF] at hb ⊢
    obtain ⟨P, hP⟩ : ∃ P, rowF s (s.size + 1) i (-1) = P := ⟨_, rfl⟩
    simp only [hP] at p ps hb ⊢
    obtain ⟨L, j, bd⟩ := P
    have hbd : bd = -1 := by
      rcases ps with ⟨e, _⟩ | ⟨e, _⟩
      · simp only at e
        simp only [onP_bad e] at hb
        rw [if_neg (by simp)] at hb
        simp only [badAt_bad e] at hb
        exact hb
      · exact e
    subst hbd
    obtain ⟨p1, p2⟩ := p rfl
    simp only at p2
    simp only [onP_neg] at hb ⊢
    by_cases h59 : bt s j = 59
    · have hjl := bt_pos (s := s) (k := j) (by omega)
      rw [if_pos (decide_eq_true h59)] at hb ⊢
      have q := rings_inc s n (j + 1) (by omega) (by have := p1.le; simp only at this; omega) hb
      refine ⟨((j + 1 : Nat) : Int), ?_, q⟩
      have : IncN (i : Int) (L ++ []) ((j + 1 : Nat) : Int) := p1.append (by simp only [IncN]; omega)
      simpa using this
    · rw [if_neg (by rw [decide_eq_true_eq]; exact h59)]
      exact ⟨(j : Int), p1, by simp only [IncR]; omega⟩
theorem prOf_flat (r : List Sp) : prOf (r.flatMap fl) = r.map ptOf := by
  induction r with
  | nil => rfl
  | cons p t ih =>
    simp only [List.flatMap_cons, fl, List.cons_append, List.nil_append, prOf, List.map_cons, ih]
    rfl
theorem reads_same (s : ByteArray) : readP s = rreadP s := by
  unfold readP rreadP
  by_cases hl : 120 < s.size
  · rw [if_pos hl, if_pos hl]
  · rw [if_neg hl, if_neg hl]
    rcases scan_rings s with ⟨hb, hs⟩ | ⟨hb, R, hs, hL⟩
    · rw [if_pos hb, hs]
    · rw [if_neg (by omega), hs]
      simp only
      have hinv := scanP_inv (s := s) (R := R) (by rw [hs])
      have hw : wRings 0 (ringsP s).1 (0, 0) = firstP R := by
        have e0 : ffEnd ⟨NW, NW, NW⟩ = (0, 0) := ffEnd_none rfl rfl rfl
        rw [hL, ← e0]
        refine rings_first (hi := (s.size : Int)) (by unfold NW; omega) R 0 ⟨NW, NW, NW⟩ 0 (fun r hr => (hinv.2 r hr).1) ?_ ⟨Or.inl rfl, Or.inl rfl, Or.inl rfl⟩
        rw [← hL]
        by_cases h0 : s.size = 0
        · rw [ringsP, if_pos h0]; simp only [IncR]; omega
        · rw [ringsP, if_neg h0] at hb ⊢
          exact rings_inc s (s.size + 1) 0 (by omega) (by omega) hb
      rw [hw, hL]
      by_cases hf : (firstP R).1 = 0
      · rw [if_pos hf, if_pos hf]
        simp only [List.map_map, Prod.mk.injEq, and_true]
        refine List.map_congr_left fun r _ => ?_
        exact (prOf_flat r).symm
      · rw [if_neg hf, if_neg hf]
end Go.Proofs.YtkjlkbgdkdcboaaGreatDoor
namespace Go.Proofs.YtkjlkbgdkdcboaaGreatDoor
theorem minI_ge {a b : Int} (h : NW ≤ minI a b) : NW ≤ a ∧ NW ≤ b := by
  unfold minI at h; split at h <;> omega
theorem farF_ge : ∀ (l : List (Int × Int)) (a : Int), NW ≤ farF a l → NW ≤ a ∧ ∀ n ∈ l, NW ≤ farN n
  | [], a, h => ⟨h, by simp⟩
  | n :: t, a, h => by
    rw [farF_cons] at h
    obtain ⟨h1, h2⟩ := farF_ge t _ h
    have h3 := minI_ge h1
    refine ⟨h3.1, fun m hm => ?_⟩
    rcases List.mem_cons.1 hm with rfl | hm
    · exact h3.2
    · exact h2 m hm
theorem farN_ok {n : Int × Int} (h : NW ≤ farN n) (hp : n.2 < NW) : -12 ≤ n.1 ∧ n.1 ≤ 12 := by
  unfold farN farP at h
  split at h
  · assumption
  · omega
theorem least1_ge {f a : Int} (h : NW ≤ leastP f [a]) : NW ≤ f ∧ NW ≤ a := minI_ge h
structure RingFine (i : Nat) (r : List Sp) : Prop where
  far : ∀ n ∈ r.flatMap fl, NW ≤ farN n
  many1 : 2 ≤ i → NW ≤ (r.headD default).1.1
  many2 : 6 < r.length → NW ≤ (r.getD 6 default).1.1
  few : r.length < 3 → NW ≤ (r.headD default).1.1
theorem ffRing_ge {i : Nat} {s : FF} {r : List Sp} (h1 : NW ≤ (ffRing i s r).far) (h2 : NW ≤ (ffRing i s r).many) (h3 : NW ≤ (ffRing i s r).few) : (NW ≤ s.far ∧ NW ≤ s.many ∧ NW ≤ s.few) ∧ RingFine i r := by
  unfold ffRing at h1 h2 h3
  simp only at h1 h2 h3
  rw [ffFar_eq] at h1
  obtain ⟨a1, a2⟩ := farF_ge _ _ h1
  have b : NW ≤ ffMany1 i s.many r ∧ (6 < r.length → NW ≤ (r.getD 6 default).1.1) := by
    unfold ffMany2 at h2
    split at h2
    · have := least1_ge h2; exact ⟨this.1, fun _ => this.2⟩
    · exact ⟨h2, fun h => absurd h (by assumption)⟩
  have c : NW ≤ s.many ∧ (2 ≤ i → NW ≤ (r.headD default).1.1) := by
    have h := b.1
    unfold ffMany1 at h
    split at h
    · have := least1_ge h; exact ⟨this.1, fun _ => this.2⟩
    · exact ⟨h, fun h => absurd h (by assumption)⟩
  have d : NW ≤ s.few ∧ (r.length < 3 → NW ≤ (r.headD default).1.1) := by
    unfold ffFew at h3
    split at h3
    · have := least1_ge h3; exact ⟨this.1, fun _ => this.2⟩
    · exact ⟨h3, fun h => absurd h (by assumption)⟩
  exact ⟨⟨a1, c.1, d.1⟩, ⟨a2, c.2, b.2, d.2⟩⟩
theorem ffAll_ge : ∀ (R : List (List Sp)) (i : Nat) (s : FF), NW ≤ (ffAll i s R).far → NW ≤ (ffAll i s R).many → NW ≤ (ffAll i s R).few → (NW ≤ s.far ∧ NW ≤ s.many ∧ NW ≤ s.few) ∧ ∀ k (h : k < R.length), RingFine (i + k) R[k]
  | [], i, s, h1, h2, h3 => ⟨⟨h1, h2, h3⟩, fun k h => by simp at h⟩
  | r :: t, i, s, h1, h2, h3 => by
    obtain ⟨⟨a, b, c⟩, d⟩ := ffAll_ge t (i + 1) (ffRing i s r) h1 h2 h3
    obtain ⟨e, f⟩ := ffRing_ge a b c
    refine ⟨e, fun k h => ?_⟩
    cases k with
    | zero => exact f
    | succ k =>
      have := d k (by simpa using h)
      rw [show i + 1 + k = i + (k + 1) by omega] at this
      exact this
theorem posN {lo hi : Int} {l : List (Int × Int)} (h : IncN lo l hi) : ∀ n ∈ l, n.2 < hi := by
  intro n hn
  obtain ⟨k, hk, rfl⟩ := List.mem_iff_getElem.1 hn
  exact (h.get hk).2
theorem posR {hi : Int} : ∀ (L : List (List (Int × Int))) (lo : Int), IncR lo L hi → ∀ l ∈ L, ∀ n ∈ l, n.2 < hi
  | [], _, _ => by simp
  | l :: t, lo, h => by
    obtain ⟨mid, h1, h2⟩ := h
    intro m hm n hn
    rcases List.mem_cons.1 hm with rfl | hm
    · have := posN h1 n hn
      have := h2.le
      omega
    · exact posR t mid h2 m hm n hn
theorem scan_inc {s : ByteArray} {R : List (List Sp)} (h : (scanP s).1 = some R) : (∀ r ∈ R, r ≠ []) ∧ IncR 0 (R.map (fun r => r.flatMap fl)) s.size := by
  have hinv := scanP_inv (s := s) (R := R) h
  rcases scan_rings s with ⟨hb, hs⟩ | ⟨hb, R', hs, hL⟩
  · rw [hs] at h; simp at h
  · rw [hs] at h
    simp at h
    subst h
    refine ⟨fun r hr => (hinv.2 r hr).1, ?_⟩
    rw [← hL]
    by_cases h0 : s.size = 0
    · rw [ringsP, if_pos h0]; simp only [IncR]; omega
    · rw [ringsP, if_neg h0] at hb ⊢
      exact rings_inc s (s.size + 1) 0 (by omega) (by omega) hb
theorem first_fine {R : List (List Sp)} (h : (firstP R).1 = 0) : ∀ k (h : k < R.length), RingFine k R[k] := by
  unfold firstP at h
  rw [ffEnd_eq] at h
  have hm : minI (minI (ffAll 0 ⟨NW, NW, NW⟩ R).far (ffAll 0 ⟨NW, NW, NW⟩ R).many) (ffAll 0 ⟨NW, NW, NW⟩ R).few = NW := by
    split at h
    · assumption
    · split at h
      · simp at h
      · split at h <;> simp at h
  have h1 := minI_ge (Int.le_of_eq hm.symm)
  have h2 := minI_ge h1.1
  have := (ffAll_ge R 0 ⟨NW, NW, NW⟩ h2.1 h2.2 h1.2).2
  intro k hk
  have := this k hk
  rwa [Nat.zero_add] at this
theorem read_field {s : ByteArray} (h : (readP s).2.1 = 0) : Acre.fieldOk (readP s).1 = true := by
  unfold readP at h ⊢
  split at h
  · simp at h
  · rename_i hl
    rw [if_neg hl]
    cases hs : (scanP s).1 with
    | none => rw [hs] at h; simp at h
    | some R =>
      rw [hs] at h
      simp only at h ⊢
      split at h
      · rename_i hf
        rw [if_pos hf]
        obtain ⟨hne, hinc⟩ := scan_inc hs
        have hfine := first_fine hf
        have hpos : ∀ r ∈ R, ∀ n ∈ r.flatMap fl, n.2 < NW := fun r hr n hn => by
          have := posR _ _ hinc _ (List.mem_map.2 ⟨r, hr, rfl⟩) n hn
          unfold NW; omega
        have hp1 : ∀ r ∈ R, ∀ p ∈ r, p.1.1 < NW := fun r hr p hp => hpos r hr (p.1.2, p.1.1) (List.mem_flatMap.2 ⟨p, hp, by simp [fl]⟩)
        have hhd : ∀ r ∈ R, (r.headD default).1.1 < NW := fun r hr => by
          cases r with
          | nil => exact absurd rfl (hne [] hr)
          | cons p t => exact hp1 _ hr p (by simp)
        unfold Acre.fieldOk
        simp only [List.length_map, Bool.and_eq_true, decide_eq_true_eq]
        refine ⟨?_, ?_⟩
        · by_cases h2 : R.length ≤ 2
          · exact h2
          · have a := (hfine 2 (by omega)).many1 (by omega)
            have b := hhd R[2] (List.getElem_mem _)
            omega
        · rw [List.all_eq_true]
          intro q hq
          obtain ⟨r, hr, rfl⟩ := List.mem_map.1 hq
          obtain ⟨k, hk, hkr⟩ := List.mem_iff_getElem.1 hr
          have hF := hfine k hk
          rw [hkr] at hF
          have hh := hhd r hr
          unfold Acre.ringOk
          simp only [List.length_map, Bool.and_eq_true, decide_eq_true_eq]
          refine ⟨⟨?_, ?_⟩, ?_⟩
          · by_cases h3 : 3 ≤ r.length
            · exact h3
            · have := hF.few (by omega); omega
          · by_cases h6 : r.length ≤ 6
            · exact h6
            · have a := hF.many2 (by omega)
              have e : r.getD 6 default = r[6] := by simp [show 6 < r.length by omega]
              rw [e] at a
              have := hp1 r hr r[6] (List.getElem_mem _)
              omega
          · rw [List.all_eq_true]
            intro q hq
            obtain ⟨p, hp, rfl⟩ := List.mem_map.1 hq
            have m1 : (p.1.2, p.1.1) ∈ r.flatMap fl := List.mem_flatMap.2 ⟨p, hp, by simp [fl]⟩
            have m2 : (p.2.2, p.2.1) ∈ r.flatMap fl := List.mem_flatMap.2 ⟨p, hp, by simp [fl]⟩
            have g1 := farN_ok (hF.far _ m1) (hpos r hr _ m1)
            have g2 := farN_ok (hF.far _ m2) (hpos r hr _ m2)
            unfold Acre.onGrid ptOf
            simp only [Bool.and_eq_true, decide_eq_true_eq]
            exact ⟨g1, g2⟩
      · rename_i hf
        exact absurd h hf
end Go.Proofs.YtkjlkbgdkdcboaaGreatDoor
