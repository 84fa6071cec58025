import Derived.Test.YtkjlkbgdkdcboaaDoorRd5
namespace Go.Proofs.YtkjlkbgdkdcboaaDoor
open Go.RowKit
attribute [local go_sem ↓] Go.wp_at_zero Go.wp_at_succ

theorem get_bt {s : ByteArray} {k : Nat} (h : k < s.size) : ((s.get! k).toNat : Int) = bt s k := by
  rw [bt_in h]
  have : s.get! (k + 0) = s[k]'h := Go.get_at s k h
  rw [Nat.add_zero] at this
  rw [this]

theorem dec_long {s : ByteArray} {p : Nat} (h0 : bt s p = 226) (h1 : bt s (p + 1) = 136) (h2 : bt s (p + 2) = 146) : Utf8.decode s p = (8722, 3) := by
  have l0 := bt_pos (s := s) (k := p) (by omega)
  have l1 := bt_pos (s := s) (k := p + 1) (by omega)
  have l2 := bt_pos (s := s) (k := p + 2) (by omega)
  have g0 := get_bt l0
  have g1 := get_bt l1
  have g2 := get_bt l2
  have e0 : (s.get! (p + 0)).toNat = 226 := by rw [Nat.add_zero]; omega
  have e1 : (s.get! (p + 1)).toNat = 136 := by omega
  have e2 : (s.get! (p + 2)).toNat = 146 := by omega
  simp only [Utf8.decode, e0, e1, e2, l1, l2]
  rw [if_neg (by decide), if_neg (by decide), if_pos (by decide), if_pos (by decide)]

theorem dec_other {s : ByteArray} {p : Nat} (hp : p < s.size) (hn : ¬ (bt s p = 226 ∧ bt s (p + 1) = 136 ∧ bt s (p + 2) = 146)) : (Utf8.decode s p).1 ≠ 8722 := by
  intro h
  have b0 : (s.get! (p + 0)).toNat < 256 := (s.get! (p + 0)).toNat_lt
  have b1 : (s.get! (p + 1)).toNat < 256 := (s.get! (p + 1)).toNat_lt
  have b2 : (s.get! (p + 2)).toNat < 256 := (s.get! (p + 2)).toNat_lt
  have g0 := get_bt hp
  have e0 : ((s.get! (p + 0)).toNat : Int) = bt s p := by rw [Nat.add_zero]; exact g0
  simp only [Utf8.decode] at h
  split at h
  · simp at h; omega
  · split at h
    · split at h
      · simp at h; omega
      · simp [Utf8.runeError] at h
    · split at h
      · rename_i hc
        split at h
        · simp only [Bool.and_eq_true, decide_eq_true_eq, beq_iff_eq] at hc
          obtain ⟨⟨hc0, hc1, hc2⟩, hc3, hc4⟩ := hc
          have g1 := get_bt hc1
          have g2 := get_bt hc3
          simp only at h
          exact hn ⟨by omega, by omega, by omega⟩
        · simp [Utf8.runeError] at h
      · split at h
        · split at h
          · rename_i hc
            simp only [Bool.and_eq_true, decide_eq_true_eq] at hc
            simp only at h
            omega
          · simp [Utf8.runeError] at h
        · simp [Utf8.runeError] at h

theorem bt_extract (s : ByteArray) (p k : Nat) : bt (s.extract p s.size) k = bt s (p + k) := by
  by_cases h : p + k < s.size
  · have hk : k < (s.extract p s.size).size := by simp [ByteArray.size_extract]; omega
    rw [bt_in h, bt_in hk]
    congr 2
    exact ByteArray.getElem_extract (h := hk)
  · rw [bt_out h, bt_out (by simp [ByteArray.size_extract]; omega)]

theorem scanF_fuel (s : ByteArray) : ∀ (f g pos : Nat) (st : PS), s.size ≤ pos + f → s.size ≤ pos + g → scanF s f pos st = scanF s g pos st
  | 0, g, pos, st, h1, h2 => by rw [scanF_end s 0 pos st (by omega), scanF_end s g pos st (by omega)]
  | f + 1, 0, pos, st, h1, h2 => by rw [scanF_end s 0 pos st (by omega), scanF_end s (f + 1) pos st (by omega)]
  | f + 1, g + 1, pos, st, h1, h2 => by
    rw [scanF, scanF]
    by_cases hp : pos < s.size
    · rw [if_pos hp, if_pos hp]
      have hw := wd_pos s pos hp
      cases takeP st pos (Utf8.decode s pos).1 with
      | none => rfl
      | some st' => exact scanF_fuel s f g _ st' (by omega) (by omega)
    · rw [if_neg hp, if_neg hp]

/-- what the rest of the text makes of a state -/
def TT (s : ByteArray) (pos : Nat) (st : PS) : Option (List (List Sp)) × Int := finP s (scanF s s.size pos st)

theorem TT_step {s : ByteArray} {pos : Nat} {st : PS} (hp : pos < s.size) : TT s pos st = match takeP st pos (Utf8.decode s pos).1 with
    | none => (none, (pos : Int) + bgP st.r.step (s.extract pos s.size))
    | some st' => TT s (pos + (Utf8.decode s pos).2) st' := by
  have hw := wd_pos s pos hp
  unfold TT
  rw [scanF_fuel s s.size (s.size + 1) pos st (by omega) (by omega), scanF, if_pos hp]
  cases takeP st pos (Utf8.decode s pos).1 with
  | none => rfl
  | some st' => rfl

theorem TT_end {s : ByteArray} {pos : Nat} {st : PS} (hp : ¬ pos < s.size) : TT s pos st = if mayE st.r true = true then (some (st.accs ++ [st.acc ++ [st.r.endN.sp]]), 0) else (none, (s.size : Int)) := by
  unfold TT
  rw [scanF_end s s.size pos st hp]
  rfl

theorem bgF_zero {t : ByteArray} (h : bt t 0 ≠ 226) : bgF t 3 0 = 0 := by rw [bgF, if_neg (by simpa [lm] using h)]

theorem bgP_step {st : Int} {t : ByteArray} (h : st ≠ 0) : bgP st t = 0 := if_neg h

theorem TT_ascii {s : ByteArray} {pos : Nat} {st : PS} (h0 : 0 ≤ bt s pos) (h1 : bt s pos < 128) : TT s pos st = match takeP st pos (bt s pos) with
    | none => (none, (pos : Int))
    | some st' => TT s (pos + 1) st' := by
  have hp := bt_pos h0
  have ha : (s[pos]'hp).toNat < 128 := by have := bt_in hp; omega
  rw [TT_step hp, Go.decode_ascii s pos hp ha, bt_in hp]
  cases takeP st pos (s[pos]'hp).toNat with
  | none =>
    have : bgP st.r.step (s.extract pos s.size) = 0 := by
      unfold bgP
      split
      · rw [bgF_zero (by rw [bt_extract, Nat.add_zero]; omega)]; rfl
      · rfl
    simp only [this, Int.add_zero]
  | some st' => rfl

theorem takeP_high {st : PS} {a c : Int} (h : 128 ≤ c) (hn : c ≠ 8722) : takeP st a c = none := by
  unfold takeP
  rw [if_neg (by omega), if_neg (by omega), if_neg (by omega), if_neg (by omega), if_neg (by omega)]

theorem TT_high {s : ByteArray} {pos : Nat} {st : PS} (h0 : 128 ≤ bt s pos) (hn : ¬ (bt s pos = 226 ∧ bt s (pos + 1) = 136 ∧ bt s (pos + 2) = 146)) : TT s pos st = (none, (pos : Int) + bgP st.r.step (s.extract pos s.size)) := by
  have hp := bt_pos (s := s) (k := pos) (by omega)
  have hd := (Go.decode_high s pos hp (by have := bt_in hp; omega)).1
  have hd2 := dec_other hp hn
  rw [TT_step hp, takeP_high (by omega) (by omega)]

theorem TT_long {s : ByteArray} {pos : Nat} {st : PS} (h0 : bt s pos = 226) (h1 : bt s (pos + 1) = 136) (h2 : bt s (pos + 2) = 146) : TT s pos st = if st.r.step = 0 then TT s (pos + 3) ⟨st.r.begin pos true, st.acc, st.accs⟩ else (none, (pos : Int)) := by
  have hp := bt_pos (s := s) (k := pos) (by omega)
  rw [TT_step hp, dec_long h0 h1 h2]
  by_cases hs : st.r.step = 0
  · have : takeP st pos ((8722 : Nat) : Int) = some ⟨st.r.begin pos true, st.acc, st.accs⟩ := by unfold takeP; rw [if_pos ⟨Or.inr rfl, hs⟩]
    simp only [this, if_pos hs]
  · have : takeP st pos ((8722 : Nat) : Int) = none := by unfold takeP; rw [if_neg (by omega), if_neg (by omega), if_neg (by omega), if_neg (by omega), if_neg (by omega)]
    simp only [this, if_neg hs, bgP_step hs, Int.add_zero]

/-- behind a sign or a number nothing else may stand -/
theorem TT_no {s : ByteArray} {pos : Nat} {st : PS} (hpos : pos ≤ s.size) (hs : st.r.step ≠ 0) (hd : st.r.step = 3 ∨ ¬ (48 ≤ bt s pos ∧ bt s pos ≤ 57)) (hc : mayE st.r false = false ∨ bt s pos ≠ 44) (hb : mayE st.r true = false ∨ (bt s pos ≠ 32 ∧ bt s pos ≠ 59 ∧ pos < s.size)) : TT s pos st = (none, (pos : Int)) := by
  by_cases hp : pos < s.size
  · have h0 : 0 ≤ bt s pos := by rw [bt_in hp]; omega
    have ht : ∀ c, c = bt s pos ∨ 128 ≤ bt s pos ∧ 128 ≤ c → takeP st pos c = none := fun c hcc => by
      unfold takeP
      rw [if_neg (by omega), if_neg (by omega)]
      have hk : c = bt s pos ∨ 128 ≤ c := by omega
      have n1 : ¬ (c = 44 ∧ mayE st.r false = true) := by
        rintro ⟨e1, e2⟩
        rcases hc with e | e
        · rw [e] at e2; cases e2
        · omega
      have n2 : ¬ (c = 32 ∧ mayE st.r true = true) := by
        rintro ⟨e1, e2⟩
        rcases hb with e | e
        · rw [e] at e2; cases e2
        · omega
      have n3 : ¬ (c = 59 ∧ mayE st.r true = true) := by
        rintro ⟨e1, e2⟩
        rcases hb with e | e
        · rw [e] at e2; cases e2
        · omega
      rw [if_neg n1, if_neg n2, if_neg n3]
    by_cases ha : bt s pos < 128
    · rw [TT_ascii h0 ha, ht _ (Or.inl rfl)]
    · by_cases hl : bt s pos = 226 ∧ bt s (pos + 1) = 136 ∧ bt s (pos + 2) = 146
      · rw [TT_long hl.1 hl.2.1 hl.2.2, if_neg hs]
      · rw [TT_high (by omega) hl, bgP_step hs, Int.add_zero]
  · rw [TT_end hp]
    rcases hb with e | e
    · rw [e]; simp; omega
    · exact absurd e.2.2 hp

end Go.Proofs.YtkjlkbgdkdcboaaDoor
