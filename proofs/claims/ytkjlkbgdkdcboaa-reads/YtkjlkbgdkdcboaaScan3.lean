import Derived.Test.YtkjlkbgdkdcboaaScan2
namespace Go.Proofs.Ytkjlkbgdkdcboaa

/-- a point's two numbers as the document has them -/
def fl (p : Sp) : List (Int × Int) := [(p.1.2, p.1.1), (p.2.2, p.2.1)]

theorem numP_bad {s : ByteArray} {i : Nat} {b : Int} (h : 0 ≤ b) : (numP s i b).2 = (i, b) := by
  have e1 : signS s i b = (i, b) := by
    simp only [signS, gotI, onP_bad h]; simp
  unfold numP
  rw [e1]
  simp only [tailN, digP_bad h, failed_bad h]
  simp
theorem mustS_bad {s : ByteArray} {i : Nat} {b c : Int} (h : 0 ≤ b) : mustS s (i, b) c = (i, b) := by
  simp only [mustS, gotI, mustB, onP_bad h, failed_bad h]; simp
theorem mustS_yes {s : ByteArray} {i : Nat} {c : Int} (h : bt s i = c) : mustS s (i, -1) c = (i + 1, -1) := by
  simp [mustS, gotI, mustB, onP_neg, h]
theorem mustS_no {s : ByteArray} {i : Nat} {c : Int} (h : bt s i ≠ c) : mustS s (i, -1) c = (i, (i : Int)) := by
  simp [mustS, gotI, mustB, onP_neg, h, failed_neg]

theorem stop_mayE {s : ByteArray} {r : RS} {j : Nat} (h : Stop s r j) : mayE r r.half = true := by
  unfold mayE
  rcases h with e | ⟨e, _⟩ <;> simp [e]
theorem mayE_half {r : RS} {h : Bool} (hh : r.half ≠ h) : mayE r h = false := by
  unfold mayE
  cases hr : r.half <;> cases h <;> simp_all [hI]
theorem stop_step {s : ByteArray} {r : RS} {j : Nat} (h : Stop s r j) : r.step ≠ 0 := by rcases h with e | ⟨e, _⟩ <;> omega
theorem endN_step (r : RS) : r.endN.step = 0 := by
  obtain ⟨st, mi, ha, a0, v0, a1, v1⟩ := r
  cases ha <;> rfl
theorem stop_dig {s : ByteArray} {r : RS} {j : Nat} (h : Stop s r j) : r.step = 3 ∨ ¬ (48 ≤ bt s j ∧ bt s j ≤ 57) := by
  rcases h with e | ⟨_, e⟩
  · exact Or.inl e
  · exact Or.inr e

def PointSim (s : ByteArray) (i : Nat) (st : PS) : Prop :=
  (0 ≤ (pointE s i (-1)).2 ∧ TT s i st = (none, (pointE s i (-1)).2)) ∨
  ((pointE s i (-1)).2 = -1 ∧ (pointE s i (-1)).1 ≤ s.size ∧ i < (pointE s i (-1)).1 ∧ ∃ r', r'.half = true ∧ Stop s r' (pointE s i (-1)).1 ∧ TT s i st = TT s (pointE s i (-1)).1 ⟨r', st.acc, st.accs⟩ ∧ pointL s i (-1) = fl r'.endN.sp)

theorem point_sim (s : ByteArray) (i : Nat) (st : PS) (h0 : st.r.step = 0) (hh : st.r.half = false) (hi : i ≤ s.size) : PointSim s i st := by
  unfold PointSim pointE pointL
  obtain ⟨X, hX⟩ : ∃ X, numP s i (-1) = X := ⟨_, rfl⟩
  have n1 := num_sim s i st h0 hi
  rw [hX] at n1
  simp only [hX]
  obtain ⟨v1, j, bd⟩ := X
  rcases n1 with ⟨hb, ht⟩ | ⟨hb, hj, hij, r1, ht, ⟨hr1, hA⟩, hS⟩
  · simp only at hb ht
    left
    rw [mustS_bad hb, numP_bad hb]
    exact ⟨hb, ht⟩
  · simp only at hb hj hij ht hS hA
    subst hb
    rw [hh] at hr1 hA
    simp only at hA
    by_cases h44 : bt s j = 44
    · have hjl := bt_pos (s := s) (k := j) (by omega)
      rw [mustS_yes h44]
      have hm : mayE r1 false = true := by have := stop_mayE hS; rw [hr1] at this; exact this
      have ht2 : TT s i st = TT s (j + 1) ⟨{ r1.endN with half := true }, st.acc, st.accs⟩ := by
        rw [ht, TT_ascii (by omega) (by omega)]
        have : takeP ⟨r1, st.acc, st.accs⟩ j (bt s j) = some ⟨{ r1.endN with half := true }, st.acc, st.accs⟩ := by
          unfold takeP; rw [if_neg (by omega), if_neg (by omega), if_pos ⟨h44, hm⟩]
        rw [this]
      have n2 := num_sim s (j + 1) ⟨{ r1.endN with half := true }, st.acc, st.accs⟩ (endN_step r1) (by omega)
      obtain ⟨Y, hY⟩ : ∃ Y, numP s (j + 1) (-1) = Y := ⟨_, rfl⟩
      rw [hY] at n2
      simp only [hY]
      obtain ⟨v2, k, bd2⟩ := Y
      rcases n2 with ⟨hb2, ht3⟩ | ⟨hb2, hk, hjk, r2, ht3, ⟨hr2, hA2⟩, hS2⟩
      · simp only at hb2 ht3
        exact Or.inl ⟨hb2, by rw [ht2, ht3]⟩
      · simp only at hb2 hk hjk ht3 hS2 hA2 hr2
        refine Or.inr ⟨hb2, hk, by simp only; omega, r2, hr2, hS2, by rw [ht2, ht3], ?_⟩
        rw [hA2]
        have e1 : r1.endN.a0 = i := congrArg Prod.fst hA
        have e2 : r1.endN.v0 = v1 := congrArg Prod.snd hA
        simp [fl, e1, e2]
    · rw [mustS_no h44, numP_bad (by omega)]
      refine Or.inl ⟨by simp, ?_⟩
      rw [ht]
      exact TT_no hj (stop_step hS) (stop_dig hS) (Or.inr h44) (Or.inl (mayE_half (by simp only; rw [hr1]; simp)))

def RowSim (s : ByteArray) (n i : Nat) (st : PS) : Prop :=
  (0 ≤ (rowF s n i (-1)).2.2 ∧ TT s i st = (none, (rowF s n i (-1)).2.2)) ∨
  ((rowF s n i (-1)).2.2 = -1 ∧ (rowF s n i (-1)).2.1 ≤ s.size ∧ i < (rowF s n i (-1)).2.1 ∧ bt s (rowF s n i (-1)).2.1 ≠ 32 ∧
    ∃ r' ps, r'.half = true ∧ Stop s r' (rowF s n i (-1)).2.1 ∧ TT s i st = TT s (rowF s n i (-1)).2.1 ⟨r', st.acc ++ ps, st.accs⟩ ∧ (rowF s n i (-1)).1 = (ps ++ [r'.endN.sp]).flatMap fl)

theorem row_sim (s : ByteArray) : ∀ (n i : Nat) (st : PS), st.r.step = 0 → st.r.half = false → i ≤ s.size → s.size < i + n → RowSim s n i st
  | 0, i, st, h0, hh, hi, hn => by omega
  | n + 1, i, st, h0, hh, hi, hn => by
    have p := point_sim s i st h0 hh hi
    unfold RowSim
    unfold PointSim at p
    rw [rowF]
    obtain ⟨P, hP⟩ : ∃ P, pointE s i (-1) = P := ⟨_, rfl⟩
    simp only [hP] at p ⊢
    obtain ⟨j, bd⟩ := P
    rcases p with ⟨hb, ht⟩ | ⟨hb, hj, hij, r', hr, hS, ht, hL⟩
    · simp only at hb ht
      simp only [onP_bad hb]
      exact Or.inl ⟨hb, ht⟩
    · simp only at hb hj hij hS ht
      subst hb
      simp only [onP_neg]
      have hm : mayE r' true = true := by have := stop_mayE hS; rw [hr] at this; exact this
      by_cases h32 : bt s j = 32
      · have hjl := bt_pos (s := s) (k := j) (by omega)
        rw [if_pos (decide_eq_true h32)]
        have ht2 : TT s i st = TT s (j + 1) ⟨{ r'.endN with half := false }, st.acc ++ [r'.endN.sp], st.accs⟩ := by
          rw [ht, TT_ascii (by omega) (by omega)]
          have : takeP ⟨r', st.acc, st.accs⟩ j (bt s j) = some ⟨{ r'.endN with half := false }, st.acc ++ [r'.endN.sp], st.accs⟩ := by
            unfold takeP; rw [if_neg (by omega), if_neg (by omega), if_neg (by omega), if_pos ⟨h32, hm⟩]
          rw [this]
        have q := row_sim s n (j + 1) ⟨{ r'.endN with half := false }, st.acc ++ [r'.endN.sp], st.accs⟩ (endN_step r') rfl (by omega) (by omega)
        unfold RowSim at q
        rcases q with ⟨qb, qt⟩ | ⟨qb, qj, qij, q32, r2, ps, qr, qS, qt, qL⟩
        · exact Or.inl ⟨qb, by rw [ht2, qt]⟩
        · refine Or.inr ⟨qb, qj, by simp only; omega, q32, r2, r'.endN.sp :: ps, qr, qS, ?_, ?_⟩
          · rw [ht2, qt]; simp
          · rw [hL, qL]; simp
      · rw [if_neg (by rw [decide_eq_true_eq]; exact h32)]
        exact Or.inr ⟨rfl, hj, hij, h32, r', [], hr, hS, by rw [ht]; simp, by rw [hL]; simp⟩

def RingsSim (s : ByteArray) (n i : Nat) (st : PS) : Prop :=
  (0 ≤ badAt s.size (ringsF s n i (-1)).2.1 (ringsF s n i (-1)).2.2 ∧ TT s i st = (none, badAt s.size (ringsF s n i (-1)).2.1 (ringsF s n i (-1)).2.2)) ∨
  (badAt s.size (ringsF s n i (-1)).2.1 (ringsF s n i (-1)).2.2 = -1 ∧ ∃ Rs, TT s i st = (some (st.accs ++ Rs), 0) ∧ (ringsF s n i (-1)).1 = Rs.map (fun r => r.flatMap fl))

theorem badAt_bad {n j : Nat} {b : Int} (h : 0 ≤ b) : badAt n j b = b := by
  unfold badAt; split
  · exact failed_bad h
  · rfl

theorem rings_sim (s : ByteArray) : ∀ (n i : Nat) (st : PS), st.r.step = 0 → st.r.half = false → st.acc = [] → i ≤ s.size → s.size < i + n → RingsSim s n i st
  | 0, i, st, h0, hh, ha, hi, hn => by omega
  | n + 1, i, st, h0, hh, ha, hi, hn => by
    have p := row_sim s (s.size + 1) i st h0 hh hi (by omega)
    unfold RingsSim
    unfold RowSim at p
    rw [ringsF]
    obtain ⟨P, hP⟩ : ∃ P, rowF s (s.size + 1) i (-1) = P := ⟨_, rfl⟩
    simp only [hP] at p ⊢
    obtain ⟨L, j, bd⟩ := P
    rcases p with ⟨hb, ht⟩ | ⟨hb, hj, hij, h32, r', ps, hr, hS, ht, hL⟩
    · simp only at hb ht
      simp only [onP_bad hb]
      left
      rw [if_neg (by simp)]
      simp only [badAt_bad hb]
      exact ⟨hb, ht⟩
    · simp only at hb hj hij h32 hS ht hL
      subst hb
      rw [ha, List.nil_append] at ht
      simp only [onP_neg]
      have hm : mayE r' true = true := by have := stop_mayE hS; rw [hr] at this; exact this
      by_cases h59 : bt s j = 59
      · have hjl := bt_pos (s := s) (k := j) (by omega)
        rw [if_pos (decide_eq_true h59)]
        have ht2 : TT s i st = TT s (j + 1) ⟨{ r'.endN with half := false }, [], st.accs ++ [ps ++ [r'.endN.sp]]⟩ := by
          rw [ht, TT_ascii (by omega) (by omega)]
          have : takeP ⟨r', ps, st.accs⟩ j (bt s j) = some ⟨{ r'.endN with half := false }, [], st.accs ++ [ps ++ [r'.endN.sp]]⟩ := by
            unfold takeP; rw [if_neg (by omega), if_neg (by omega), if_neg (by omega), if_neg (by omega), if_pos ⟨h59, hm⟩]
          rw [this]
        have q := rings_sim s n (j + 1) ⟨{ r'.endN with half := false }, [], st.accs ++ [ps ++ [r'.endN.sp]]⟩ (endN_step r') rfl rfl (by omega) (by omega)
        unfold RingsSim at q
        rcases q with ⟨qb, qt⟩ | ⟨qb, Rs, qt, qL⟩
        · exact Or.inl ⟨qb, by rw [ht2, qt]⟩
        · refine Or.inr ⟨qb, (ps ++ [r'.endN.sp]) :: Rs, ?_, ?_⟩
          · rw [ht2, qt]; simp
          · rw [hL, qL]; simp
      · rw [if_neg (by rw [decide_eq_true_eq]; exact h59)]
        by_cases hjl : j < s.size
        · left
          have e : badAt s.size j (-1) = j := by unfold badAt; rw [if_pos hjl, failed_neg]
          simp only [e]
          refine ⟨by omega, ?_⟩
          rw [ht]
          exact TT_no (by omega) (stop_step hS) (stop_dig hS) (Or.inl (mayE_half (by simp only; rw [hr]; simp))) (Or.inr ⟨h32, h59, hjl⟩)
        · right
          have e : badAt s.size j (-1) = -1 := by unfold badAt; rw [if_neg hjl]
          simp only [e]
          refine ⟨trivial, [ps ++ [r'.endN.sp]], ?_, ?_⟩
          · rw [ht, TT_end hjl, if_pos hm]
          · rw [hL]; simp

/-- the program's reader and the document's: where one breaks off, so does the other, at the same place; else they have the same numbers -/
theorem scan_rings (s : ByteArray) : (0 ≤ (ringsP s).2 ∧ scanP s = (none, (ringsP s).2)) ∨ ((ringsP s).2 = -1 ∧ ∃ R, scanP s = (some R, 0) ∧ (ringsP s).1 = R.map (fun r => r.flatMap fl)) := by
  by_cases h0 : s.size = 0
  · right
    rw [ringsP, if_pos h0, scanP, if_pos h0]
    exact ⟨rfl, [], rfl, rfl⟩
  · have q := rings_sim s (s.size + 1) 0 init rfl rfl rfl (by omega) (by omega)
    unfold RingsSim at q
    rw [ringsP, if_neg h0, scanP, if_neg h0]
    simp only [TT] at q
    rcases q with ⟨qb, qt⟩ | ⟨qb, Rs, qt, qL⟩
    · exact Or.inl ⟨qb, qt⟩
    · exact Or.inr ⟨qb, Rs, by rw [qt]; simp [init], qL⟩

end Go.Proofs.Ytkjlkbgdkdcboaa
