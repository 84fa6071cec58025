import Derived.Test.YtkjlkbgdkdcboaaFirst
import Derived.Test.YtkjlkbgdkdcboaaRead
import Derived.Test.YtkjlkbgdkdcboaaRRead
namespace Go.Proofs.Ytkjlkbgdkdcboaa

theorem num_inc {s : ByteArray} {i : Nat} (hi : i ≤ s.size) (hb : (numP s i (-1)).2.2 = -1) : i < (numP s i (-1)).2.1 ∧ (numP s i (-1)).2.1 ≤ s.size := by
  rcases num_sim s i init rfl hi with ⟨h, _⟩ | ⟨_, h2, h3, _⟩
  · rw [hb] at h; omega
  · exact ⟨h3, h2⟩
theorem num_bad {s : ByteArray} {i : Nat} (hi : i ≤ s.size) : (numP s i (-1)).2.2 = -1 ∨ 0 ≤ (numP s i (-1)).2.2 := by
  rcases num_sim s i init rfl hi with ⟨h, _⟩ | ⟨h, _⟩
  · exact Or.inr h
  · exact Or.inl h

theorem point_inc {s : ByteArray} {i : Nat} (hi : i ≤ s.size) (hb : (pointE s i (-1)).2 = -1) : IncN i (pointL s i (-1)) (pointE s i (-1)).1 ∧ (pointE s i (-1)).1 ≤ s.size := by
  unfold pointE pointL at *
  obtain ⟨X, hX⟩ : ∃ X, numP s i (-1) = X := ⟨_, rfl⟩
  have n1 := num_bad hi
  have n2 := num_inc hi
  rw [hX] at n1 n2
  simp only [hX] at hb ⊢
  obtain ⟨v1, j, bd⟩ := X
  rcases n1 with e | e
  · simp only at e
    subst e
    obtain ⟨n3, n4⟩ := n2 rfl
    simp only at n3 n4
    by_cases h44 : bt s j = 44
    · have hjl := bt_pos (s := s) (k := j) (by omega)
      simp only [mustS_yes h44] at hb ⊢
      obtain ⟨k1, k2⟩ := num_inc (s := s) (i := j + 1) (by omega) hb
      refine ⟨⟨by simp, ⟨?_, ?_⟩⟩, k2⟩
      · simp only; omega
      · simp only [IncN]; omega
    · simp only [mustS_no h44, numP_bad (show (0 : Int) ≤ (j : Int) by omega)] at hb
      omega
  · simp only at e
    simp only [mustS_bad e, numP_bad e] at hb
    omega

theorem row_inc (s : ByteArray) : ∀ (n i : Nat), i ≤ s.size → s.size < i + n → (rowF s n i (-1)).2.2 = -1 → IncN i (rowF s n i (-1)).1 (rowF s n i (-1)).2.1 ∧ (rowF s n i (-1)).2.1 ≤ s.size
  | 0, i, hi, hn, hb => by omega
  | n + 1, i, hi, hn, hb => by
    have p := point_inc hi (s := s)
    have ps := point_sim s i init rfl rfl hi
    unfold PointSim at ps
    rw [rowF] at hb ⊢
    obtain ⟨P, hP⟩ : ∃ P, pointE s i (-1) = P := ⟨_, rfl⟩
    simp only [hP] at p ps hb ⊢
    obtain ⟨j, bd⟩ := P
    have hbd : bd = -1 := by
      rcases ps with ⟨e, _⟩ | ⟨e, _⟩
      · simp only at e
        simp only [onP_bad e] at hb
        simpa using hb
      · exact e
    subst hbd
    obtain ⟨p1, p2⟩ := p rfl
    simp only [onP_neg] at hb ⊢
    by_cases h32 : bt s j = 32
    · have hjl := bt_pos (s := s) (k := j) (by omega)
      rw [if_pos (decide_eq_true h32)] at hb ⊢
      have q := row_inc s n (j + 1) (by omega) (by have := p1.le; simp only at this; omega) hb
      exact ⟨p1.append (q.1.down (by simp only; omega)), q.2⟩
    · rw [if_neg (by rw [decide_eq_true_eq]; exact h32)]
      exact ⟨p1, p2⟩

theorem rings_inc (s : ByteArray) : ∀ (n i : Nat), i ≤ s.size → s.size < i + n → badAt s.size (ringsF s n i (-1)).2.1 (ringsF s n i (-1)).2.2 = -1 → IncR i (ringsF s n i (-1)).1 s.size
  | 0, i, hi, hn, hb => by omega
  | n + 1, i, hi, hn, hb => by
    have p := row_inc s (s.size + 1) i hi (by omega)
    have ps := row_sim s (s.size + 1) i init rfl rfl hi (by omega)
    unfold RowSim at ps
    rw [ringsF] at hb ⊢
    obtain ⟨P, hP⟩ : ∃ P, rowF s (s.size + 1) i (-1) = P := ⟨_, rfl⟩
    simp only [hP] at p ps hb ⊢
    obtain ⟨L, j, bd⟩ := P
    have hbd : bd = -1 := by
      rcases ps with ⟨e, _⟩ | ⟨e, _⟩
      · simp only at e
        simp only [onP_bad e] at hb
        rw [if_neg (by simp)] at hb
        simp only [badAt_bad e] at hb
        exact hb
      · exact e
    subst hbd
    obtain ⟨p1, p2⟩ := p rfl
    simp only at p2
    simp only [onP_neg] at hb ⊢
    by_cases h59 : bt s j = 59
    · have hjl := bt_pos (s := s) (k := j) (by omega)
      rw [if_pos (decide_eq_true h59)] at hb ⊢
      have q := rings_inc s n (j + 1) (by omega) (by have := p1.le; simp only at this; omega) hb
      refine ⟨((j + 1 : Nat) : Int), ?_, q⟩
      have : IncN (i : Int) (L ++ []) ((j + 1 : Nat) : Int) := p1.append (by simp only [IncN]; omega)
      simpa using this
    · rw [if_neg (by rw [decide_eq_true_eq]; exact h59)]
      exact ⟨(j : Int), p1, by simp only [IncR]; omega⟩

theorem prOf_flat (r : List Sp) : prOf (r.flatMap fl) = r.map ptOf := by
  induction r with
  | nil => rfl
  | cons p t ih =>
    simp only [List.flatMap_cons, fl, List.cons_append, List.nil_append, prOf, List.map_cons, ih]
    rfl

/-- the program's Read answers as the document's does -/
theorem reads_same (s : ByteArray) : readP s = rreadP s := by
  unfold readP rreadP
  by_cases hl : 120 < s.size
  · rw [if_pos hl, if_pos hl]
  · rw [if_neg hl, if_neg hl]
    rcases scan_rings s with ⟨hb, hs⟩ | ⟨hb, R, hs, hL⟩
    · rw [if_pos hb, hs]
    · rw [if_neg (by omega), hs]
      simp only
      have hinv := scanP_inv (s := s) (R := R) (by rw [hs])
      have hw : wRings 0 (ringsP s).1 (0, 0) = firstP R := by
        have e0 : ffEnd ⟨NW, NW, NW⟩ = (0, 0) := ffEnd_none rfl rfl rfl
        rw [hL, ← e0]
        refine rings_first (hi := (s.size : Int)) (by unfold NW; omega) R 0 ⟨NW, NW, NW⟩ 0 (fun r hr => (hinv.2 r hr).1) ?_ ⟨Or.inl rfl, Or.inl rfl, Or.inl rfl⟩
        rw [← hL]
        by_cases h0 : s.size = 0
        · rw [ringsP, if_pos h0]; simp only [IncR]; omega
        · rw [ringsP, if_neg h0] at hb ⊢
          exact rings_inc s (s.size + 1) 0 (by omega) (by omega) hb
      rw [hw, hL]
      by_cases hf : (firstP R).1 = 0
      · rw [if_pos hf, if_pos hf]
        simp only [List.map_map, Prod.mk.injEq, and_true]
        refine List.map_congr_left fun r _ => ?_
        exact (prOf_flat r).symm
      · rw [if_neg hf, if_neg hf]

end Go.Proofs.Ytkjlkbgdkdcboaa
