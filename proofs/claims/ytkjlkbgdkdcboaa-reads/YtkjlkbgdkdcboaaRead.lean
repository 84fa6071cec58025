import Derived.Test.YtkjlkbgdkdcboaaPts
namespace Go.Proofs.Ytkjlkbgdkdcboaa
open Go.RowKit
attribute [local go_sem ↓] Go.wp_at_zero Go.wp_at_succ

structure PInv (N : Nat) (f : Nat) (st : PS) : Prop where
  a : st.acc.length + f ≤ N
  b : st.accs.length + f ≤ N
  c : ∀ r ∈ st.accs, r ≠ [] ∧ r.length ≤ N
theorem PInv.take {N f : Nat} {s s' : PS} {a c : Int} (h : PInv N (f + 1) s) (ht : takeP s a c = some s') : PInv N f s' := by
  obtain ⟨h1, h2, h3⟩ := h
  unfold takeP at ht
  split at ht
  · obtain rfl := Option.some.inj ht; exact ⟨by simp; omega, by simp; omega, h3⟩
  · split at ht
    · obtain rfl := Option.some.inj ht; exact ⟨by simp; omega, by simp; omega, h3⟩
    · split at ht
      · obtain rfl := Option.some.inj ht; exact ⟨by simp; omega, by simp; omega, h3⟩
      · split at ht
        · obtain rfl := Option.some.inj ht; exact ⟨by simp; omega, by simp; omega, h3⟩
        · split at ht
          · obtain rfl := Option.some.inj ht
            refine ⟨by simp; omega, by simp; omega, fun r hr => ?_⟩
            rcases List.mem_append.1 hr with hr | hr
            · exact h3 r hr
            · rw [List.mem_singleton.1 hr]; exact ⟨by simp, by simp; omega⟩
          · cases ht
theorem scanF_inv (s : ByteArray) (N : Nat) : ∀ (f pos : Nat) (st st' : PS) (k : Int), PInv N f st → scanF s f pos st = (some st', k) → ∃ g, PInv N g st'
  | 0, pos, st, st', k, h, hs => by
    obtain rfl : st = st' := by simpa [scanF] using congrArg Prod.fst hs
    exact ⟨0, h⟩
  | f + 1, pos, st, st', k, h, hs => by
    rw [scanF] at hs
    split at hs
    · cases ht : takeP st pos (Utf8.decode s pos).1 with
      | none => rw [ht] at hs; simp at hs
      | some st2 =>
        rw [ht] at hs
        exact scanF_inv s N f _ st2 st' k (h.take ht) hs
    · obtain rfl : st = st' := by simpa using congrArg Prod.fst hs
      exact ⟨_, h⟩
theorem scanP_inv {s : ByteArray} {R : List (List Sp)} (h : (scanP s).1 = some R) : R.length ≤ s.size + 1 ∧ ∀ r ∈ R, r ≠ [] ∧ r.length ≤ s.size + 1 := by
  unfold scanP at h
  split at h
  · obtain rfl := Option.some.inj h; simp
  · obtain ⟨F, hF⟩ : ∃ F, scanF s s.size 0 init = F := ⟨_, rfl⟩
    rw [hF] at h
    obtain ⟨F1, F2⟩ := F
    cases F1 with
    | none => simp [finP] at h
    | some st =>
      obtain ⟨g, p⟩ := scanF_inv s s.size s.size 0 init st F2 ⟨by simp [init], by simp [init], fun r hr => by simp [init] at hr⟩ hF
      simp only [finP] at h
      split at h
      · obtain rfl := Option.some.inj h
        obtain ⟨p1, p2, p3⟩ := p
        refine ⟨by simp; omega, fun r hr => ?_⟩
        rcases List.mem_append.1 hr with hr | hr
        · have := p3 r hr; exact ⟨this.1, by omega⟩
        · rw [List.mem_singleton.1 hr]; exact ⟨by simp, by simp; omega⟩
      · cases h

/-- what Read answers: the rings, the error, the place -/
def readP (s : ByteArray) : List (List Acre.Pt) × Int × Int :=
  if 120 < s.size then ([], 1, 0)
  else match (scanP s).1 with
    | none => ([], 2, (scanP s).2)
    | some R => if (firstP R).1 = 0 then (R.map (fun r => r.map ptOf), 0, 0) else ([], (firstP R).1, (firstP R).2)

def ReadPost (s : ByteArray) (w : World) (e : Ending) (w' : World) : Prop :=
  ∃ u, e = .returned (.tuple #[u, .int .i64 (readP s).2.1, .int .i64 (readP s).2.2]) ∧ Answer w' w.heap.size u (readP s).1 ∧ Below w.heap.size w w'

theorem answer_nil (w : World) (base : Nat) : Answer w base (.slice none 0 0) [] := ⟨[], rfl, by simp, World.ownsRow_nil _ _ _ _, fun i h _ => by simp at h⟩

theorem Answer.base {w : World} {a b : Nat} {l : Value} {R : List (List Acre.Pt)} (h : Answer w b l R) (hab : a ≤ b) : Answer w a l R := by
  obtain ⟨vs, h1, h2, h3, h4⟩ := h
  refine ⟨vs, h1, h2, ⟨h3.1, ?_⟩, fun i hi hi' => ?_⟩
  · rcases h3.2 with e | ⟨g, cap, cur, q1, q2, q3⟩
    · exact Or.inl e
    · exact Or.inr ⟨g, cap, cur, q1, by omega, q3⟩
  · obtain ⟨ga, b', off, cap, q1, q2, q3⟩ := h4 i hi hi'
    exact ⟨ga, b', off, cap, q1, fun k => ⟨(q2 k).1, (q2 k).2.1, by have := (q2 k).2.2.1; omega, (q2 k).2.2.2⟩, q3⟩

theorem RSpots.later {w w' : World} {v : Value} {R : List (List Sp)} (h : RSpots w v R) (hb : Below w.heap.size w w') : RSpots w' v R := by
  obtain ⟨ga, b, off, cap, h1, h2, h3⟩ := h
  refine ⟨ga, b, off, cap, h1, h2, fun i hi => ?_⟩
  obtain ⟨u, q1, ga', b', off', cap', q2, q3, q4⟩ := h3 i hi
  exact ⟨u, cell_later hb q1, ga', b', off', cap', q2, fun k => ⟨(q3 k).1, Nat.lt_of_lt_of_le (q3 k).2 hb.size⟩, q4.later hb⟩

set_option maxHeartbeats 1000000 in
theorem read_any (s : ByteArray) (w : World) : Calls Try.prog 7 #[.string s] w (ReadPost s w) := by
  by_cases hl : 120 < s.size
  · have HP := hide (show readP s = ([], 1, 0) by rw [readP, if_pos hl])
    have hl' : (120 : Int) < (s.size : Int) := by omega
    go_enter Try.func7, Try.ntmps7
    go_wp2
    refine bodyPost_ret (v := .tuple #[.slice none 0 0, .int .i64 1, .int .i64 0]) (by simp [results, Try.results7, go_sem]) rfl ⟨.slice none 0 0, ?_, ?_, Below.refl _ _⟩
    · rw [HP.out]
    · rw [HP.out]; exact answer_nil _ _
  · have hl' : ¬ (120 : Int) < (s.size : Int) := by omega
    have ks := scan_any s w (by omega)
    cases hS : (scanP s).1 with
    | none =>
      have HP := hide (show readP s = ([], 2, (scanP s).2) by rw [readP, if_neg hl, hS])
      have ks' : Calls Try.prog 18 #[.string s] w fun e w' => ∃ v, e = .returned (.tuple #[v, .int .i64 (scanP s).2, .bool false]) ∧ Below w.heap.size w w' := ks.mono fun e w' h => by
        obtain ⟨v, h1, h2, _⟩ := h
        rw [hS] at h1
        exact ⟨v, h1, h2⟩
      have Ks := hide ks'
      clear ks ks' hS
      generalize (scanP s).2 = at' at *
      go_enter Try.func7, Try.ntmps7
      go_wp2_with fail
      refine Ks.out.mono ?_
      rintro e w1 ⟨v, rfl, hb1⟩
      go_wp2
      refine bodyPost_ret (v := .tuple #[.slice none 0 0, .int .i64 2, .int .i64 at']) (by simp [results, Try.results7, go_sem]) rfl ⟨.slice none 0 0, ?_, ?_, hb1⟩
      · rw [HP.out]
      · rw [HP.out]; exact answer_nil _ _
    | some R =>
      obtain ⟨hR1, hR2⟩ := scanP_inv hS
      have ks' : Calls Try.prog 18 #[.string s] w fun e w' => ∃ v, e = .returned (.tuple #[v, .int .i64 (scanP s).2, .bool true]) ∧ Below w.heap.size w w' ∧ RSpots w' v R := ks.mono fun e w' h => by
        obtain ⟨v, h1, h2, h3⟩ := h
        rw [hS] at h1
        exact ⟨v, h1, h2, h3 R hS⟩
      have Ks := hide ks'
      have hne : ∀ r ∈ R, r ≠ [] := fun r hr => (hR2 r hr).1
      have hlen : ∀ r ∈ R, r.length ≤ 1000 := fun r hr => by have := (hR2 r hr).2; omega
      have hRl : R.length ≤ 1000 := by omega
      by_cases hf : (firstP R).1 = 0
      · have HP := hide (show readP s = (R.map (fun r => r.map ptOf), 0, 0) by rw [readP, if_neg hl, hS]; simp only; rw [if_pos hf])
        have Kf := hide (fun W v hv => firstFault_any R v W hv hne hRl hlen)
        rw [hf] at Kf
        have Kp := hide (fun W v hv => pointsOf_any R v W hv hRl hlen)
        clear ks ks' hS hf hne hlen hR2
        generalize (firstP R).2 = fa at *
        generalize (scanP s).2 = at' at *
        go_enter Try.func7, Try.ntmps7
        go_wp2_with fail
        refine Ks.out.mono ?_
        rintro e w1 ⟨v, rfl, hb1, hv1⟩
        have Hv := hide hv1
        go_wp2_with fail
        refine (Kf.out w1 v Hv.out).mono ?_
        rintro e w2 ⟨rfl, hb2⟩
        have hv2 := hide (hv1.later hb2)
        clear hv1 Hv
        go_wp2_with fail
        refine (Kp.out w2 v hv2.out).mono ?_
        rintro e w3 ⟨u, rfl, hA, hb3⟩
        have hA' := hide (hA.base (Nat.le_trans hb1.size hb2.size))
        have hB := hide (below_call hb3 (below_call hb2 hb1))
        have hform : ∃ ga n cap, u = .slice ga n cap := by
          obtain ⟨vs, h1, h2, h3, h4⟩ := hA
          rcases h3.2 with ⟨rfl, _⟩ | ⟨g, cap, cur, rfl, _⟩ <;> exact ⟨_, _, _, rfl⟩
        obtain ⟨ga, n, cap, rfl⟩ := hform
        clear hA hv2 hb1 hb2 hb3
        go_wp2
        refine bodyPost_ret (v := .tuple #[.slice ga n cap, .int .i64 0, .int .i64 0]) (by simp [results, Try.results7, go_sem]) rfl ⟨.slice ga n cap, ?_, ?_, hB.out⟩
        · rw [HP.out]
        · rw [HP.out]; exact hA'.out
      · have HP := hide (show readP s = ([], (firstP R).1, (firstP R).2) by rw [readP, if_neg hl, hS]; simp only; rw [if_neg hf])
        have Kf := hide (fun W v hv => firstFault_any R v W hv hne hRl hlen)
        clear ks ks' hS hne hlen hR2
        generalize (firstP R).1 = fe at *
        generalize (firstP R).2 = fa at *
        generalize (scanP s).2 = at' at *
        have hfb : (fe == 0) = false := by simpa using hf
        clear hf
        go_enter Try.func7, Try.ntmps7
        go_wp2_with fail
        refine Ks.out.mono ?_
        rintro e w1 ⟨v, rfl, hb1, hv1⟩
        have Hv := hide hv1
        clear hv1
        go_wp2_with fail
        refine (Kf.out w1 v Hv.out).mono ?_
        rintro e w2 ⟨rfl, hb2⟩
        go_wp2
        refine bodyPost_ret (v := .tuple #[.slice none 0 0, .int .i64 fe, .int .i64 fa]) (by simp [results, Try.results7, go_sem]) rfl ⟨.slice none 0 0, ?_, ?_, below_call hb2 hb1⟩
        · rw [HP.out]
        · rw [HP.out]; exact answer_nil _ _

end Go.Proofs.Ytkjlkbgdkdcboaa
