import Derived.Test.YtkjlkbgdkdcboaaDoorScan2
import Derived.Test.YtkjlkbgdkdcboaaDoorRW
import Derived.Test.YtkjlkbgdkdcboaaDoorRead
namespace Go.Proofs.YtkjlkbgdkdcboaaDoor

/-- from pos on the text is B -/
def At (s : ByteArray) (pos : Nat) (B : List UInt8) : Prop := s.data.toList.drop pos = B ∧ pos ≤ s.size
theorem At.cons {s : ByteArray} {pos : Nat} {c : UInt8} {B : List UInt8} (h : At s pos (c :: B)) : bt s pos = (c.toNat : Int) ∧ At s (pos + 1) B := by
  obtain ⟨h1, h2⟩ := h
  have hlen : s.data.toList.length = s.size := Array.length_toList
  have hp : pos < s.size := by
    rcases Nat.lt_or_ge pos s.size with h | h
    · exact h
    · rw [List.drop_eq_nil_of_le (by omega)] at h1; cases h1
  have hg : s.data.toList[pos]? = some c := by
    have := congrArg List.head? h1
    rw [List.head?_drop] at this
    exact this
  refine ⟨?_, ?_, by omega⟩
  · rw [bt_in hp]
    congr 2
    rw [List.getElem?_eq_getElem (by omega)] at hg
    have := Option.some.inj hg
    rw [Array.getElem_toList] at this
    exact this
  · have : s.data.toList.drop (pos + 1) = (s.data.toList.drop pos).drop 1 := by rw [List.drop_drop]
    rw [this, h1]; rfl
theorem At.nil {s : ByteArray} {pos : Nat} (h : At s pos []) : ¬ pos < s.size := by
  obtain ⟨h1, h2⟩ := h
  have hlen : s.data.toList.length = s.size := Array.length_toList
  have := congrArg List.length h1
  rw [List.length_drop] at this
  simp at this
  omega

theorem dig_step {s : ByteArray} {pos : Nat} {st : PS} {d : Nat} {B : List UInt8} (h : At s pos (UInt8.ofNat (48 + d) :: B)) (hd : d ≤ 9) (hs : st.r.step ≠ 3) : TT s pos st = TT s (pos + 1) ⟨st.r.digit pos d, st.acc, st.accs⟩ ∧ At s (pos + 1) B := by
  obtain ⟨h1, h2⟩ := h.cons
  have e : ((UInt8.ofNat (48 + d)).toNat : Int) = 48 + d := by
    rw [UInt8.toNat_ofNat']; omega
  rw [e] at h1
  refine ⟨?_, h2⟩
  rw [TT_ascii (by omega) (by omega), takeP_dig (by omega) hs]
  have : bt s pos - 48 = (d : Int) := by omega
  rw [this]

theorem more_step' (r : RS) (d : Int) : (r.more d).step = r.step + 1 ∧ (r.more d).half = r.half := by
  obtain ⟨st, mi, ha, a0, v0, a1, v1⟩ := r
  cases ha <;> exact ⟨rfl, rfl⟩
theorem begin_half (r : RS) (a : Int) (m : Bool) : (r.begin a m).half = r.half := by
  obtain ⟨st, mi, ha, a0, v0, a1, v1⟩ := r
  cases ha <;> rfl

def Done (r r' : RS) (i : Nat) (v : Int) : Prop := (r'.step = 2 ∨ r'.step = 3) ∧ After r r' i v

/-- digits, behind a sign or none -/
theorem digs (s : ByteArray) (i pos : Nat) (m : Bool) (st st1 : PS) (u : Nat) (B : List UInt8) (hu : u ≤ 12) (h : At s pos (nmD u ++ B)) (hs : st1.r.step ≠ 3) (hacc : st1.acc = st.acc ∧ st1.accs = st.accs)
    (hd : ∀ d : Int, st1.r.digit pos d = (st.r.begin i m).more d) :
    ∃ r', TT s pos st1 = TT s (pos + (nmD u).length) ⟨r', st.acc, st.accs⟩ ∧ At s (pos + (nmD u).length) B ∧ Done st.r r' i (if m then -(u : Int) else u) := by
  by_cases h10 : u < 10
  · have e : nmD u = [UInt8.ofNat (48 + u)] := by unfold nmD; rw [if_pos h10]
    rw [e] at h ⊢
    obtain ⟨q1, q2⟩ := dig_step (st := st1) h (by omega) hs
    refine ⟨(st.r.begin i m).more u, ?_, q2, Or.inl (more_step st.r i m u).1, ?_⟩
    · rw [q1, hd, hacc.1, hacc.2]; rfl
    · have := after1 st.r i m u
      simpa using this
  · have e : nmD u = [UInt8.ofNat (48 + u / 10), UInt8.ofNat (48 + u % 10)] := by unfold nmD; rw [if_neg h10]
    rw [e] at h ⊢
    obtain ⟨q1, q2⟩ := dig_step (st := st1) h (by omega) hs
    have hm := more_step st.r i m ((u / 10 : Nat) : Int)
    obtain ⟨q3, q4⟩ := dig_step (st := ⟨st1.r.digit pos ((u / 10 : Nat) : Int), st1.acc, st1.accs⟩) q2 (by omega) (by simp only [hd]; rw [hm.1]; decide)
    refine ⟨((st.r.begin i m).more ((u / 10 : Nat) : Int)).more ((u % 10 : Nat) : Int), ?_, q4, Or.inr ?_, ?_⟩
    · rw [q1, q3]
      simp only [hd, hacc.1, hacc.2]
      have : ((st.r.begin i m).more ((u / 10 : Nat) : Int)).digit ((pos + 1 : Nat) : Int) ((u % 10 : Nat) : Int) = ((st.r.begin i m).more ((u / 10 : Nat) : Int)).more ((u % 10 : Nat) : Int) := by
        unfold RS.digit; rw [if_neg (by rw [hm.1]; decide)]
      rw [this]; rfl
    · rw [(more_step' _ _).1, hm.1]; rfl
    · have := after2 st.r i m ((u / 10 : Nat) : Int) ((u % 10 : Nat) : Int)
      have e2 : (10 * (10 * 0 + ((u / 10 : Nat) : Int)) + ((u % 10 : Nat) : Int)) = (u : Int) := by omega
      rw [e2] at this
      exact this

theorem num_read (s : ByteArray) (pos : Nat) (st : PS) (n : Int) (B : List UInt8) (hn : -12 ≤ n ∧ n ≤ 12) (h : At s pos (nm n ++ B)) (h0 : st.r.step = 0) :
    ∃ r', TT s pos st = TT s (pos + (nm n).length) ⟨r', st.acc, st.accs⟩ ∧ At s (pos + (nm n).length) B ∧ Done st.r r' pos n := by
  by_cases hneg : n < 0
  · have e : nm n = 45 :: nmD n.natAbs := by unfold nm; rw [if_pos hneg]
    rw [e] at h ⊢
    obtain ⟨h1, h2⟩ := At.cons (c := 45) (B := nmD n.natAbs ++ B) h
    have h1' : bt s pos = 45 := h1
    have hT : TT s pos st = TT s (pos + 1) ⟨st.r.begin pos true, st.acc, st.accs⟩ := by
      rw [TT_ascii (by omega) (by omega)]
      have : takeP st pos (bt s pos) = some ⟨st.r.begin pos true, st.acc, st.accs⟩ := by unfold takeP; rw [if_pos ⟨Or.inl h1', h0⟩]
      rw [this]
    obtain ⟨r', q1, q2, q3⟩ := digs s pos (pos + 1) true st ⟨st.r.begin pos true, st.acc, st.accs⟩ n.natAbs B (by omega) h2 (by simp only; rw [begin_step]; decide) ⟨rfl, rfl⟩ (fun d => by
      simp only [RS.digit]; rw [if_neg (by rw [begin_step]; decide)])
    refine ⟨r', ?_, ?_, ?_⟩
    · rw [hT, q1, List.length_cons]; congr 1; omega
    · rw [List.length_cons]; have e2 : pos + ((nmD n.natAbs).length + 1) = pos + 1 + (nmD n.natAbs).length := by omega
      rw [e2]; exact q2
    · have e3 : (if true = true then -(n.natAbs : Int) else (n.natAbs : Int)) = n := by simp; omega
      rw [e3] at q3; exact q3
  · have e : nm n = nmD n.toNat := by unfold nm; rw [if_neg hneg]
    rw [e] at h ⊢
    obtain ⟨r', q1, q2, q3⟩ := digs s pos pos false st st n.toNat B (by omega) h (by rw [h0]; decide) ⟨rfl, rfl⟩ (fun d => by
      simp only [RS.digit]; rw [if_pos h0])
    refine ⟨r', q1, q2, ?_⟩
    have e3 : (if false = true then -(n.toNat : Int) else (n.toNat : Int)) = n := by simp; omega
    rw [e3] at q3; exact q3

theorem done_may {r r' : RS} {i : Nat} {v : Int} (h : Done r r' i v) : mayE r' r.half = true ∧ r'.half = r.half := by
  obtain ⟨h1, h2, _⟩ := h
  refine ⟨?_, h2⟩
  unfold mayE
  rw [h2]
  rcases h1 with e | e <;> simp [e]

theorem sep_step {s : ByteArray} {pos : Nat} {st : PS} {c : UInt8} {B : List UInt8} {st' : PS} (h : At s pos (c :: B)) (hc : c.toNat < 128) (ht : takeP st pos (c.toNat : Int) = some st') : TT s pos st = TT s (pos + 1) st' ∧ At s (pos + 1) B := by
  obtain ⟨h1, h2⟩ := h.cons
  refine ⟨?_, h2⟩
  rw [TT_ascii (by omega) (by omega), h1, ht]

theorem point_read (s : ByteArray) (pos : Nat) (st : PS) (p : Acre.Pt) (B : List UInt8) (hp : Acre.onGrid p = true) (h : At s pos (ptL p ++ B)) (h0 : st.r.step = 0) (hh : st.r.half = false) :
    ∃ r', TT s pos st = TT s (pos + (ptL p).length) ⟨r', st.acc, st.accs⟩ ∧ At s (pos + (ptL p).length) B ∧ mayE r' true = true ∧ r'.endN.sp.1.2 = p.1 ∧ r'.endN.sp.2.2 = p.2 := by
  obtain ⟨g1, g2⟩ := gridOk hp
  unfold ptL at h ⊢
  rw [List.append_assoc] at h
  obtain ⟨r1, a1, a2, a3⟩ := num_read s pos st p.1 _ g1 h h0
  have hm := done_may a3
  rw [hh] at hm
  obtain ⟨b1, b2⟩ := sep_step (st := ⟨r1, st.acc, st.accs⟩) (c := 44) (B := nm p.2 ++ B) (st' := ⟨{ r1.endN with half := true }, st.acc, st.accs⟩) a2 (by decide) (by
    unfold takeP
    rw [if_neg (fun x => absurd x.1 (by decide)), if_neg (fun x => absurd x.1 (by decide)), if_pos ⟨by decide, hm.1⟩])
  obtain ⟨r2, c1, c2, c3⟩ := num_read s _ ⟨{ r1.endN with half := true }, st.acc, st.accs⟩ p.2 B g2 b2 (endN_step r1)
  have hm2 := done_may c3
  refine ⟨r2, ?_, ?_, hm2.1, ?_, ?_⟩
  · rw [a1, b1, c1]
    congr 1
    simp only [List.length_append, List.length_cons]; omega
  · have e : pos + (nm p.1 ++ 44 :: nm p.2).length = pos + (nm p.1).length + 1 + (nm p.2).length := by simp only [List.length_append, List.length_cons]; omega
    rw [e]; exact c2
  · have hA := a3.2.2
    rw [hh] at hA
    have hA2 := c3.2.2
    simp only at hA hA2
    rw [hA2]
    simp only
    exact congrArg Prod.snd hA
  · have hA2 := c3.2.2
    simp only at hA2
    rw [hA2]

theorem ring_read (s : ByteArray) : ∀ (r : List Acre.Pt) (pos : Nat) (st : PS) (B : List UInt8), r ≠ [] → (∀ p ∈ r, Acre.onGrid p = true) → At s pos (ringL r ++ B) → st.r.step = 0 → st.r.half = false →
    ∃ r' ps, TT s pos st = TT s (pos + (ringL r).length) ⟨r', st.acc ++ ps, st.accs⟩ ∧ At s (pos + (ringL r).length) B ∧ mayE r' true = true ∧ (ps ++ [r'.endN.sp]).map ptOf = r
  | [], _, _, _, h, _, _, _, _ => absurd rfl h
  | [p], pos, st, B, _, hg, h, h0, hh => by
    have e : ringL [p] = ptL p := by simp [ringL, JJ, Lib.join, List.intercalate]
    rw [e] at h ⊢
    obtain ⟨r', q1, q2, q3, q4, q5⟩ := point_read s pos st p B (hg p (by simp)) h h0 hh
    refine ⟨r', [], by rw [q1]; simp, q2, q3, ?_⟩
    simp only [List.nil_append, List.map_cons, List.map_nil, ptOf, q4, q5]
  | p :: q :: t, pos, st, B, _, hg, h, h0, hh => by
    have e : ringL (p :: q :: t) = ptL p ++ 32 :: ringL (q :: t) := by simp [ringL, JJ, Lib.join, List.intercalate]
    rw [e] at h ⊢
    rw [List.append_assoc] at h
    obtain ⟨r1, a1, a2, a3, a4, a5⟩ := point_read s pos st p _ (hg p (by simp)) h h0 hh
    obtain ⟨b1, b2⟩ := sep_step (st := ⟨r1, st.acc, st.accs⟩) (c := 32) (B := ringL (q :: t) ++ B) (st' := ⟨{ r1.endN with half := false }, st.acc ++ [r1.endN.sp], st.accs⟩) a2 (by decide) (by
      unfold takeP
      rw [if_neg (fun x => absurd x.1 (by decide)), if_neg (fun x => absurd x.1 (by decide)), if_neg (by intro x; exact absurd x.1 (by decide)), if_pos ⟨by decide, a3⟩])
    obtain ⟨r2, ps, c1, c2, c3, c4⟩ := ring_read s (q :: t) _ ⟨{ r1.endN with half := false }, st.acc ++ [r1.endN.sp], st.accs⟩ B (by simp) (fun x hx => hg x (List.mem_cons_of_mem _ hx)) b2 (endN_step r1) rfl
    refine ⟨r2, r1.endN.sp :: ps, ?_, ?_, c3, ?_⟩
    · rw [a1, b1, c1]
      have e2 : pos + (ptL p).length + 1 + (ringL (q :: t)).length = pos + (ptL p ++ 32 :: ringL (q :: t)).length := by simp only [List.length_append, List.length_cons]; omega
      rw [e2]; simp
    · have e2 : pos + (ptL p).length + 1 + (ringL (q :: t)).length = pos + (ptL p ++ 32 :: ringL (q :: t)).length := by simp only [List.length_append, List.length_cons]; omega
      rw [← e2]; exact c2
    · rw [List.cons_append, List.map_cons, c4]
      simp only [ptOf, a4, a5]

theorem rings_read (s : ByteArray) : ∀ (R : List (List Acre.Pt)) (pos : Nat) (st : PS), R ≠ [] → (∀ r ∈ R, r ≠ [] ∧ ∀ p ∈ r, Acre.onGrid p = true) → At s pos (textL R) → st.r.step = 0 → st.r.half = false → st.acc = [] →
    ∃ M, TT s pos st = (some (st.accs ++ M), 0) ∧ M.map (fun r => r.map ptOf) = R
  | [], _, _, h, _, _, _, _, _ => absurd rfl h
  | [r], pos, st, _, hg, h, h0, hh, ha => by
    have e : textL [r] = ringL r ++ [] := by simp [textL, JJ, Lib.join, List.intercalate]
    rw [e] at h
    obtain ⟨r', ps, q1, q2, q3, q4⟩ := ring_read s r pos st [] (hg r (by simp)).1 (hg r (by simp)).2 h h0 hh
    refine ⟨[ps ++ [r'.endN.sp]], ?_, by rw [List.map_singleton, q4]⟩
    rw [q1, TT_end q2.nil, if_pos q3, ha, List.nil_append]
  | r :: q :: t, pos, st, _, hg, h, h0, hh, ha => by
    have e : textL (r :: q :: t) = ringL r ++ 59 :: textL (q :: t) := by simp [textL, JJ, Lib.join, List.intercalate]
    rw [e] at h
    obtain ⟨r1, ps, a1, a2, a3, a4⟩ := ring_read s r pos st _ (hg r (by simp)).1 (hg r (by simp)).2 h h0 hh
    rw [ha, List.nil_append] at a1
    obtain ⟨b1, b2⟩ := sep_step (st := ⟨r1, ps, st.accs⟩) (c := 59) (B := textL (q :: t)) (st' := ⟨{ r1.endN with half := false }, [], st.accs ++ [ps ++ [r1.endN.sp]]⟩) a2 (by decide) (by
      unfold takeP
      rw [if_neg (fun x => absurd x.1 (by decide)), if_neg (fun x => absurd x.1 (by decide)), if_neg (by intro x; exact absurd x.1 (by decide)), if_neg (by intro x; exact absurd x.1 (by decide)), if_pos ⟨by decide, a3⟩])
    obtain ⟨M, c1, c2⟩ := rings_read s (q :: t) _ ⟨{ r1.endN with half := false }, [], st.accs ++ [ps ++ [r1.endN.sp]]⟩ (by simp) (fun x hx => hg x (List.mem_cons_of_mem _ hx)) b2 (endN_step r1) rfl rfl
    refine ⟨(ps ++ [r1.endN.sp]) :: M, ?_, ?_⟩
    · rw [a1, b1, c1]; simp
    · rw [List.map_cons, c2, a4]

theorem far_ok (r : List Sp) (h : ∀ p ∈ r, Acre.onGrid (ptOf p) = true) : ffFar NW r = NW := by
  induction r with
  | nil => rfl
  | cons p t ih =>
    have hp := gridOk (h p (by simp))
    have e : ffPt NW p = NW := by
      have hp1 : -12 ≤ p.1.2 ∧ p.1.2 ≤ 12 := hp.1
      have hp2 : -12 ≤ p.2.2 ∧ p.2.2 ≤ 12 := hp.2
      unfold ffPt farP
      rw [if_pos hp1, if_pos hp2]
      rfl
    have : ffFar NW (p :: t) = ffFar (ffPt NW p) t := rfl
    rw [this, e]
    exact ih (fun q hq => h q (List.mem_cons_of_mem _ hq))
theorem ring_ok (i : Nat) (r : List Sp) (hi : i < 2) (h : Acre.ringOk (r.map ptOf) = true) : ffRing i ⟨NW, NW, NW⟩ r = ⟨NW, NW, NW⟩ := by
  obtain ⟨h3, h6, hg⟩ := ringFacts h
  rw [List.length_map] at h3 h6
  unfold ffRing ffMany2 ffMany1 ffFew
  rw [far_ok r (fun p hp => hg _ (List.mem_map_of_mem hp)), if_neg (by omega), if_neg (by omega), if_neg (by omega)]

/-- what was written is read as it was -/
theorem round_trip (s : ByteArray) (R : List (List Acre.Pt)) (hF : Acre.fieldOk R = true) (ht : s.data.toList = textL R) (hs : s.size ≤ 120) : readP s = (R, 0, 0) := by
  obtain ⟨h2, hk⟩ := fieldFacts hF
  have hlen : s.data.toList.length = s.size := Array.length_toList
  have hscan : ∃ M, scanP s = (some M, 0) ∧ M.map (fun r => r.map ptOf) = R := by
    by_cases hR : R = []
    · subst hR
      have : s.size = 0 := by rw [← hlen, ht]; rfl
      exact ⟨[], by rw [scanP, if_pos this], rfl⟩
    · obtain ⟨M, q1, q2⟩ := rings_read s R 0 init hR (fun r hr => by
        obtain ⟨h3, _, hg⟩ := ringFacts (hk r hr)
        exact ⟨fun e => by rw [e] at h3; simp at h3, hg⟩) ⟨by rw [List.drop_zero]; exact ht, Nat.zero_le _⟩ rfl rfl rfl
      refine ⟨M, ?_, q2⟩
      have hne : s.size ≠ 0 := by
        intro e
        have hz : textL R = [] := by rw [← ht]; exact List.length_eq_zero_iff.1 (by omega)
        unfold TT at q1
        rw [e] at q1
        simp [scanF, finP, init, mayE] at q1
      rw [scanP, if_neg hne]
      simpa [TT, init] using q1
  obtain ⟨M, hM, hMR⟩ := hscan
  have hf : firstP M = (0, 0) := by
    have : ffAll 0 ⟨NW, NW, NW⟩ M = ⟨NW, NW, NW⟩ := by
      have hl : M.length ≤ 2 := by rw [← hMR, List.length_map] at h2; exact h2
      have hr : ∀ r ∈ M, Acre.ringOk (r.map ptOf) = true := fun r hr => hk _ (by rw [← hMR]; exact List.mem_map_of_mem hr)
      match M, hl, hr with
      | [], _, _ => rfl
      | [a], _, hr => simp only [ffAll]; exact ring_ok 0 a (by omega) (hr a (by simp))
      | [a, b], _, hr => simp only [ffAll]; rw [ring_ok 0 a (by omega) (hr a (by simp))]; exact ring_ok 1 b (by omega) (hr b (by simp))
      | a :: b :: c :: t, hl, _ => simp at hl
    unfold firstP
    rw [this]
    rfl
  unfold readP
  rw [if_neg (by omega), hM]
  simp only
  rw [if_pos (by rw [hf]), hMR]

end Go.Proofs.YtkjlkbgdkdcboaaDoor
