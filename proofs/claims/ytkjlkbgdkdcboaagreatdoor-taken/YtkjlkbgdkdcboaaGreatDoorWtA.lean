import Derived.Test.YtkjlkbgdkdcboaaGreatDoorCeC
import Derived.Test.YtkjlkbgdkdcboaaGreatDoorLwA
import Derived.Test.YtkjlkbgdkdcboaaGreatDoorCeB
import Derived.Test.YtkjlkbgdkdcboaaGreatDoorWt0
import Derived.Test.YtkjlkbgdkdcboaaGreatDoorMaB
import Derived.Test.YtkjlkbgdkdcboaaGreatDoorFiA

set_option linter.unusedSimpArgs false
set_option linter.unusedVariables false

set_option linter.unusedSimpArgs false
set_option linter.unusedVariables false
namespace Go.Proofs.YtkjlkbgdkdcboaaGreatDoor
open Go.RowKit Go.Maps
attribute [local go_sem ↓] Go.wp_at_zero Go.wp_at_succ

theorem ordF_lt {f h : Acre.Fc} (h1 : Acre.ordF f h < 0) : Acre.Lt f h := by
  unfold Acre.ordF Acre.sgn at h1
  unfold Acre.Lt
  by_cases a : f.1 * h.2 - h.1 * f.2 < 0
  · omega
  · rw [if_neg a] at h1
    split at h1 <;> omega
theorem isL_mem {E : List Acre.Ed} {n : Int} (h0 : 0 ≤ n) (h : isL E n = true) : Acre.gd E n.toNat ∈ E ∧ Acre.upr (Acre.gd E n.toNat) = false := by
  unfold isL at h
  simp at h
  exact ⟨Acre.gd_mem (by omega), h.2⟩
theorem pieceC_good {E : List Acre.Ed} {d : Dr} {p : Acre.Pc} (hd : drOk d) (h : pieceC E d = some p) : Acre.Good E p ∧ CutOk p.1.1 ∧ CutOk p.1.2 := by
  unfold pieceC at h
  split at h
  · rename_i hc
    obtain ⟨h1, h2, h3, h4, h5⟩ := hc
    simp only [Option.some.injEq] at h
    rw [← h]
    have c1 := within_ok h1
    have c2 := within_ok h2
    exact ⟨⟨c1.lim, c2.lim, ordF_lt h3, isL_mem hd.1 h4, isL_mem hd.2 h5⟩, c1, c2⟩
  · simp at h
theorem certC_good {s : ByteArray} {E : List Acre.Ed} {ps : List Acre.Pc} (h : certC s E = some ps) : (∀ p ∈ ps, Acre.Good E p) ∧ (∀ p ∈ ps, CutOk p.1.1 ∧ CutOk p.1.2) ∧ ps.length ≤ 4000 := by
  unfold certC at h
  rw [Option.bind_eq_some_iff] at h
  obtain ⟨ds, hds, h2⟩ := h
  split at h2
  · rename_i hl
    obtain ⟨h3, h4⟩ := allC_mem ds ps h2
    have hall : ∀ p ∈ ps, Acre.Good E p ∧ CutOk p.1.1 ∧ CutOk p.1.2 := fun p hp => by
      obtain ⟨d, hd, hpd⟩ := h3 p hp
      exact pieceC_good (draftsC_ok hds d hd) hpd
    exact ⟨fun p hp => (hall p hp).1, fun p hp => (hall p hp).2, by omega⟩
  · simp at h2
/-- what the checker takes -/
def checkP (s : ByteArray) (E : List Acre.Ed) (kk : Nat) (op : Int) : Option (List Acre.Pc) := if 200000 < s.size then none else (certC s E).bind fun ps => if Acre.filledP E kk op ps = true then some ps else none
/-- the edges of two texts that were read -/
theorem pair_fields {a b : ByteArray} {op : Int} (h : (errP a b op).1 = 0) : (readP a).2.1 = 0 ∧ (readP b).2.1 = 0 ∧ ¬ (op < 0 ∨ 3 < op) := by
  unfold errP at h
  by_cases h1 : (readP a).2.1 = 0
  · rw [if_pos h1] at h
    by_cases h2 : (readP b).2.1 = 0
    · rw [if_pos h2] at h
      by_cases h3 : op < 0 ∨ 3 < op
      · rw [if_pos h3] at h; simp at h
      · exact ⟨h1, h2, h3⟩
    · rw [if_neg h2] at h; exact absurd h h2
  · rw [if_neg h1] at h; exact absurd h h1
/-- what Combine answers -/
def combP (a b : ByteArray) (op : Int) (offer : ByteArray) : List Acre.Pc :=
  match checkP offer (pairE a b) (Acre.edgesOf (readP a).1).length op with
  | some ps => ps
  | none => Acre.joinAll (Acre.bandsP (pairE a b) (Acre.edgesOf (readP a).1).length op) (Acre.cutsP (pairE a b) [])

end Go.Proofs.YtkjlkbgdkdcboaaGreatDoor

set_option linter.unusedSimpArgs false
set_option linter.unusedVariables false
namespace Go.Proofs.YtkjlkbgdkdcboaaGreatDoor

/-- from pos on the text is B -/
def AtB (s : ByteArray) (pos : Nat) (B : List UInt8) : Prop := s.data.toList.drop pos = B ∧ pos ≤ s.size
theorem AtB.cons {s : ByteArray} {pos : Nat} {c : UInt8} {B : List UInt8} (h : AtB s pos (c :: B)) : bt s pos = (c.toNat : Int) ∧ pos < s.size ∧ AtB s (pos + 1) B := by
  obtain ⟨h1, h2⟩ := h
  have hlen : s.data.toList.length = s.size := Array.length_toList
  have hp : pos < s.size := by
    rcases Nat.lt_or_ge pos s.size with h | h
    · exact h
    · rw [List.drop_eq_nil_of_le (by omega)] at h1; cases h1
  have hg : s.data.toList[pos]? = some c := by
    have := congrArg List.head? h1
    rw [List.head?_drop] at this
    exact this
  refine ⟨?_, hp, ?_, by omega⟩
  · rw [bt_in hp]
    congr 2
    rw [List.getElem?_eq_getElem (by omega)] at hg
    have := Option.some.inj hg
    rw [Array.getElem_toList] at this
    exact this
  · have : s.data.toList.drop (pos + 1) = (s.data.toList.drop pos).drop 1 := by rw [List.drop_drop]
    rw [this, h1]; rfl
theorem AtB.nil {s : ByteArray} {pos : Nat} (h : AtB s pos []) : ¬ pos < s.size := by
  obtain ⟨h1, h2⟩ := h
  have hlen : s.data.toList.length = s.size := Array.length_toList
  have := congrArg List.length h1
  rw [List.length_drop] at this
  simp at this
  omega
theorem AtB.len {s : ByteArray} {pos : Nat} {A : List UInt8} (h : AtB s pos A) : pos + A.length = s.size := by
  obtain ⟨h1, h2⟩ := h
  have hlen : s.data.toList.length = s.size := Array.length_toList
  have := congrArg List.length h1
  rw [List.length_drop] at this
  omega
/-- no digit ahead -/
def NoD (B : List UInt8) : Prop := ∀ c r, B = c :: r → ¬ (48 ≤ c.toNat ∧ c.toNat ≤ 57)
theorem noD_nil : NoD [] := fun _ _ h => by cases h
theorem noD_cons {c : UInt8} {r : List UInt8} (h : ¬ (48 ≤ c.toNat ∧ c.toNat ≤ 57)) : NoD (c :: r) := fun c' r' e => by
  injection e with e1 e2
  rw [← e1]; exact h

theorem dig_nat {d : Nat} (h : d < 10) : (UInt8.ofNat (48 + d)).toNat = 48 + d := by rw [UInt8.toNat_ofNat']; omega
theorem least_lt {x : Int} (h : x < 1048576) : leastP 1048576 [x] = x := by
  unfold leastP
  show (if x < 1048576 then x else 1048576) = x
  rw [if_pos h]

theorem digB_of {s : ByteArray} {k d : Nat} (h : bt s k = ((48 + d : Nat) : Int)) (hd : d < 10) : digB s k = true := by
  unfold digB
  simp only [Bool.and_eq_true, decide_eq_true_eq]
  omega

/-- digits of a number above nought are taken one by one -/
theorem num_digits (s : ByteArray) (lim k : Nat) : ∀ (u : Nat) (B : List UInt8), 0 < u → u < 1048576 → AtB s k (Lib.decDigits u ++ B) → k + (Lib.decDigits u).length ≤ lim → numR s lim 0 k = numR s lim u (k + (Lib.decDigits u).length) ∧ AtB s (k + (Lib.decDigits u).length) B := by
  intro u
  induction u using Nat.strongRecOn with
  | ind u ih =>
    intro B h0 hu hA hl
    by_cases h10 : u < 10
    · rw [dec_small h10] at hA hl ⊢
      obtain ⟨a1, a2, a3⟩ := AtB.cons (c := UInt8.ofNat (48 + u)) (B := B) hA
      rw [dig_nat h10] at a1
      have e : (10 * (0 : Int) + (bt s k - 48)) = (u : Int) := by omega
      refine ⟨?_, a3⟩
      rw [numR_more ⟨a2, by simp at hl; omega, digB_of a1 h10⟩ (by rw [e, least_lt (by omega)]; omega), e, least_lt (by omega)]
      rfl
    · rw [dec_more h10] at hA hl ⊢
      rw [List.length_append] at hl ⊢
      simp only [List.length_singleton] at hl ⊢
      rw [List.append_assoc] at hA
      obtain ⟨i1, i2⟩ := ih (u / 10) (by omega) ([UInt8.ofNat (48 + u % 10)] ++ B) (by omega) (by omega) hA (by omega)
      obtain ⟨a1, a2, a3⟩ := AtB.cons (c := UInt8.ofNat (48 + u % 10)) (B := B) i2
      rw [dig_nat (by omega)] at a1
      have e : (10 * ((u / 10 : Nat) : Int) + (bt s (k + (Lib.decDigits (u / 10)).length) - 48)) = (u : Int) := by omega
      refine ⟨?_, by rw [← Nat.add_assoc]; exact a3⟩
      rw [i1, numR_more ⟨a2, by omega, digB_of a1 (by omega)⟩ (by rw [e, least_lt (by omega)]; omega), e, least_lt (by omega)]
      rfl


/-- a number as it is written is read as it was -/
theorem num_text {s : ByteArray} {most k u : Nat} {B : List UInt8} (hA : AtB s k (Lib.decDigits u ++ B)) (hu : u < 1048576) (hm : (Lib.decDigits u).length ≤ most) (hB : NoD B) : numC s most k = some ((u : Int), k + (Lib.decDigits u).length) ∧ AtB s (k + (Lib.decDigits u).length) B := by
  have hp := dec_pos u
  have key : numR s (k + most) 0 k = ((u : Int), k + (Lib.decDigits u).length) ∧ AtB s (k + (Lib.decDigits u).length) B := by
    by_cases h0 : u = 0
    · subst h0
      have e0 : Lib.decDigits 0 = [UInt8.ofNat (48 + 0)] := dec_small (by omega)
      rw [e0] at hA hm ⊢
      obtain ⟨a1, a2, a3⟩ := AtB.cons (c := UInt8.ofNat (48 + 0)) (B := B) hA
      rw [dig_nat (by omega)] at a1
      refine ⟨?_, a3⟩
      rw [numR_zero ⟨a2, by simp at hm; omega, digB_of a1 (by omega)⟩ (by rw [least_lt (by omega)]; omega)]
      rfl
    · obtain ⟨i1, i2⟩ := num_digits s (k + most) k u B (by omega) hu hA (by omega)
      refine ⟨?_, i2⟩
      rw [i1]
      refine numR_stop ?_
      rintro ⟨c1, c2, c3⟩
      cases B with
      | nil => exact i2.nil c1
      | cons c r =>
        have hc := hB c r rfl
        obtain ⟨a1, _, _⟩ := i2.cons
        unfold digB at c3
        simp only [Bool.and_eq_true, decide_eq_true_eq] at c3
        exact hc ⟨by omega, by omega⟩
  refine ⟨?_, key.2⟩
  unfold numC
  rw [key.1, if_pos (by simp only; omega)]

theorem dec_head (u : Nat) : ∃ d r, Lib.decDigits u = UInt8.ofNat (48 + d) :: r ∧ d < 10 ∧ (0 < u → 0 < d) := by
  induction u using Nat.strongRecOn with
  | ind u ih =>
    by_cases h : u < 10
    · exact ⟨u, [], dec_small h, h, id⟩
    · obtain ⟨d, r, e, hd, hp⟩ := ih (u / 10) (by omega)
      exact ⟨d, r ++ [UInt8.ofNat (48 + u % 10)], by rw [dec_more h, e]; rfl, hd, fun _ => hp (by omega)⟩

theorem frac_text {s : ByteArray} {k : Nat} {f : Acre.Fc} {B : List UInt8} (hA : AtB s k (frT f ++ B)) (hn : -99999 ≤ f.1 ∧ f.1 ≤ 99999) (hd : 0 < f.2 ∧ f.2 ≤ 9999) (hB : NoD B) : fracC s k = some (f, k + (frT f).length) ∧ AtB s (k + (frT f).length) B := by
  obtain ⟨n, d⟩ := f
  simp only at hn hd
  have e2 : Lib.itoa d = Lib.decDigits d.toNat := by unfold Lib.itoa; rw [if_neg (by omega)]
  have hB47 : NoD (47 :: (Lib.decDigits d.toNat ++ B)) := noD_cons (by decide)
  have core : ∀ (f : Int) (k : Nat) (u : Nat), u ≤ 99999 → AtB s k (Lib.decDigits u ++ 47 :: (Lib.decDigits d.toNat ++ B)) → fracB s f k = some ((f * u, d), k + (Lib.decDigits u ++ 47 :: Lib.decDigits d.toNat).length) ∧ AtB s (k + (Lib.decDigits u ++ 47 :: Lib.decDigits d.toNat).length) B := by
    intro f k u hu hA
    obtain ⟨n1, n2⟩ := num_text (most := 5) hA (by omega) (dec_le 4 u (by omega)) hB47
    obtain ⟨a1, a2, a3⟩ := n2.cons
    obtain ⟨m1, m2⟩ := num_text (most := 4) a3 (by omega) (dec_le 3 d.toNat (by omega)) hB
    have ek : k + (Lib.decDigits u ++ 47 :: Lib.decDigits d.toNat).length = k + (Lib.decDigits u).length + 1 + (Lib.decDigits d.toNat).length := by
      rw [List.length_append, List.length_cons]; omega
    rw [ek]
    refine ⟨?_, m2⟩
    rw [fracB_s n1 (by unfold seesP; rw [a1]; decide) m1]
    simp only
    congr 3
    omega
  by_cases hneg : n < 0
  · have e1 : Lib.itoa n = 45 :: Lib.decDigits n.natAbs := by unfold Lib.itoa; rw [if_pos hneg]
    have eT : frT (n, d) = 45 :: (Lib.decDigits n.natAbs ++ 47 :: Lib.decDigits d.toNat) := by unfold frT; simp only; rw [e1, e2]; rfl
    rw [eT] at hA ⊢
    obtain ⟨a1, a2, a3⟩ := AtB.cons (c := 45) (B := (Lib.decDigits n.natAbs ++ 47 :: Lib.decDigits d.toNat) ++ B) hA
    rw [List.append_assoc] at a3
    obtain ⟨c1, c2⟩ := core (-1) (k + 1) n.natAbs (by omega) a3
    obtain ⟨dd, rr, ed, hdd, hdp⟩ := dec_head n.natAbs
    have hno : seesP s (k + 1) 48 = false := by
      rw [ed] at a3
      obtain ⟨b1, _, _⟩ := AtB.cons (c := UInt8.ofNat (48 + dd)) (B := rr ++ 47 :: (Lib.decDigits d.toNat ++ B)) a3
      rw [dig_nat hdd] at b1
      unfold seesP
      have := hdp (by omega)
      exact decide_eq_false (by omega)
    have ek : k + (45 :: (Lib.decDigits n.natAbs ++ 47 :: Lib.decDigits d.toNat)).length = k + 1 + (Lib.decDigits n.natAbs ++ 47 :: Lib.decDigits d.toNat).length := by
      rw [List.length_cons]; omega
    rw [ek]
    refine ⟨?_, c2⟩
    have h45 : seesP s k 45 = true := by unfold seesP; rw [a1]; decide
    unfold fracC
    rw [if_pos h45, hno, if_neg (by decide), c1]
    congr 3
    omega
  · have e1 : Lib.itoa n = Lib.decDigits n.toNat := by unfold Lib.itoa; rw [if_neg hneg]
    have eT : frT (n, d) = Lib.decDigits n.toNat ++ 47 :: Lib.decDigits d.toNat := by unfold frT; simp only; rw [e1, e2]
    rw [eT] at hA ⊢
    rw [List.append_assoc] at hA
    obtain ⟨c1, c2⟩ := core 1 k n.toNat (by omega) hA
    refine ⟨?_, c2⟩
    obtain ⟨dd, rr, ed, hdd, hdp⟩ := dec_head n.toNat
    have hno : seesP s k 45 = false := by
      rw [ed] at hA
      obtain ⟨b1, _, _⟩ := AtB.cons (c := UInt8.ofNat (48 + dd)) (B := rr ++ 47 :: (Lib.decDigits d.toNat ++ B)) hA
      rw [dig_nat hdd] at b1
      unfold seesP
      exact decide_eq_false (by omega)
    unfold fracC
    rw [hno, if_neg (by decide), c1]
    congr 3
    omega

/-- what a draft holds of a row that was written -/
def Has (d : Dr) (p : Wr) : Prop := d.f = p.1.1 ∧ d.t = p.1.2 ∧ d.lo = (p.2.1 : Int) ∧ d.hi = (p.2.2 : Int)

theorem draft_text {s : ByteArray} {k : Nat} {p : Wr} {B : List UInt8} (hA : AtB s k (wrT p ++ B)) (hp : WrOk p) (hB : NoD B) : ∃ d, draftC s k = some (d, k + (wrT p).length) ∧ AtB s (k + (wrT p).length) B ∧ Has d p := by
  obtain ⟨⟨f, t⟩, lo, hi⟩ := p
  obtain ⟨⟨f1, f2⟩, ⟨t1, t2⟩, hlo, hhi⟩ := hp
  simp only at f1 f2 t1 t2 hlo hhi
  have eT : wrT ((f, t), (lo, hi)) ++ B = frT f ++ 32 :: (frT t ++ 32 :: (Lib.decDigits lo ++ 32 :: (Lib.decDigits hi ++ B))) := by
    unfold wrT; simp
  rw [eT] at hA
  have h32 : ∀ r : List UInt8, NoD (32 :: r) := fun r => noD_cons (by decide)
  obtain ⟨a1, a2⟩ := frac_text hA f1 f2 (h32 _)
  obtain ⟨b1, b2, b3⟩ := a2.cons
  obtain ⟨c1, c2⟩ := frac_text b3 t1 t2 (h32 _)
  obtain ⟨d1, d2, d3⟩ := c2.cons
  have l1 := d3.len
  rw [List.length_append] at l1
  obtain ⟨g1, g2⟩ := num_text (most := s.size) d3 (by omega) (by omega) (h32 _)
  obtain ⟨i1, i2, i3⟩ := g2.cons
  have l2 := i3.len
  rw [List.length_append] at l2
  obtain ⟨j1, j2⟩ := num_text (most := s.size) i3 (by omega) (by omega) hB
  have hbl : ∀ {q : Nat}, bt s q = ((32 : UInt8).toNat : Int) → bld s q = some (q + 1) := fun h => bld_yes (by unfold seesP; rw [h]; decide)
  have el : k + (wrT ((f, t), (lo, hi))).length = k + (frT f).length + 1 + (frT t).length + 1 + (Lib.decDigits lo).length + 1 + (Lib.decDigits hi).length := by
    unfold wrT; simp only [List.length_append, List.length_cons]; omega
  rw [el]
  refine ⟨⟨f, t, lo, hi, k, k + (frT f).length + 1, k + (frT f).length + 1 + (frT t).length + 1, k + (frT f).length + 1 + (frT t).length + 1 + (Lib.decDigits lo).length + 1⟩, ?_, j2, rfl, rfl, rfl, rfl⟩
  unfold draftC
  simp only [a1, Option.bind_some, hbl b1, c1, hbl d1, g1, hbl i1, j1]

theorem noD_rest (l : List Wr) : NoD (restT l) := by
  cases l with
  | nil => exact noD_nil
  | cons p r => exact noD_cons (by decide)
def AllHas : List Dr → List Wr → Prop
  | [], [] => True
  | d :: ds, p :: ps => Has d p ∧ AllHas ds ps
  | [], _ :: _ => False
  | _ :: _, [] => False
theorem AllHas.snoc : ∀ {ds : List Dr} {ps : List Wr} {d : Dr} {p : Wr} (h : AllHas ds ps) (hd : Has d p), AllHas (ds ++ [d]) (ps ++ [p])
  | [], [], _, _, _, hd => ⟨hd, trivial⟩
  | _ :: _, _ :: _, _, _, h, hd => ⟨h.1, AllHas.snoc h.2 hd⟩
  | [], _ :: _, _, _, h, _ => h.elim
  | _ :: _, [], _, _, h, _ => h.elim
theorem AllHas.length : ∀ {ds : List Dr} {ps : List Wr} (h : AllHas ds ps), ds.length = ps.length
  | [], [], _ => rfl
  | _ :: ds, _ :: ps, h => by rw [List.length_cons, List.length_cons, AllHas.length h.2]
  | [], _ :: _, h => h.elim
  | _ :: _, [], h => h.elim
theorem drafts_rest {s : ByteArray} : ∀ (l : List Wr) (k : Nat) (acc : List Dr) (done : List Wr), (∀ p ∈ l, WrOk p) → AtB s k (restT l) → AllHas acc done → ∃ ds, draftsR s k acc = some ds ∧ AllHas ds (done ++ l)
  | [], k, acc, done, _, hA, hacc => ⟨acc, draftsR_end hA.nil, by simpa using hacc⟩
  | p :: r, k, acc, done, hok, hA, hacc => by
    have e : restT (p :: r) = 59 :: (wrT p ++ restT r) := by unfold restT; simp
    rw [e] at hA
    obtain ⟨a1, a2, a3⟩ := hA.cons
    obtain ⟨d, d1, d2, d3⟩ := draft_text a3 (hok p (by simp)) (noD_rest r)
    obtain ⟨ds, e1, e2⟩ := drafts_rest r _ (acc ++ [d]) (done ++ [p]) (fun q hq => hok q (by simp [hq])) d2 (hacc.snoc d3)
    refine ⟨ds, ?_, by simpa using e2⟩
    rw [draftsR_more a2 (by unfold seesP; rw [a1]; decide) d1]
    exact e1
/-- **a certificate is read as it was written** -/
theorem drafts_text {s : ByteArray} {l : List Wr} (hs : s.data.toList = certT l) (hok : ∀ p ∈ l, WrOk p) : ∃ ds, draftsC s = some ds ∧ AllHas ds l := by
  have hA : AtB s 0 (certT l) := ⟨by rw [List.drop_zero]; exact hs, Nat.zero_le _⟩
  unfold draftsC
  cases l with
  | nil =>
    have : s.size = 0 := by have := hA.nil; omega
    rw [if_pos this]
    exact ⟨[], rfl, trivial⟩
  | cons p r =>
    obtain ⟨d, d1, d2, d3⟩ := draft_text (B := restT r) hA (hok p (by simp)) (noD_rest r)
    have hne : s.size ≠ 0 := by
      have := hA.len
      have h2 : 0 < (frT p.1.1).length := by unfold frT; rw [List.length_append, List.length_cons]; omega
      unfold certT wrT at this
      simp only [List.length_append, List.length_cons] at this
      omega
    rw [if_neg hne]
    simp only [d1]
    exact drafts_rest r _ [d] [p] (fun q hq => hok q (by simp [hq])) d2 ⟨d3, trivial⟩

end Go.Proofs.YtkjlkbgdkdcboaaGreatDoor

set_option linter.unusedSimpArgs false
set_option linter.unusedVariables false
namespace Go.Proofs.YtkjlkbgdkdcboaaGreatDoor


theorem wrOf_ok {E : List Acre.Ed} {p : Acre.Pc} (hg : Acre.Good E p) (h1 : CutOk p.1.1) (h2 : CutOk p.1.2) (hE : E.length ≤ 24) : WrOk (wrOf E p) := by
  have n1 := h1.n
  have n2 := h2.n
  exact ⟨⟨⟨by show -99999 ≤ p.1.1.1; omega, by show p.1.1.1 ≤ 99999; omega⟩, ⟨by show 0 < p.1.1.2; omega, by show p.1.1.2 ≤ 9999; omega⟩⟩,
    ⟨⟨by show -99999 ≤ p.1.2.1; omega, by show p.1.2.1 ≤ 99999; omega⟩, ⟨by show 0 < p.1.2.2; omega, by show p.1.2.2 ≤ 9999; omega⟩⟩,
    numN_lt hg.lo.1 hE, numN_lt hg.hi.1 hE⟩
theorem within_of {x : Acre.Fc} (h : CutOk x) : within x = true := by
  have h1 := h.lim.red.1
  have h2 := h.d
  have hg := h.lim.red.2
  have l1 : ((-12 : Int) : Rat) ≤ Acre.v x := h.lim.lo
  have l2 : Acre.v x ≤ ((12 : Int) : Rat) := h.lim.hi
  have l3 := (Acre.le_v h1).2 l1
  have l4 := (Acre.v_le h1).2 l2
  unfold within
  simp only [Bool.and_eq_true, decide_eq_true_eq, beq_iff_eq]
  exact ⟨⟨by omega, by omega⟩, ⟨by omega, by omega⟩, hg⟩
theorem ordF_of {f h : Acre.Fc} (h1 : Acre.Lt f h) : Acre.ordF f h < 0 := by
  unfold Acre.Lt at h1
  unfold Acre.ordF Acre.sgn
  by_cases a : f.1 * h.2 - h.1 * f.2 < 0
  · rw [if_pos a]; omega
  · omega
theorem isL_of {E : List Acre.Ed} {e : Acre.Ed} (h : e ∈ E ∧ Acre.upr e = false) : isL E (numN E e : Int) = true := by
  obtain ⟨h1, h2⟩ := numN_mem h.1
  unfold isL
  simp only [Int.toNat_natCast, h2, h.2]
  simp
  omega
theorem piece_text {E : List Acre.Ed} {p : Acre.Pc} {d : Dr} (hd : Has d (wrOf E p)) (hg : Acre.Good E p) (h1 : CutOk p.1.1) (h2 : CutOk p.1.2) : pieceC E d = some p := by
  obtain ⟨e1, e2, e3, e4⟩ := hd
  have e1 : d.f = p.1.1 := e1
  have e2 : d.t = p.1.2 := e2
  have e3 : d.lo = (numN E p.2.1 : Int) := e3
  have e4 : d.hi = (numN E p.2.2 : Int) := e4
  unfold pieceC
  rw [e1, e2, e3, e4, if_pos ⟨within_of h1, within_of h2, ordF_of hg.lt, isL_of hg.lo, isL_of hg.hi⟩]
  simp only [Int.toNat_natCast]
  rw [(numN_mem hg.lo.1).2, (numN_mem hg.hi.1).2]
theorem all_text {E : List Acre.Ed} : ∀ (ps : List Acre.Pc) (ds : List Dr), AllHas ds (ps.map (wrOf E)) → (∀ p ∈ ps, Acre.Good E p) → (∀ p ∈ ps, CutOk p.1.1 ∧ CutOk p.1.2) → allC (pieceC E) ds = some ps
  | [], [], _, _, _ => rfl
  | [], _ :: _, h, _, _ => h.elim
  | _ :: _, [], h, _, _ => h.elim
  | p :: r, d :: ds, h, hg, hc => by
    unfold allC
    rw [piece_text h.1 (hg p (by simp)) (hc p (by simp)).1 (hc p (by simp)).2, all_text r _ h.2 (fun q hq => hg q (by simp [hq])) (fun q hq => hc q (by simp [hq]))]
    rfl
/-- **a certificate of good pieces is read as the pieces that they are** -/
theorem cert_text {s : ByteArray} {E : List Acre.Ed} {ps : List Acre.Pc} (hs : s.data.toList = certT (ps.map (wrOf E))) (hE : E.length ≤ 24) (hl : ps.length ≤ 4000) (hg : ∀ p ∈ ps, Acre.Good E p) (hc : ∀ p ∈ ps, CutOk p.1.1 ∧ CutOk p.1.2) : certC s E = some ps := by
  obtain ⟨ds, h1, h2⟩ := drafts_text hs (fun q hq => by
    obtain ⟨p, hp, rfl⟩ := List.mem_map.1 hq
    exact wrOf_ok (hg p hp) (hc p hp).1 (hc p hp).2 hE)
  have hlen := h2.length
  rw [List.length_map] at hlen
  unfold certC
  rw [h1]
  show (if ds.length ≤ 4000 then _ else _) = _
  rw [if_pos (by omega)]
  exact all_text ps ds h2 hg hc


/-! ## there are never too many -/
theorem bandsG_half {α : Type} : ∀ (l : List (Bool × α)) (i : Bool) (lo : α), 2 * (Slab.bandsG i lo l).length ≤ l.length + if i = true then 1 else 0
  | [], _, _ => by simp [Slab.bandsG]
  | (fl, e) :: t, i, lo => by
    unfold Slab.bandsG
    have a := bandsG_half t true e
    have b := bandsG_half t false lo
    have c := bandsG_half t true lo
    cases fl <;> cases i <;> simp at a b c ⊢ <;> omega
theorem bandsP_half (E : List Acre.Ed) (kk : Nat) (op : Int) (f t : Acre.Fc) (hE : E.length ≤ 24) : (Acre.bandsP E kk op f t).length ≤ 12 := by
  rw [← bands_layers]
  unfold bandsOfL
  have h1 := layersP_len E kk op f t hE
  have h2 : ∀ (l : List (Bool × Acre.Ed)) (lo : Acre.Ed), l.length ≤ 24 → (Slab.bandsG false lo l).length ≤ 12 := fun l lo hl => by
    have := bandsG_half l false lo
    simp at this
    omega
  exact h2 _ _ (by simpa using h1)
theorem cuts_sum (E : List Acre.Ed) : ∀ n, ((List.range n).flatMap (Acre.cutI E)).length * 2 ≤ n * (n + 1)
  | 0 => by simp
  | n + 1 => by
    have h := cuts_sum E n
    rw [List.range_succ, List.flatMap_append, List.length_append]
    have h2 : (Acre.cutI E n).length ≤ n + 1 := by
      unfold Acre.cutI
      have := List.length_filterMap_le (fun j => Acre.crossOf (Acre.gd E n) (Acre.gd E j)) (List.range n)
      rw [List.length_range] at this
      rw [List.length_cons]
      omega
    simp only [List.flatMap_cons, List.flatMap_nil, List.append_nil]
    have e : (n + 1) * (n + 1 + 1) = n * (n + 1) + 2 * (n + 1) := by
      rw [Nat.add_mul, Nat.mul_add n (n + 1)]; omega
    rw [Nat.add_mul]
    omega
theorem cutsP_300 {E : List Acre.Ed} (hE : E.length ≤ 24) : (Acre.cutsP E []).length ≤ 300 := by
  unfold Acre.cutsP
  refine Nat.le_trans (sortD_len _) ?_
  unfold Acre.cutL
  rw [List.nil_append]
  have h := cuts_sum E E.length
  have h2 : E.length * (E.length + 1) ≤ 24 * 25 := Nat.mul_le_mul hE (by omega)
  omega
theorem adj_len' (cs : List Acre.Fc) : (Acre.adj cs).length = cs.length - 1 := by
  induction cs with
  | nil => rfl
  | cons a r ih =>
    cases r with
    | nil => rfl
    | cons b r => simp only [Acre.adj, List.length_cons] at ih ⊢; omega
theorem cut_len {E : List Acre.Ed} (kk : Nat) (op : Int) (hE : E.length ≤ 24) : (Acre.joinAll (Acre.bandsP E kk op) (Acre.cutsP E [])).length ≤ 3588 := by
  have hj : ∀ (l : List (Acre.Fc × Acre.Fc)) (ps : List Acre.Pc), (l.foldl (Acre.joinS (Acre.bandsP E kk op)) ps).length ≤ ps.length + 12 * l.length := by
    intro l
    induction l with
    | nil => intro ps; simp
    | cons s r ih =>
      intro ps
      rw [List.foldl_cons]
      have i1 := ih (Acre.joinS (Acre.bandsP E kk op) ps s)
      have i2 : (Acre.joinS (Acre.bandsP E kk op) ps s).length ≤ ps.length + 12 := by
        unfold Acre.joinS
        have j1 := foldB_len s.1 s.2 (Acre.bandsP E kk op s.1 s.2) ps
        have j2 := bandsP_half E kk op s.1 s.2 hE
        omega
      simp only [List.length_cons]
      omega
  have := hj (Acre.adj (Acre.cutsP E [])) []
  rw [adj_len'] at this
  have h3 := cutsP_300 hE
  simp only [List.length_nil] at this
  unfold Acre.joinAll
  omega

/-! ## what the slow way writes is taken -/
theorem cut_ok {E : List Acre.Ed} (F : Acre.Fld E) (kk : Nat) (op : Int) : (∀ p ∈ Acre.joinAll (Acre.bandsP E kk op) (Acre.cutsP E []), Acre.Good E p) ∧ ∀ p ∈ Acre.joinAll (Acre.bandsP E kk op) (Acre.cutsP E []), CutOk p.1.1 ∧ CutOk p.1.2 := by
  have hcg := Acre.cut_good F kk op
  have hok := cutsP_ok (E := E) (more := []) F (by simp)
  exact ⟨fun p hp => (hcg p hp).1, fun p hp => ⟨hok _ (hcg p hp).2.1, hok _ (hcg p hp).2.2⟩⟩
theorem cut_size {s : ByteArray} {E : List Acre.Ed} (F : Acre.Fld E) (kk : Nat) (op : Int) (hE : E.length ≤ 24) (hs : s.data.toList = certT ((Acre.joinAll (Acre.bandsP E kk op) (Acre.cutsP E [])).map (wrOf E))) : s.size ≤ 107640 := by
  obtain ⟨g, c⟩ := cut_ok F kk op
  have h1 := certT_len ((Acre.joinAll (Acre.bandsP E kk op) (Acre.cutsP E [])).map (wrOf E)) (fun q hq => by
    obtain ⟨p, hp, rfl⟩ := List.mem_map.1 hq
    exact wrOf_ok (g p hp) (c p hp).1 (c p hp).2 hE)
  rw [← hs, List.length_map] at h1
  have h2 := cut_len (E := E) kk op hE
  have hlen : s.data.toList.length = s.size := Array.length_toList
  omega
theorem check_text {s : ByteArray} {E : List Acre.Ed} (F : Acre.Fld E) (kk : Nat) (op : Int) (hE : E.length ≤ 24) (hev : ∀ X o, (List.range E.length).countP (fun n => Acre.inX (Acre.gd E n) X && (decide (kk ≤ n) == o)) % 2 = 0)
    (hs : s.data.toList = certT ((Acre.joinAll (Acre.bandsP E kk op) (Acre.cutsP E [])).map (wrOf E))) : checkP s E kk op = some (Acre.joinAll (Acre.bandsP E kk op) (Acre.cutsP E [])) := by
  obtain ⟨g, c⟩ := cut_ok F kk op
  have h1 := cut_size F kk op hE hs
  have h2 := cut_len (E := E) kk op hE
  unfold checkP
  rw [if_neg (by omega), cert_text hs hE (by omega) g c]
  show (if _ then _ else _) = _
  rw [if_pos (Acre.fill_cut F kk op hev)]

/-! ## as many as there are semicolons, and one -/
def semis (s : ByteArray) (k : Nat) : Nat := (List.range k).countP (fun j => decide (bt s j = 59) || decide (j = 0))
theorem semis_succ (s : ByteArray) (k : Nat) : semis s (k + 1) = semis s k + if bt s k = 59 ∨ k = 0 then 1 else 0 := by
  unfold semis
  rw [List.range_succ, List.countP_append]
  congr 1
  by_cases h : bt s k = 59 ∨ k = 0
  · rw [if_pos h]
    have : (decide (bt s k = 59) || decide (k = 0)) = true := by simpa using h
    simp [this]
  · rw [if_neg h]
    have : (decide (bt s k = 59) || decide (k = 0)) = false := by simpa using h
    simp [this]
theorem semis_list (s : ByteArray) (h0 : bt s 0 ≠ 59) : ∀ k, k ≤ s.size → semis s k = (s.data.toList.take k).countP (fun c => decide (c.toNat = 59)) + if k = 0 then 0 else 1
  | 0, _ => by simp [semis]
  | k + 1, hk => by
    have hlen : s.data.toList.length = s.size := Array.length_toList
    have ih := semis_list s h0 k (by omega)
    rw [semis_succ, ih, List.take_succ_eq_append_getElem (by omega), List.countP_append, if_neg (Nat.succ_ne_zero k)]
    have hb : bt s k = ((s.data.toList[k]'(by omega)).toNat : Int) := by
      rw [bt_in (by omega)]
      congr 2
    rw [List.countP_singleton]
    generalize s.data.toList[k]'(by omega) = c at *
    by_cases hz : k = 0
    · subst hz
      have : ¬ c.toNat = 59 := fun x => h0 (by rw [hb, x]; rfl)
      simp [this]
    · rw [if_neg hz]
      by_cases h59 : c.toNat = 59
      · rw [if_pos (Or.inl (by rw [hb, h59]; rfl))]
        simp [h59]
      · rw [if_neg (by rintro (x | x); · exact h59 (by rw [hb] at x; omega)
                       · exact hz x)]
        simp [h59]

def NoS (l : List UInt8) : Prop := ∀ c ∈ l, c.toNat ≠ 59
theorem dec_nos (u : Nat) : NoS (Lib.decDigits u) := by
  induction u using Nat.strongRecOn with
  | ind u ih =>
    by_cases h : u < 10
    · rw [dec_small h]
      intro c hc
      rw [List.mem_singleton.1 hc, dig_nat h]; omega
    · rw [dec_more h]
      intro c hc
      rcases List.mem_append.1 hc with hc | hc
      · exact ih _ (by omega) c hc
      · rw [List.mem_singleton.1 hc, dig_nat (by omega)]; omega
theorem NoS.app {a b : List UInt8} (ha : NoS a) (hb : NoS b) : NoS (a ++ b) := fun c hc => (List.mem_append.1 hc).elim (ha c) (hb c)
theorem NoS.cons {x : UInt8} {b : List UInt8} (hx : x.toNat ≠ 59) (hb : NoS b) : NoS (x :: b) := fun c hc => by
  rcases List.mem_cons.1 hc with h | h
  · rw [h]; exact hx
  · exact hb c h
theorem itoa_nos (n : Int) : NoS (Lib.itoa n) := by
  unfold Lib.itoa
  split
  · exact .cons (by decide) (dec_nos _)
  · exact dec_nos _
theorem wrT_nos (p : Wr) : NoS (wrT p) := by
  have hf : ∀ f : Acre.Fc, NoS (frT f) := fun f => (itoa_nos _).app (.cons (by decide) (itoa_nos _))
  exact (hf _).app (.cons (by decide) ((hf _).app (.cons (by decide) ((dec_nos _).app (.cons (by decide) (dec_nos _))))))
theorem NoS.count {l : List UInt8} (h : NoS l) : l.countP (fun c => decide (c.toNat = 59)) = 0 := by
  rw [List.countP_eq_zero]
  intro c hc
  simpa using h c hc
theorem rest_count : ∀ l : List Wr, (restT l).countP (fun c => decide (c.toNat = 59)) = l.length
  | [] => by simp [restT]
  | p :: r => by
    have e : restT (p :: r) = 59 :: (wrT p ++ restT r) := by unfold restT; simp
    rw [e, List.countP_cons, List.countP_append, (wrT_nos p).count, rest_count r]
    simp
theorem semis_text {s : ByteArray} {l : List Wr} (hs : s.data.toList = certT l) : semis s s.size = l.length := by
  have hlen : s.data.toList.length = s.size := Array.length_toList
  cases l with
  | nil =>
    have : s.size = 0 := by rw [← hlen, hs]; rfl
    rw [this]; rfl
  | cons p r =>
    have hne : (wrT p).length ≠ 0 := by unfold wrT; simp
    have hsz : s.size ≠ 0 := by
      rw [← hlen, hs]
      unfold certT
      rw [List.length_append]; omega
    have h0 : bt s 0 ≠ 59 := by
      rw [bt_in (by omega)]
      intro x
      obtain ⟨c, q, e⟩ : ∃ c q, wrT p = c :: q := by
        cases h : wrT p with
        | nil => rw [h] at hne; simp at hne
        | cons c q => exact ⟨c, q, rfl⟩
      have hc : s[0]'(by omega) = c := by
        have : s.data.toList[0]? = some c := by rw [hs]; show (wrT p ++ restT r)[0]? = some c; rw [e]; rfl
        rw [List.getElem?_eq_getElem (by omega)] at this
        have := Option.some.inj this
        rw [Array.getElem_toList] at this
        exact this
      rw [hc] at x
      exact wrT_nos p c (by rw [e]; simp) (by omega)
    rw [semis_list s h0 s.size (Nat.le_refl _), if_neg hsz, ← hlen, List.take_length, hs]
    unfold certT
    rw [List.countP_append, (wrT_nos p).count, rest_count r]
    simp

end Go.Proofs.YtkjlkbgdkdcboaaGreatDoor

set_option linter.unusedSimpArgs false
set_option linter.unusedVariables false

set_option linter.unusedSimpArgs false
set_option linter.unusedVariables false

namespace Go.Proofs.YtkjlkbgdkdcboaaGreatDoor
open Go.RowKit
attribute [local go_sem ↓] Go.wp_at_zero Go.wp_at_succ

end Go.Proofs.YtkjlkbgdkdcboaaGreatDoor

namespace Go.Proofs.YtkjlkbgdkdcboaaGreatDoor
open Go.RowKit

theorem edgesTo_len (r : List Acre.Pt) (k : Nat) : (Acre.edgesTo r k).length = k := by unfold Acre.edgesTo; simp
theorem edges_le12 {R : List (List Acre.Pt)} (h : Acre.fieldOk R = true) : (Acre.edgesOf R).length ≤ 12 := by
  unfold Acre.fieldOk at h
  simp only [Bool.and_eq_true, decide_eq_true_eq, List.all_eq_true] at h
  have := flatMap_le (fun r => Acre.edgesTo r r.length) 6 R (fun r hr => by
    rw [edgesTo_len]
    have := h.2 r hr
    unfold Acre.ringOk at this
    simp only [Bool.and_eq_true, decide_eq_true_eq] at this
    omega)
  unfold Acre.edgesOf
  have h1 := Nat.mul_le_mul_left 6 h.1
  omega
theorem fld_sm {E : List Acre.Ed} (F : Acre.Fld E) : ∀ e ∈ E, SmE e := fun e he => by
  have h := F.grid e he
  have a := onG h.1
  have b := onG h.2
  exact ⟨⟨by omega, by omega⟩, ⟨by omega, by omega⟩⟩
theorem pair_ok {a b : ByteArray} {op : Int} (h : (errP a b op).1 = 0) : Acre.Fld (pairE a b) ∧ (∀ e ∈ pairE a b, SmE e) ∧ (pairE a b).length ≤ 24 ∧ (Acre.edgesOf (readP a).1).length ≤ 24 := by
  obtain ⟨h1, h2, _⟩ := pair_fields h
  have F := (Acre.fld_of (read_field h1)).append (Acre.fld_of (read_field h2))
  have l1 := edges_le12 (read_field h1)
  have l2 := edges_le12 (read_field h2)
  refine ⟨F, fld_sm F, ?_, by omega⟩
  unfold pairE
  rw [List.length_append]
  omega
end Go.Proofs.YtkjlkbgdkdcboaaGreatDoor

set_option linter.unusedSimpArgs false
set_option linter.unusedVariables false
namespace Go.Proofs.YtkjlkbgdkdcboaaGreatDoor

/-- the pieces of the slow way -/
def cutAB (a b : ByteArray) (op : Int) : List Acre.Pc := Acre.joinAll (Acre.bandsP (pairE a b) (Acre.edgesOf (readP a).1).length op) (Acre.cutsP (pairE a b) [])
/-- **what the slow way writes is right for the program's checker** -/
theorem slow_check {a b : ByteArray} {op : Int} {s : ByteArray} (h : (errP a b op).1 = 0) (hs : s.data.toList = certT ((cutAB a b op).map (wrOf (pairE a b)))) : checkP s (pairE a b) (Acre.edgesOf (readP a).1).length op = some (cutAB a b op) := by
  obtain ⟨F, hsm, hl, hk⟩ := pair_ok h
  obtain ⟨h1, h2, _⟩ := pair_fields h
  exact check_text F _ op hl (fun X o => Acre.even_two (read_field h1) (read_field h2) X o) hs
theorem slow_comb {a b : ByteArray} {op : Int} {s : ByteArray} (h : (errP a b op).1 = 0) (hs : s.data.toList = certT ((cutAB a b op).map (wrOf (pairE a b)))) : combP a b op s = cutAB a b op := by
  unfold combP
  rw [slow_check h hs]
/-- where neither is taken, both are answered by the slow way -/
theorem comb_none {a b : ByteArray} {op : Int} {s : ByteArray} (h : (checkP s (pairE a b) (Acre.edgesOf (readP a).1).length op).isSome = false) : combP a b op s = cutAB a b op := by
  unfold combP
  cases hc : checkP s (pairE a b) (Acre.edgesOf (readP a).1).length op with
  | none => rfl
  | some ps => rw [hc] at h; simp at h
theorem slow_semis {a b : ByteArray} {op : Int} {s : ByteArray} (hs : s.data.toList = certT ((cutAB a b op).map (wrOf (pairE a b)))) : semis s s.size = (cutAB a b op).length := by
  rw [semis_text hs, List.length_map]

end Go.Proofs.YtkjlkbgdkdcboaaGreatDoor
