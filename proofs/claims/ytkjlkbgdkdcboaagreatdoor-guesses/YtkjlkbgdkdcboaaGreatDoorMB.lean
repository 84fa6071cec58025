import Derived.Test.YtkjlkbgdkdcboaaGreatDoorMaA
import Derived.Lib.ItoaNum

set_option linter.unusedSimpArgs false
set_option linter.unusedVariables false

set_option linter.unusedSimpArgs false
set_option linter.unusedVariables false
namespace Go.Proofs.YtkjlkbgdkdcboaaGreatDoor.Acre
def crossOf (e f : Ed) : Option Fc :=
  if turn e.1 e.2 f.1 f.2 = 0 then none
  else if btw (crossX e.1.1 e.1.2 e.2.1 f.1.1 f.1.2 f.2.1 f.2.2 (turn e.1 e.2 f.1 f.2)).1 (crossX e.1.1 e.1.2 e.2.1 f.1.1 f.1.2 f.2.1 f.2.2 (turn e.1 e.2 f.1 f.2)).2 (-12) 12 then
    some (crossX e.1.1 e.1.2 e.2.1 f.1.1 f.1.2 f.2.1 f.2.2 (turn e.1 e.2 f.1 f.2))
  else none
def cutI (E : List Ed) (i : Nat) : List Fc := ((gd E i).1.1, 1) :: (List.range i).filterMap (fun j => crossOf (gd E i) (gd E j))
def cutL (E : List Ed) (more : List Fc) : List Fc := more ++ (List.range E.length).flatMap (cutI E)
def cutsP (E : List Ed) (more : List Fc) : List Fc := sortD (cutL E more)
structure Fld (E : List Ed) : Prop where
  grid : ∀ e ∈ E, onGrid e.1 = true ∧ onGrid e.2 = true
  next : ∀ e ∈ E, ∃ e' ∈ E, e'.1 = e.2
structure Lim (x : Fc) : Prop where
  red : Red x
  lo : (-12 : Rat) ≤ v x
  hi : v x ≤ 12
theorem lim_int {n : Int} (h : -12 ≤ n ∧ n ≤ 12) : Lim (n, 1) := by
  refine ⟨one_red n, ?_, ?_⟩
  · rw [v_one]
    have : ((-12 : Int) : Rat) ≤ (n : Rat) := Rat.intCast_le_intCast.2 h.1
    exact this
  · rw [v_one]
    have : (n : Rat) ≤ ((12 : Int) : Rat) := Rat.intCast_le_intCast.2 h.2
    exact this
theorem grid_x {p : Pt} (h : onGrid p = true) : -12 ≤ p.1 ∧ p.1 ≤ 12 := by
  unfold onGrid at h; simp at h; omega
theorem crossOf_lim {e f : Ed} {x : Fc} (h : crossOf e f = some x) : Lim x := by
  unfold crossOf at h
  split at h
  · simp at h
  · rename_i ht
    split at h
    · rename_i hb
      simp only [Option.some.injEq] at h
      have hr : Red x := by rw [← h]; exact low_red _ _ ht
      rw [h, btw_v hr.1] at hb
      have c1 : ((-12 : Int) : Rat) = -12 := rfl
      have c2 : ((12 : Int) : Rat) = 12 := rfl
      rw [c1, c2] at hb
      exact ⟨hr, by grind, by grind⟩
    · simp at h
theorem cutL_lim {E : List Ed} {more : List Fc} (F : Fld E) (hm : ∀ x ∈ more, Lim x) : ∀ x ∈ cutL E more, Lim x := by
  intro x hx
  unfold cutL at hx
  rcases List.mem_append.1 hx with h | h
  · exact hm x h
  · obtain ⟨i, hi, hx⟩ := List.mem_flatMap.1 h
    unfold cutI at hx
    rcases List.mem_cons.1 hx with rfl | hx
    · exact lim_int (grid_x (F.grid _ (gd_mem (List.mem_range.1 hi))).1)
    · obtain ⟨j, _, hj⟩ := List.mem_filterMap.1 hx
      exact crossOf_lim hj
theorem cutsP_lim {E : List Ed} {more : List Fc} (F : Fld E) (hm : ∀ x ∈ more, Lim x) : ∀ x ∈ cutsP E more, Lim x := fun x hx => cutL_lim F hm x ((mem_sortD x _).1 hx)
theorem cutsP_sorted {E : List Ed} {more : List Fc} (F : Fld E) (hm : ∀ x ∈ more, Lim x) : (cutsP E more).Pairwise Lt := sortD_sorted _ (fun z hz => (cutL_lim F hm z hz).red)
theorem mem_gd {E : List Ed} {e : Ed} (h : e ∈ E) : ∃ i, i < E.length ∧ gd E i = e := by
  obtain ⟨i, hi, rfl⟩ := List.mem_iff_getElem.1 h
  exact ⟨i, hi, by unfold gd; simp [hi]⟩
end Go.Proofs.YtkjlkbgdkdcboaaGreatDoor.Acre
namespace Go.Proofs.YtkjlkbgdkdcboaaGreatDoor.Acre
abbrev Pc := (Fc × Fc) × (Ed × Ed)
def lastI (b : Ed × Ed) : List Pc → Option Nat
  | [] => none
  | p :: r => match lastI b r with
    | some i => some (i + 1)
    | none => if p.2 = b then some 0 else none
def zpc : Pc := (((0, 0), (0, 0)), (zed, zed))
def pcAt (ps : List Pc) (i : Nat) : Pc := ps.getD i zpc
def joinB (f t : Fc) (ps : List Pc) (b : Ed × Ed) : List Pc :=
  match lastI b ps with
  | some i => if (pcAt ps i).1.2 = f then ps.set i (((pcAt ps i).1.1, t), b) else ps ++ [((f, t), b)]
  | none => ps ++ [((f, t), b)]
theorem lastI_snoc_same (b : Ed × Ed) (ps : List Pc) (p : Pc) (h : p.2 = b) : lastI b (ps ++ [p]) = some ps.length := by
  induction ps with
  | nil => simp [lastI, h]
  | cons a r ih => simp [lastI, ih]
theorem lastI_snoc_other (b : Ed × Ed) (ps : List Pc) (p : Pc) (h : p.2 ≠ b) : lastI b (ps ++ [p]) = lastI b ps := by
  induction ps with
  | nil => simp [lastI, h]
  | cons a r ih => simp [lastI, ih]
theorem lastI_spec {b : Ed × Ed} : ∀ {ps : List Pc} {i : Nat}, lastI b ps = some i → i < ps.length ∧ (pcAt ps i).2 = b
  | [], i, h => by simp [lastI] at h
  | p :: r, i, h => by
    unfold lastI at h
    cases hr : lastI b r with
    | some j =>
      rw [hr] at h
      simp only [Option.some.injEq] at h
      subst h
      obtain ⟨h1, h2⟩ := lastI_spec hr
      exact ⟨by simpa using h1, by simpa [pcAt] using h2⟩
    | none =>
      rw [hr] at h
      simp only at h
      split at h
      · rename_i hp
        simp only [Option.some.injEq] at h
        subst h
        exact ⟨by simp, by simpa [pcAt] using hp⟩
      · simp at h
theorem lastI_set {b : Ed × Ed} : ∀ {ps : List Pc} {i : Nat} {p : Pc}, p.2 = (pcAt ps i).2 → lastI b (ps.set i p) = lastI b ps
  | [], i, p, _ => by simp
  | a :: r, 0, p, h => by
    have h' : p.2 = a.2 := by simpa [pcAt] using h
    simp [lastI, h']
  | a :: r, i + 1, p, h => by
    have := lastI_set (b := b) (ps := r) (i := i) (p := p) (by simpa [pcAt] using h)
    simp [lastI, this]
theorem joinB_mem {f t : Fc} {ps : List Pc} {b : Ed × Ed} {p : Pc} (h : p ∈ joinB f t ps b) : p ∈ ps ∨ (p.2 = b ∧ p.1.2 = t ∧ (p.1.1 = f ∨ ∃ p' ∈ ps, p'.2 = b ∧ p'.1.2 = f ∧ p.1.1 = p'.1.1)) := by
  unfold joinB at h
  split at h
  · rename_i i hi
    obtain ⟨h1, h2⟩ := lastI_spec hi
    split at h
    · rename_i hf
      rcases List.mem_or_eq_of_mem_set h with h | rfl
      · exact .inl h
      · exact .inr ⟨rfl, rfl, .inr ⟨pcAt ps i, by unfold pcAt; simp [h1], h2, hf, rfl⟩⟩
    · rcases List.mem_append.1 h with h | h
      · exact .inl h
      · simp at h; subst h; exact .inr ⟨rfl, rfl, .inl rfl⟩
  · rcases List.mem_append.1 h with h | h
    · exact .inl h
    · simp at h; subst h; exact .inr ⟨rfl, rfl, .inl rfl⟩
def adj : List Fc → List (Fc × Fc)
  | a :: b :: r => (a, b) :: adj (b :: r)
  | _ => []
end Go.Proofs.YtkjlkbgdkdcboaaGreatDoor.Acre
namespace Go.Proofs.YtkjlkbgdkdcboaaGreatDoor.Acre
def act (p : Pc) (f : Fc) : Int := (if Lt f p.1.1 then 0 else 1) - (if Lt f p.1.2 then 0 else 1)
def rk (E : List Ed) (x : Fc) (e : Ed) : Nat := (hts E x).idxOf (hgt e x)
def aboveP (E : List Ed) (ps : List Pc) (f t : Fc) (i : Nat) : Int := (ps.map (fun p => if decide (rk E (mdn f t) p.2.1 ≤ i) && decide (i < rk E (mdn f t) p.2.2) then act p f else 0)).sum
def acrossP (E : List Ed) (ps : List Pc) (f t : Fc) (i : Nat) : Int := (ps.map (fun p => if decide (rk E (mdn f t) p.2.1 < i) && decide (i < rk E (mdn f t) p.2.2) then act p f else 0)).sum
def dueP (E : List Ed) (k : Nat) (op : Int) (f t : Fc) (i : Nat) : Int := if insAt E k op f t ((hts E (mdn f t)).take (i + 1)) then 1 else 0
def slabOk (E : List Ed) (k : Nat) (op : Int) (ps : List Pc) (f t : Fc) : Bool :=
  (List.range (hts E (mdn f t)).length).all (fun i => aboveP E ps f t i == dueP E k op f t i && (!(spAt E f t ((hts E (mdn f t)).getD i (0, 0))).isEmpty || acrossP E ps f t i == dueP E k op f t i))
def endsP (ps : List Pc) : List Fc := ps.flatMap (fun p => [p.1.1, p.1.2])
def filledP (E : List Ed) (k : Nat) (op : Int) (ps : List Pc) : Bool := (adj (cutsP E (endsP ps))).all (fun s => slabOk E k op ps s.1 s.2)
structure Good (E : List Ed) (p : Pc) : Prop where
  from' : Lim p.1.1
  to' : Lim p.1.2
  lt : Lt p.1.1 p.1.2
  lo : p.2.1 ∈ E ∧ upr p.2.1 = false
  hi : p.2.2 ∈ E ∧ upr p.2.2 = false
end Go.Proofs.YtkjlkbgdkdcboaaGreatDoor.Acre
namespace Go.Proofs.YtkjlkbgdkdcboaaGreatDoor.Acre
end Go.Proofs.YtkjlkbgdkdcboaaGreatDoor.Acre
namespace Go.Proofs.YtkjlkbgdkdcboaaGreatDoor.Acre
end Go.Proofs.YtkjlkbgdkdcboaaGreatDoor.Acre
namespace Go.Proofs.YtkjlkbgdkdcboaaGreatDoor.Acre
theorem edges_next {r : List Pt} (h3 : 0 < r.length) : ∀ e ∈ edgesTo r r.length, ∃ e' ∈ edgesTo r r.length, e'.1 = e.2 := by
  intro e he
  unfold edgesTo at he ⊢
  obtain ⟨i, _, rfl⟩ := List.mem_map.1 he
  exact ⟨_, List.mem_map.2 ⟨(i + 1) % r.length, List.mem_range.2 (Nat.mod_lt _ h3), rfl⟩, rfl⟩
theorem getD_onGrid {r : List Pt} (h : r.all onGrid = true) (i : Nat) : onGrid (r.getD i (0, 0)) = true := by
  by_cases hi : i < r.length
  · have : r.getD i (0, 0) = r[i] := by simp [List.getD, hi]
    rw [this]
    exact List.all_eq_true.1 h r[i] (List.getElem_mem hi)
  · have : r.getD i (0, 0) = (0, 0) := by simp [List.getD, hi]
    rw [this]; rfl
theorem fld_of {R : List (List Pt)} (h : fieldOk R = true) : Fld (edgesOf R) := by
  have hr := ring_of h
  constructor
  · intro e he
    unfold edgesOf at he
    obtain ⟨r, hm, he⟩ := List.mem_flatMap.1 he
    have := hr r hm
    unfold ringOk at this
    simp only [Bool.and_eq_true] at this
    unfold edgesTo at he
    obtain ⟨i, _, rfl⟩ := List.mem_map.1 he
    exact ⟨getD_onGrid this.2 _, getD_onGrid this.2 _⟩
  · intro e he
    unfold edgesOf at he ⊢
    obtain ⟨r, hm, he⟩ := List.mem_flatMap.1 he
    have := hr r hm
    unfold ringOk at this
    simp only [Bool.and_eq_true, decide_eq_true_eq] at this
    obtain ⟨e', he', h'⟩ := edges_next (by omega) e he
    exact ⟨e', List.mem_flatMap.2 ⟨r, hm, he'⟩, h'⟩
theorem Fld.append {E E' : List Ed} (h : Fld E) (h' : Fld E') : Fld (E ++ E') := by
  constructor
  · intro e he
    rcases List.mem_append.1 he with he | he
    · exact h.grid e he
    · exact h'.grid e he
  · intro e he
    rcases List.mem_append.1 he with he | he
    · obtain ⟨e', k1, k2⟩ := h.next e he
      exact ⟨e', List.mem_append.2 (.inl k1), k2⟩
    · obtain ⟨e', k1, k2⟩ := h'.next e he
      exact ⟨e', List.mem_append.2 (.inr k1), k2⟩
end Go.Proofs.YtkjlkbgdkdcboaaGreatDoor.Acre

set_option linter.unusedSimpArgs false
set_option linter.unusedVariables false
namespace Go.Proofs.YtkjlkbgdkdcboaaGreatDoor
def frT (f : Acre.Fc) : List UInt8 := Lib.itoa f.1 ++ 47 :: Lib.itoa f.2
abbrev Wr := (Acre.Fc × Acre.Fc) × (Nat × Nat)
def wrT (p : Wr) : List UInt8 := frT p.1.1 ++ 32 :: (frT p.1.2 ++ 32 :: (Lib.decDigits p.2.1 ++ 32 :: Lib.decDigits p.2.2))
def restT (l : List Wr) : List UInt8 := l.flatMap (fun p => 59 :: wrT p)
def certT : List Wr → List UInt8
  | [] => []
  | p :: r => wrT p ++ restT r
def lastTo (E : List Acre.Ed) (j : Nat) (e : Acre.Ed) : Option Nat := (List.range j).foldl (fun a i => if Acre.gd E i = e then some i else a) none
theorem lastTo_succ (E : List Acre.Ed) (j : Nat) (e : Acre.Ed) : lastTo E (j + 1) e = if Acre.gd E j = e then some j else lastTo E j e := by
  unfold lastTo
  rw [List.range_succ, List.foldl_append]
  rfl
def numN (E : List Acre.Ed) (e : Acre.Ed) : Nat := (lastTo E E.length e).getD 0
def wrOf (E : List Acre.Ed) (p : Acre.Pc) : Wr := (p.1, (numN E p.2.1, numN E p.2.2))
theorem dec_small {u : Nat} (h : u < 10) : Lib.decDigits u = [UInt8.ofNat (48 + u)] := Lib.decDigits_one h
theorem dec_more {u : Nat} (h : ¬ u < 10) : Lib.decDigits u = Lib.decDigits (u / 10) ++ [UInt8.ofNat (48 + u % 10)] := by
  rw [Lib.decDigits, dif_neg h]
theorem dec_le (m : Nat) : ∀ u : Nat, u < 10 ^ (m + 1) → (Lib.decDigits u).length ≤ m + 1 := by
  induction m with
  | zero => intro u hu; rw [dec_small (by simpa using hu)]; simp
  | succ m ih =>
    intro u hu
    by_cases h : u < 10
    · rw [dec_small h]; simp
    · rw [dec_more h, List.length_append]
      have := ih (u / 10) (by
        rw [Nat.div_lt_iff_lt_mul (by omega)]
        rw [Nat.pow_succ] at hu
        exact hu)
      simp only [List.length_singleton]
      omega
structure WrOk (p : Wr) : Prop where
  f : (-99999 ≤ p.1.1.1 ∧ p.1.1.1 ≤ 99999) ∧ (0 < p.1.1.2 ∧ p.1.1.2 ≤ 9999)
  t : (-99999 ≤ p.1.2.1 ∧ p.1.2.1 ≤ 99999) ∧ (0 < p.1.2.2 ∧ p.1.2.2 ≤ 9999)
  lo : p.2.1 < 100
  hi : p.2.2 < 100
theorem frT_len {f : Acre.Fc} (hn : -99999 ≤ f.1 ∧ f.1 ≤ 99999) (hd : 0 < f.2 ∧ f.2 ≤ 9999) : (frT f).length ≤ 11 := by
  unfold frT
  have h1 := dec_le 4 f.1.natAbs (by omega)
  have h2 := dec_le 4 f.1.toNat (by omega)
  have h3 := dec_le 3 f.2.toNat (by omega)
  have e2 : Lib.itoa f.2 = Lib.decDigits f.2.toNat := by unfold Lib.itoa; rw [if_neg (by omega)]
  rw [e2]
  unfold Lib.itoa
  split
  · simp only [List.length_append, List.length_cons]; omega
  · simp only [List.length_append, List.length_cons]; omega
theorem wrT_len {p : Wr} (h : WrOk p) : (wrT p).length ≤ 29 := by
  have a := frT_len h.f.1 h.f.2
  have b := frT_len h.t.1 h.t.2
  have c := dec_le 1 p.2.1 (by have := h.lo; omega)
  have d := dec_le 1 p.2.2 (by have := h.hi; omega)
  unfold wrT
  simp only [List.length_append, List.length_cons]
  omega
theorem restT_len : ∀ (l : List Wr), (∀ p ∈ l, WrOk p) → (restT l).length ≤ 30 * l.length
  | [], _ => by simp [restT]
  | p :: r, h => by
    have h1 := restT_len r (fun q hq => h q (by simp [hq]))
    have h2 := wrT_len (h p (by simp))
    have e : restT (p :: r) = 59 :: (wrT p ++ restT r) := by unfold restT; simp
    rw [e]
    simp only [List.length_append, List.length_cons]
    omega
theorem certT_len (l : List Wr) (h : ∀ p ∈ l, WrOk p) : (certT l).length ≤ 30 * l.length := by
  cases l with
  | nil => simp [certT]
  | cons p r =>
    have h1 := restT_len r (fun q hq => h q (by simp [hq]))
    have h2 := wrT_len (h p (by simp))
    unfold certT
    simp only [List.length_append, List.length_cons]
    omega
theorem lastTo_mem (E : List Acre.Ed) (e : Acre.Ed) : ∀ j, (∃ i, i < j ∧ Acre.gd E i = e) → ∃ i, lastTo E j e = some i ∧ i < j ∧ Acre.gd E i = e
  | 0, h => by obtain ⟨i, h, _⟩ := h; omega
  | j + 1, h => by
    rw [lastTo_succ]
    by_cases hj : Acre.gd E j = e
    · rw [if_pos hj]
      exact ⟨j, rfl, by omega, hj⟩
    · rw [if_neg hj]
      obtain ⟨i, hi, he⟩ := h
      have : i ≠ j := fun x => hj (x ▸ he)
      obtain ⟨q, q1, q2, q3⟩ := lastTo_mem E e j ⟨i, by omega, he⟩
      exact ⟨q, q1, by omega, q3⟩
theorem numN_mem {E : List Acre.Ed} {e : Acre.Ed} (h : e ∈ E) : numN E e < E.length ∧ Acre.gd E (numN E e) = e := by
  obtain ⟨i, hi, rfl⟩ := List.getElem_of_mem h
  obtain ⟨q, q1, q2, q3⟩ := lastTo_mem E E[i] E.length ⟨i, hi, by unfold Acre.gd; simp [hi]⟩
  unfold numN
  rw [q1]
  exact ⟨q2, q3⟩
theorem numN_lt {E : List Acre.Ed} {e : Acre.Ed} (h : e ∈ E) (hE : E.length ≤ 24) : numN E e < 100 := by
  have := (numN_mem h).1
  omega
end Go.Proofs.YtkjlkbgdkdcboaaGreatDoor
