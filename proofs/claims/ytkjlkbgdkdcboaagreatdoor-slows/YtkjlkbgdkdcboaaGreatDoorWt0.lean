import Derived.Test.YtkjlkbgdkdcboaaGreatDoorMaB
import Derived.Lib.ItoaNum
set_option linter.unusedSimpArgs false
set_option linter.unusedVariables false
namespace Go.Proofs.YtkjlkbgdkdcboaaGreatDoor

/-- a fraction's text -/
def frT (f : Acre.Fc) : List UInt8 := Lib.itoa f.1 ++ 47 :: Lib.itoa f.2
/-- a draft as it is to be written: from, to, low, high -/
abbrev Wr := (Acre.Fc × Acre.Fc) × (Nat × Nat)
def wrT (p : Wr) : List UInt8 := frT p.1.1 ++ 32 :: (frT p.1.2 ++ 32 :: (Lib.decDigits p.2.1 ++ 32 :: Lib.decDigits p.2.2))
/-- the rest of a certificate -/
def restT (l : List Wr) : List UInt8 := l.flatMap (fun p => 59 :: wrT p)
def certT : List Wr → List UInt8
  | [] => []
  | p :: r => wrT p ++ restT r
/-- the last number, of the first j, that an edge has -/
def lastTo (E : List Acre.Ed) (j : Nat) (e : Acre.Ed) : Option Nat := (List.range j).foldl (fun a i => if Acre.gd E i = e then some i else a) none
theorem lastTo_succ (E : List Acre.Ed) (j : Nat) (e : Acre.Ed) : lastTo E (j + 1) e = if Acre.gd E j = e then some j else lastTo E j e := by
  unfold lastTo
  rw [List.range_succ, List.foldl_append]
  rfl
def numN (E : List Acre.Ed) (e : Acre.Ed) : Nat := (lastTo E E.length e).getD 0
/-- a piece as it is written -/
def wrOf (E : List Acre.Ed) (p : Acre.Pc) : Wr := (p.1, (numN E p.2.1, numN E p.2.2))
theorem dec_small {u : Nat} (h : u < 10) : Lib.decDigits u = [UInt8.ofNat (48 + u)] := Lib.decDigits_one h
theorem dec_more {u : Nat} (h : ¬ u < 10) : Lib.decDigits u = Lib.decDigits (u / 10) ++ [UInt8.ofNat (48 + u % 10)] := by
  rw [Lib.decDigits, dif_neg h]
theorem dec_pos (u : Nat) : 0 < (Lib.decDigits u).length := by
  by_cases h : u < 10
  · rw [dec_small h]; simp
  · rw [dec_more h]; simp
theorem dec_le (m : Nat) : ∀ u : Nat, u < 10 ^ (m + 1) → (Lib.decDigits u).length ≤ m + 1 := by
  induction m with
  | zero => intro u hu; rw [dec_small (by simpa using hu)]; simp
  | succ m ih =>
    intro u hu
    by_cases h : u < 10
    · rw [dec_small h]; simp
    · rw [dec_more h, List.length_append]
      have := ih (u / 10) (by
        rw [Nat.div_lt_iff_lt_mul (by omega)]
        rw [Nat.pow_succ] at hu
        exact hu)
      simp only [List.length_singleton]
      omega
structure WrOk (p : Wr) : Prop where
  f : (-99999 ≤ p.1.1.1 ∧ p.1.1.1 ≤ 99999) ∧ (0 < p.1.1.2 ∧ p.1.1.2 ≤ 9999)
  t : (-99999 ≤ p.1.2.1 ∧ p.1.2.1 ≤ 99999) ∧ (0 < p.1.2.2 ∧ p.1.2.2 ≤ 9999)
  lo : p.2.1 < 100
  hi : p.2.2 < 100
theorem frT_len {f : Acre.Fc} (hn : -99999 ≤ f.1 ∧ f.1 ≤ 99999) (hd : 0 < f.2 ∧ f.2 ≤ 9999) : (frT f).length ≤ 11 := by
  unfold frT
  have h1 := dec_le 4 f.1.natAbs (by omega)
  have h2 := dec_le 4 f.1.toNat (by omega)
  have h3 := dec_le 3 f.2.toNat (by omega)
  have e2 : Lib.itoa f.2 = Lib.decDigits f.2.toNat := by unfold Lib.itoa; rw [if_neg (by omega)]
  rw [e2]
  unfold Lib.itoa
  split
  · simp only [List.length_append, List.length_cons]; omega
  · simp only [List.length_append, List.length_cons]; omega
theorem wrT_len {p : Wr} (h : WrOk p) : (wrT p).length ≤ 29 := by
  have a := frT_len h.f.1 h.f.2
  have b := frT_len h.t.1 h.t.2
  have c := dec_le 1 p.2.1 (by have := h.lo; omega)
  have d := dec_le 1 p.2.2 (by have := h.hi; omega)
  unfold wrT
  simp only [List.length_append, List.length_cons]
  omega
theorem restT_len : ∀ (l : List Wr), (∀ p ∈ l, WrOk p) → (restT l).length ≤ 30 * l.length
  | [], _ => by simp [restT]
  | p :: r, h => by
    have h1 := restT_len r (fun q hq => h q (by simp [hq]))
    have h2 := wrT_len (h p (by simp))
    have e : restT (p :: r) = 59 :: (wrT p ++ restT r) := by unfold restT; simp
    rw [e]
    simp only [List.length_append, List.length_cons]
    omega
theorem certT_len (l : List Wr) (h : ∀ p ∈ l, WrOk p) : (certT l).length ≤ 30 * l.length := by
  cases l with
  | nil => simp [certT]
  | cons p r =>
    have h1 := restT_len r (fun q hq => h q (by simp [hq]))
    have h2 := wrT_len (h p (by simp))
    unfold certT
    simp only [List.length_append, List.length_cons]
    omega
theorem lastTo_mem (E : List Acre.Ed) (e : Acre.Ed) : ∀ j, (∃ i, i < j ∧ Acre.gd E i = e) → ∃ i, lastTo E j e = some i ∧ i < j ∧ Acre.gd E i = e
  | 0, h => by obtain ⟨i, h, _⟩ := h; omega
  | j + 1, h => by
    rw [lastTo_succ]
    by_cases hj : Acre.gd E j = e
    · rw [if_pos hj]
      exact ⟨j, rfl, by omega, hj⟩
    · rw [if_neg hj]
      obtain ⟨i, hi, he⟩ := h
      have : i ≠ j := fun x => hj (x ▸ he)
      obtain ⟨q, q1, q2, q3⟩ := lastTo_mem E e j ⟨i, by omega, he⟩
      exact ⟨q, q1, by omega, q3⟩
theorem numN_mem {E : List Acre.Ed} {e : Acre.Ed} (h : e ∈ E) : numN E e < E.length ∧ Acre.gd E (numN E e) = e := by
  obtain ⟨i, hi, rfl⟩ := List.getElem_of_mem h
  obtain ⟨q, q1, q2, q3⟩ := lastTo_mem E E[i] E.length ⟨i, hi, by unfold Acre.gd; simp [hi]⟩
  unfold numN
  rw [q1]
  exact ⟨q2, q3⟩
theorem numN_lt {E : List Acre.Ed} {e : Acre.Ed} (h : e ∈ E) (hE : E.length ≤ 24) : numN E e < 100 := by
  have := (numN_mem h).1
  omega

end Go.Proofs.YtkjlkbgdkdcboaaGreatDoor

