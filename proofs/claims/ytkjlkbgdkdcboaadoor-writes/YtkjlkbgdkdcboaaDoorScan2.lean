import Derived.Test.YtkjlkbgdkdcboaaDoorScan
namespace Go.Proofs.YtkjlkbgdkdcboaaDoor
open Go.RowKit

/-- behind a number: the other half is as it was, this one has its place and value -/
def After (r r' : RS) (i : Nat) (v : Int) : Prop :=
  r'.half = r.half ∧ (match r.half with | false => r'.endN.sp.1 = ((i : Int), v) | true => r'.endN.sp = ((r.a0, r.v0), ((i : Int), v)))

theorem more_step (r : RS) (i : Int) (m : Bool) (d : Int) : ((r.begin i m).more d).step = 2 ∧ (((r.begin i m).more d).half = r.half) := by
  obtain ⟨st, mi, ha, a0, v0, a1, v1⟩ := r
  cases ha <;> simp [RS.begin, RS.more]

theorem after1 (r : RS) (i : Nat) (m : Bool) (d : Int) : After r ((r.begin i m).more d) i (if m then -(10 * 0 + d) else 10 * 0 + d) := by
  obtain ⟨st, mi, ha, a0, v0, a1, v1⟩ := r
  cases ha <;> cases m <;> simp [After, RS.begin, RS.more, RS.endN, RS.sp]

theorem after2 (r : RS) (i : Nat) (m : Bool) (d e : Int) : After r (((r.begin i m).more d).more e) i (if m then -(10 * (10 * 0 + d) + e) else 10 * (10 * 0 + d) + e) := by
  obtain ⟨st, mi, ha, a0, v0, a1, v1⟩ := r
  cases ha <;> cases m <;> simp [After, RS.begin, RS.more, RS.endN, RS.sp] <;> omega

theorem takeP_dig {st : PS} {a c : Int} (hc : 48 ≤ c ∧ c ≤ 57) (hs : st.r.step ≠ 3) : takeP st a c = some ⟨st.r.digit a (c - 48), st.acc, st.accs⟩ := by
  unfold takeP; rw [if_neg (by omega), if_pos ⟨hc, hs⟩]

theorem mayE_step {r : RS} {h : Bool} (h2 : r.step ≠ 2) (h3 : r.step ≠ 3) : mayE r h = false := by
  unfold mayE
  have e1 : (r.step == 2) = false := by simpa using h2
  have e2 : (r.step == 3) = false := by simpa using h3
  rw [e1, e2]; simp

theorem begin_step (r : RS) (a : Int) (m : Bool) : (r.begin a m).step = 1 := by
  obtain ⟨st, mi, ha, a0, v0, a1, v1⟩ := r
  cases ha <;> rfl

theorem mayE_half {r : RS} {h : Bool} (hh : r.half ≠ h) : mayE r h = false := by
  unfold mayE
  cases hr : r.half <;> cases h <;> simp_all [hI]

theorem endN_step (r : RS) : r.endN.step = 0 := by
  obtain ⟨st, mi, ha, a0, v0, a1, v1⟩ := r
  cases ha <;> rfl

def minI (a b : Int) : Int := if b < a then b else a

end Go.Proofs.YtkjlkbgdkdcboaaDoor
