import Derived.Test.YtkjlkbgdkdcboaaRd3
import Derived.Lib.OthersKept
import Derived.Laws.Strings
namespace Go.Proofs.Ytkjlkbgdkdcboaa
open Go.RowKit
attribute [local go_sem ↓] Go.wp_at_zero Go.wp_at_succ

/-- the bytes of the long minus -/
def lm : Nat → Int | 0 => 226 | 1 => 136 | _ => 146
def bgF (t : ByteArray) : Nat → Nat → Nat
  | 0, k => k
  | f + 1, k => if bt t k = lm k then bgF t f (k + 1) else k
def bgP (st : Int) (t : ByteArray) : Int := if st = 0 then (bgF t 3 0 : Nat) else 0

theorem bgF_no {t : ByteArray} {f k : Nat} (h : bt t k ≠ lm k) : bgF t f k = k := by
  cases f with
  | zero => rfl
  | succ f => rw [bgF, if_neg h]

set_option maxHeartbeats 2000000 in
theorem begun_any (b : Nat) (r : RS) (x y : Value) (t : ByteArray) (w : World) (hr : RdAt w b r x y) :
    Calls Try.prog 43 #[.pointer (some ⟨b, 0, none⟩), .string t] w fun e w' => e = .returned (.int .i64 (bgP r.step t)) ∧ Below w.heap.size w w' := by
  obtain ⟨c0, c1, c2, c3, c4, c5, c6, c7, c8, f0, f1, f2, f3, f4, f5, f6, f7, f8⟩ := id hr
  obtain ⟨st, hst⟩ : ∃ st, r.step = st := ⟨_, rfl⟩
  rw [hst] at c0 ⊢
  clear hr hst
  by_cases h0 : st = 0
  · subst h0
    have hP : bgP 0 t = (bgF t 3 0 : Nat) := if_pos rfl
    rw [hP]
    obtain ⟨M, hM⟩ : ∃ M, bgF t 3 0 = M := ⟨_, rfl⟩
    rw [hM]
    have HM := hide hM
    clear hM hP
    go_enter Try.func43, Try.ntmps43
    go_wp2
    go_loopw [5] (fun n wr => ∃ k : Nat, n = .int .i64 k ∧ k ≤ 3 ∧ Hid (bgF t (3 - k) k = M ∧ Below w.heap.size w wr)) (fun n _ => 3 - (intOf n).toNat)
    case atStart => exact ⟨0, rfl, by omega, HM.out, Below.refl _ _⟩
    case round =>
      obtain ⟨k, rfl, hk, hr⟩ := hrel
      obtain ⟨hF, hw⟩ := hr.out
      clear hr
      by_cases h3 : k = 3
      · subst h3
        have e : M = 3 := hF.symm
        subst e
        go_wp2
        go_quiet (fail)
        go_wp2
        go_ret
        exact ⟨rfl, below_drewN hw _⟩
      · by_cases hlt : k < t.size
        · have ht := bt_in hlt
          have hlt3 : (k : Int) < (t.size : Int) := by omega
          have g1 : decide ((k : Int) < 3) = true := decide_eq_true (by omega)
          have g2 : decide ((k : Int) < (t.size : Int)) = true := decide_eq_true (by omega)
          by_cases hb : bt t k = lm k
          · have hn : bgF t (3 - (k + 1)) (k + 1) = M := by
              have e : 3 - k = (3 - (k + 1)) + 1 := by omega
              rw [e, bgF, if_pos hb] at hF
              exact hF
            have Hn := hide hn
            rw [ht] at hb
            clear hF hn ht
            rcases (show k = 0 ∨ k = 1 ∨ k = 2 by omega) with rfl | rfl | rfl
            · simp only [lm] at hb
              go_wp2
              go_quiet (fail)
              go_wp2
              exact ⟨⟨1, rfl, by omega, Hn.out, below_drewN hw _⟩, by simp [intOf]⟩
            · simp only [lm] at hb
              have z1 : (1 : Int) < (t.size : Int) := by omega
              have z2 : decide ((1 : Int) < (t.size : Int)) = true := decide_eq_true z1
              have z3 : decide (1 < t.size) = true := decide_eq_true (by omega)
              go_wp2
              go_quiet (fail)
              go_wp2
              exact ⟨⟨2, rfl, by omega, Hn.out, below_drewN hw _⟩, by simp [intOf]⟩
            · simp only [lm] at hb
              have z1 : (2 : Int) < (t.size : Int) := by omega
              have z2 : decide ((2 : Int) < (t.size : Int)) = true := decide_eq_true z1
              have z3 : decide (2 < t.size) = true := decide_eq_true (by omega)
              go_wp2
              go_quiet (fail)
              go_wp2
              exact ⟨⟨3, rfl, by omega, Hn.out, below_drewN hw _⟩, by simp [intOf]⟩
          · have hMk : M = k := by rw [← hF]; exact bgF_no hb
            subst hMk
            have hbf : ((t[M].toNat : Int) == lm M) = false := by rw [← ht]; simpa using hb
            clear hF ht hb
            rcases (show M = 0 ∨ M = 1 ∨ M = 2 by omega) with rfl | rfl | rfl
            · simp only [lm] at hbf
              have hbg : ((t[0].toNat : Int) == ((({ data := #[226, 136, 146] } : ByteArray)[0]'(by decide)).toNat : Int)) = false := hbf
              clear hbf
              go_wp2
              go_quiet (fail)
              go_wp2
              go_ret
              exact ⟨rfl, below_drewN hw _⟩
            · simp only [lm] at hbf
              have hbg : ((t[1].toNat : Int) == ((({ data := #[226, 136, 146] } : ByteArray)[1]'(by decide)).toNat : Int)) = false := hbf
              clear hbf
              have z1 : (1 : Int) < (t.size : Int) := by omega
              have z2 : decide ((1 : Int) < (t.size : Int)) = true := decide_eq_true z1
              have z3 : decide (1 < t.size) = true := decide_eq_true (by omega)
              go_wp2
              go_quiet (fail)
              go_wp2
              go_ret
              exact ⟨rfl, below_drewN hw _⟩
            · simp only [lm] at hbf
              have hbg : ((t[2].toNat : Int) == ((({ data := #[226, 136, 146] } : ByteArray)[2]'(by decide)).toNat : Int)) = false := hbf
              clear hbf
              have z1 : (2 : Int) < (t.size : Int) := by omega
              have z2 : decide ((2 : Int) < (t.size : Int)) = true := decide_eq_true z1
              have z3 : decide (2 < t.size) = true := decide_eq_true (by omega)
              go_wp2
              go_quiet (fail)
              go_wp2
              go_ret
              exact ⟨rfl, below_drewN hw _⟩
        · have hMk : M = k := by
            rw [← hF]
            refine bgF_no ?_
            rw [bt_out hlt]
            rcases (show k = 0 ∨ k = 1 ∨ k = 2 by omega) with rfl | rfl | rfl <;> decide
          subst hMk
          have g1 : decide ((M : Int) < 3) = true := decide_eq_true (by omega)
          have g2 : decide ((M : Int) < (t.size : Int)) = false := decide_eq_false (by omega)
          have g3 : decide (M < t.size) = false := decide_eq_false (by omega)
          clear hF
          go_wp2
          go_quiet (fail)
          go_wp2
          go_ret
          exact ⟨rfl, below_drewN hw _⟩
  · have hP : bgP st t = 0 := if_neg h0
    rw [hP]
    have h0b : (st == 0) = false := by simpa using h0
    go_enter Try.func43, Try.ntmps43
    go_wp2
    go_ret
    exact ⟨rfl, Below.refl _ _⟩

def init : PS := ⟨⟨0, false, false, 0, 0, 0, 0⟩, [], []⟩
def scanF (s : ByteArray) : Nat → Nat → PS → Option PS × Int
  | 0, _, st => (some st, 0)
  | f + 1, pos, st =>
    if pos < s.size then
      match takeP st pos (Utf8.decode s pos).1 with
      | none => (none, (pos : Int) + bgP st.r.step (s.extract pos s.size))
      | some st' => scanF s f (pos + (Utf8.decode s pos).2) st'
    else (some st, 0)

/-- the numbers while they are read -/
def cur (r : RS) : Int := match r.half with | false => r.v0 | true => r.v1
structure Inv (r : RS) : Prop where
  s0 : 0 ≤ r.step ∧ r.step ≤ 3
  b0 : -99 ≤ r.v0 ∧ r.v0 ≤ 99
  b1 : -99 ≤ r.v1 ∧ r.v1 ≤ 99
  d1 : r.step = 1 → cur r = 0
  d2 : r.step = 2 → 0 ≤ cur r ∧ cur r ≤ 9
theorem Inv.few {r : RS} (h : Inv r) : Few r := by
  obtain ⟨h1, h2, h3, _, _⟩ := h
  exact ⟨by omega, by omega, h1.1, h1.2⟩
theorem Inv.take {s s' : PS} {a c : Int} (h : Inv s.r) (ht : takeP s a c = some s') : Inv s'.r := by
  obtain ⟨⟨st, mi, ha, a0, v0, a1, v1⟩, acc, accs⟩ := s
  obtain ⟨h1, h2, h3, h4, h5⟩ := h
  dsimp only at *
  unfold takeP at ht
  dsimp only at ht
  split at ht
  · obtain rfl := Option.some.inj ht
    cases ha <;> (constructor <;> simp_all [RS.begin, cur])
  · split at ht
    · rename_i hd
      obtain rfl := Option.some.inj ht
      simp only [RS.digit]
      by_cases h0 : st = 0
      · subst h0
        cases ha <;> (constructor <;> simp_all [RS.begin, RS.more, cur] <;> omega)
      · have e : (st = 1 ∨ st = 2) := by omega
        rcases e with rfl | rfl
        · cases ha <;> (constructor <;> simp_all [RS.more, cur] <;> omega)
        · cases ha <;> (constructor <;> simp_all [RS.more, cur] <;> omega)
    · split at ht
      · obtain rfl := Option.some.inj ht
        cases ha <;> cases mi <;> (constructor <;> simp_all [RS.endN, cur] <;> omega)
      · split at ht
        · obtain rfl := Option.some.inj ht
          cases ha <;> cases mi <;> (constructor <;> simp_all [RS.endN, cur] <;> omega)
        · split at ht
          · obtain rfl := Option.some.inj ht
            cases ha <;> cases mi <;> (constructor <;> simp_all [RS.endN, cur] <;> omega)
          · cases ht

theorem take_len {s s' : PS} {a c : Int} (ht : takeP s a c = some s') : s'.acc.length ≤ s.acc.length + 1 ∧ s'.accs.length ≤ s.accs.length + 1 := by
  unfold takeP at ht
  split at ht
  · obtain rfl := Option.some.inj ht; simp
  · split at ht
    · obtain rfl := Option.some.inj ht; simp
    · split at ht
      · obtain rfl := Option.some.inj ht; simp
      · split at ht
        · obtain rfl := Option.some.inj ht; simp
        · split at ht
          · obtain rfl := Option.some.inj ht; simp
          · cases ht

end Go.Proofs.Ytkjlkbgdkdcboaa
