import Derived.Test.YtkjlkbgdkdcboaaRd5
import Derived.Test.YtkjlkbgdkdcboaaWalksC
namespace Go.Proofs.Ytkjlkbgdkdcboaa
open Go.RowKit
attribute [local go_sem ↓] Go.wp_at_zero Go.wp_at_succ

def leastP (f : Int) (l : List Int) : Int := l.foldl (fun a n => if n < a then n else a) f
theorem leastP_snoc (f : Int) (l : List Int) (n : Int) : leastP f (l ++ [n]) = if n < leastP f l then n else leastP f l := by unfold leastP; rw [List.foldl_append]; rfl

set_option maxHeartbeats 1000000 in
theorem least_any (f : Int) (l : List Int) (g : Nat) (w : World) (hl : l.length ≤ 100) (h : ∀ k (hk : k < l.length), w.cell? ⟨g, k, none⟩ = some (.int .i64 l[k])) :
    Calls Try.prog 46 #[.int .i64 f, .slice (some ⟨g, 0, none⟩) l.length l.length] w fun e w' => e = .returned (.int .i64 (leastP f l)) ∧ w' = w := by
  go_enter Try.func46, Try.ntmps46
  go_wp2
  go_loopw [0, 6, 9] (fun a n i wr => ∃ k : Nat, i = .int .i64 k ∧ k ≤ l.length ∧ a = .int .i64 (leastP f (l.take k)) ∧ wr = w) (fun _ _ i _ => l.length - (intOf i).toNat)
  case atStart => exact ⟨0, rfl, Nat.zero_le _, rfl, rfl⟩
  case round =>
    obtain ⟨k, rfl, hk, rfl, rfl⟩ := hrel
    by_cases hlt : k < l.length
    · have c := h k hlt
      have hst : l.take (k + 1) = l.take k ++ [l[k]] := List.take_succ_eq_append_getElem hlt
      have hs := leastP_snoc f (l.take k) l[k]
      rw [← hst] at hs
      have Hs := hide hs
      clear hst hs h
      generalize l[k] = n at *
      generalize leastP f (l.take k) = A at *
      by_cases hn : n < A
      · have HA := hide (show leastP f (l.take (k + 1)) = n by rw [Hs.out, if_pos hn])
        go_wp2
        go_roundw
        case rel => exact ⟨k + 1, by go_num, by omega, by rw [HA.out], trivial⟩
        case measure => simp [intOf]; omega
      · have HA := hide (show leastP f (l.take (k + 1)) = A by rw [Hs.out, if_neg hn])
        go_wp2
        go_roundw
        case rel => exact ⟨k + 1, by go_num, by omega, by rw [HA.out], trivial⟩
        case measure => simp [intOf]; omega
    · obtain rfl : k = l.length := by omega
      rw [List.take_of_length_le (Nat.le_refl _)] at *
      go_wp2
      go_ret
      exact ⟨rfl, rfl⟩

theorem begins_any (a0 v0 a1 v1 : Int) (w : World) :
    Calls Try.prog 47 #[.agg #[.int .i64 a0, .int .i64 v0, .int .i64 a1, .int .i64 v1]] w fun e w' => e = .returned (.int .i64 a0) ∧ Below w.heap.size w w' := by
  go_enter Try.func47, Try.ntmps47
  go_wp2
  go_ret
  exact ⟨rfl, below1 _ _⟩

def farP (a v o : Int) : Int := if -12 ≤ v ∧ v ≤ 12 then o else a
theorem farAt_any (a v o : Int) (w : World) :
    Calls Try.prog 48 #[.agg #[.int .i64 a, .int .i64 v], .int .i64 o] w fun e w' => e = .returned (.int .i64 (farP a v o)) ∧ Below w.heap.size w w' := by
  by_cases hv : -12 ≤ v ∧ v ≤ 12
  · have HF := hide (show farP a v o = o from if_pos hv)
    have k := fun W => keepsSide_any v W
    rw [decide_eq_true hv] at k
    have K := hide k
    clear k hv
    go_enter Try.func48, Try.ntmps48
    go_wp2_with fail
    refine (K.out _).mono ?_
    rintro e w1 ⟨rfl, rfl⟩
    go_wp2
    go_ret
    exact ⟨by rw [HF.out]; rfl, below1 _ _⟩
  · have HF := hide (show farP a v o = a from if_neg hv)
    have k := fun W => keepsSide_any v W
    rw [decide_eq_false hv] at k
    have K := hide k
    clear k hv
    go_enter Try.func48, Try.ntmps48
    go_wp2_with fail
    refine (K.out _).mono ?_
    rintro e w1 ⟨rfl, rfl⟩
    go_wp2
    go_ret
    exact ⟨by rw [HF.out]; rfl, below1 _ _⟩

def NW : Int := 9223372036854775807
/-- the three faults: far, many, few -/
def ffPt (far : Int) (p : Sp) : Int := leastP far [farP p.1.1 p.1.2 NW, farP p.2.1 p.2.2 NW]
def ffFar (far : Int) (r : List Sp) : Int := r.foldl ffPt far
def ffMany1 (i : Nat) (many : Int) (r : List Sp) : Int := if 2 ≤ i then leastP many [(r.headD default).1.1] else many
def ffMany2 (many : Int) (r : List Sp) : Int := if 6 < r.length then leastP many [(r.getD 6 default).1.1] else many
def ffFew (few : Int) (r : List Sp) : Int := if r.length < 3 then leastP few [(r.headD default).1.1] else few
structure FF where
  far : Int
  many : Int
  few : Int
def ffRing (i : Nat) (s : FF) (r : List Sp) : FF := ⟨ffFar s.far r, ffMany2 (ffMany1 i s.many r) r, ffFew s.few r⟩
def ffAll : Nat → FF → List (List Sp) → FF
  | _, s, [] => s
  | i, s, r :: t => ffAll (i + 1) (ffRing i s r) t
def ffEnd (s : FF) : Int × Int :=
  let at' := leastP s.far [s.many, s.few]
  if at' = NW then (0, 0) else if at' = s.far then (5, at') else if at' = s.many then (3, at') else (4, at')
def firstP (R : List (List Sp)) : Int × Int := ffEnd (ffAll 0 ⟨NW, NW, NW⟩ R)

theorem ffAll_snoc (i : Nat) (s : FF) (R : List (List Sp)) (r : List Sp) : ffAll i s (R ++ [r]) = ffRing (i + R.length) (ffAll i s R) r := by
  induction R generalizing i s with
  | nil => rfl
  | cons a t ih => simp only [List.cons_append, ffAll, ih, List.length_cons]; congr 1; omega

end Go.Proofs.Ytkjlkbgdkdcboaa
