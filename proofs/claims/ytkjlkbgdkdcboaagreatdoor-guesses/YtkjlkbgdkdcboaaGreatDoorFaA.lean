import Derived.Test.YtkjlkbgdkdcboaaGreatDoorRD
import Derived.Test.YtkjlkbgdkdcboaaGreatDoorWaA
import Derived.Deep.DeepCutAuto
import Derived.Deep.RegionHeld3

set_option linter.unusedSimpArgs false
set_option linter.unusedVariables false

set_option linter.unusedSimpArgs false
set_option linter.unusedVariables false
namespace Go.Proofs.YtkjlkbgdkdcboaaGreatDoor
open Go.RowKit
attribute [local go_sem ↓] Go.wp_at_zero Go.wp_at_succ
def leastP (f : Int) (l : List Int) : Int := l.foldl (fun a n => if n < a then n else a) f
theorem leastP_snoc (f : Int) (l : List Int) (n : Int) : leastP f (l ++ [n]) = if n < leastP f l then n else leastP f l := by unfold leastP; rw [List.foldl_append]; rfl
set_option maxHeartbeats 1000000 in
theorem least_any (f : Int) (l : List Int) (g : Nat) (w : World) (hl : l.length ≤ 100) (h : ∀ k (hk : k < l.length), w.cell? ⟨g, k, none⟩ = some (.int .i64 l[k])) :
    Calls Tryz.prog 95 #[.int .i64 f, .slice (some ⟨g, 0, none⟩) l.length l.length] w fun e w' => e = .returned (.int .i64 (leastP f l)) ∧ w' = w := by
  go_enter Tryz.func95, Tryz.ntmps95
  go_wp2
  go_loopw [0, 6, 9] (fun a n i wr => ∃ k : Nat, i = .int .i64 k ∧ k ≤ l.length ∧ a = .int .i64 (leastP f (l.take k)) ∧ wr = w) (fun _ _ i _ => l.length - (intOf i).toNat)
  case atStart => exact ⟨0, rfl, Nat.zero_le _, rfl, rfl⟩
  case round =>
    obtain ⟨k, rfl, hk, rfl, rfl⟩ := hrel
    by_cases hlt : k < l.length
    · have c := h k hlt
      have hst : l.take (k + 1) = l.take k ++ [l[k]] := List.take_succ_eq_append_getElem hlt
      have hs := leastP_snoc f (l.take k) l[k]
      rw [← hst] at hs
      have Hs := hide hs
      clear hst hs h
      generalize l[k] = n at *
      generalize leastP f (l.take k) = A at *
      by_cases hn : n < A
      · have HA := hide (show leastP f (l.take (k + 1)) = n by rw [Hs.out, if_pos hn])
        go_wp2
        go_roundw
        case rel => exact ⟨k + 1, by go_num, by omega, by rw [HA.out], trivial⟩
        case measure => simp [intOf]; omega
      · have HA := hide (show leastP f (l.take (k + 1)) = A by rw [Hs.out, if_neg hn])
        go_wp2
        go_roundw
        case rel => exact ⟨k + 1, by go_num, by omega, by rw [HA.out], trivial⟩
        case measure => simp [intOf]; omega
    · obtain rfl : k = l.length := by omega
      rw [List.take_of_length_le (Nat.le_refl _)] at *
      go_wp2
      go_ret
      exact ⟨rfl, rfl⟩
theorem begins_any (a0 v0 a1 v1 : Int) (w : World) :
    Calls Tryz.prog 96 #[.agg #[.int .i64 a0, .int .i64 v0, .int .i64 a1, .int .i64 v1]] w fun e w' => e = .returned (.int .i64 a0) ∧ Below w.heap.size w w' := by
  go_enter Tryz.func96, Tryz.ntmps96
  go_wp2
  go_ret
  exact ⟨rfl, below1 _ _⟩
def farP (a v o : Int) : Int := if -12 ≤ v ∧ v ≤ 12 then o else a
theorem farAt_any (a v o : Int) (w : World) :
    Calls Tryz.prog 97 #[.agg #[.int .i64 a, .int .i64 v], .int .i64 o] w fun e w' => e = .returned (.int .i64 (farP a v o)) ∧ Below w.heap.size w w' := by
  by_cases hv : -12 ≤ v ∧ v ≤ 12
  · have HF := hide (show farP a v o = o from if_pos hv)
    have k := fun W => keepsSide_any v W
    rw [decide_eq_true hv] at k
    have K := hide k
    clear k hv
    go_enter Tryz.func97, Tryz.ntmps97
    go_wp2_with fail
    refine (K.out _).mono ?_
    rintro e w1 ⟨rfl, rfl⟩
    go_wp2
    go_ret
    exact ⟨by rw [HF.out]; rfl, below1 _ _⟩
  · have HF := hide (show farP a v o = a from if_neg hv)
    have k := fun W => keepsSide_any v W
    rw [decide_eq_false hv] at k
    have K := hide k
    clear k hv
    go_enter Tryz.func97, Tryz.ntmps97
    go_wp2_with fail
    refine (K.out _).mono ?_
    rintro e w1 ⟨rfl, rfl⟩
    go_wp2
    go_ret
    exact ⟨by rw [HF.out]; rfl, below1 _ _⟩
def NW : Int := 9223372036854775807
def ffPt (far : Int) (p : Sp) : Int := leastP far [farP p.1.1 p.1.2 NW, farP p.2.1 p.2.2 NW]
def ffFar (far : Int) (r : List Sp) : Int := r.foldl ffPt far
def ffMany1 (i : Nat) (many : Int) (r : List Sp) : Int := if 2 ≤ i then leastP many [(r.headD default).1.1] else many
def ffMany2 (many : Int) (r : List Sp) : Int := if 6 < r.length then leastP many [(r.getD 6 default).1.1] else many
def ffFew (few : Int) (r : List Sp) : Int := if r.length < 3 then leastP few [(r.headD default).1.1] else few
structure FF where
  far : Int
  many : Int
  few : Int
def ffRing (i : Nat) (s : FF) (r : List Sp) : FF := ⟨ffFar s.far r, ffMany2 (ffMany1 i s.many r) r, ffFew s.few r⟩
def ffAll : Nat → FF → List (List Sp) → FF
  | _, s, [] => s
  | i, s, r :: t => ffAll (i + 1) (ffRing i s r) t
def ffEnd (s : FF) : Int × Int :=
  let at' := leastP s.far [s.many, s.few]
  if at' = NW then (0, 0) else if at' = s.far then (5, at') else if at' = s.many then (3, at') else (4, at')
def firstP (R : List (List Sp)) : Int × Int := ffEnd (ffAll 0 ⟨NW, NW, NW⟩ R)
theorem ffAll_snoc (i : Nat) (s : FF) (R : List (List Sp)) (r : List Sp) : ffAll i s (R ++ [r]) = ffRing (i + R.length) (ffAll i s R) r := by
  induction R generalizing i s with
  | nil => rfl
  | cons a t ih => simp only [List.cons_append, ffAll, ih, List.length_cons]; congr 1; omega
end Go.Proofs.YtkjlkbgdkdcboaaGreatDoor
namespace Go.Proofs.YtkjlkbgdkdcboaaGreatDoor
open Go.RowKit
attribute [local go_sem ↓] Go.wp_at_zero Go.wp_at_succ
theorem least1_any (f a : Int) (g : Nat) (w : World) (h : w.cell? ⟨g, 0, none⟩ = some (.int .i64 a)) :
    Calls Tryz.prog 95 #[.int .i64 f, .slice (some ⟨g, 0, none⟩) 1 1] w fun e w' => e = .returned (.int .i64 (leastP f [a])) ∧ w' = w :=
  least_any f [a] g w (by simp) (fun k hk => by
    have : k = 0 := by simpa using hk
    subst this; exact h)
theorem least2_any (f a b : Int) (g : Nat) (w : World) (h : w.cell? ⟨g, 0, none⟩ = some (.int .i64 a)) (h' : w.cell? ⟨g, 1, none⟩ = some (.int .i64 b)) :
    Calls Tryz.prog 95 #[.int .i64 f, .slice (some ⟨g, 0, none⟩) 2 2] w fun e w' => e = .returned (.int .i64 (leastP f [a, b])) ∧ w' = w :=
  least_any f [a, b] g w (by simp) (fun k hk => by
    have : k = 0 ∨ k = 1 := by simp at hk; omega
    rcases this with rfl | rfl
    · exact h
    · exact h')
theorem SpsAt.later {w w' : World} {b off : Nat} {ps : List Sp} (h : SpsAt w b off ps) (hb : Below w.heap.size w w') : SpsAt w' b off ps := fun k hk => by
  obtain ⟨h1, h2, h3, h4⟩ := h k hk
  exact ⟨cell_later hb h1, cell_later hb h2, cell_later hb h3, cell_later hb h4⟩
def PtS (w : World) (P : Nat) (p : Sp) (W : World) : Prop :=
  W.cell? ⟨P, 0, none⟩ = some (.int .i64 p.1.1) ∧ W.cell? ⟨P, 1, none⟩ = some (.int .i64 p.1.2) ∧ W.cell? ⟨P, 2, none⟩ = some (.int .i64 p.2.1) ∧ W.cell? ⟨P, 3, none⟩ = some (.int .i64 p.2.2) ∧ Below w.heap.size w W
theorem PtS.call {w V W : World} {P : Nat} {p : Sp} (hb : Below V.heap.size V W) (h : PtS w P p V) : PtS w P p W := by
  obtain ⟨h1, h2, h3, h4, h5⟩ := h
  exact ⟨cell_later hb h1, cell_later hb h2, cell_later hb h3, cell_later hb h4, below_call hb h5⟩
theorem PtS.drew {w V : World} {P : Nat} {p : Sp} (h : PtS w P p V) : PtS w P p V.drew := PtS.call (Below.drew (Below.refl _ _)) h
theorem PtS.alloc {w V : World} {P : Nat} {p : Sp} {o : Obj} (h : PtS w P p V) : PtS w P p (V.alloc o) := PtS.call (below1 _ _) h
theorem ffFar_snoc (far : Int) (r : List Sp) (p : Sp) : ffFar far (r ++ [p]) = ffPt (ffFar far r) p := by unfold ffFar; rw [List.foldl_append]; rfl
set_option maxRecDepth 100000 in
set_option maxHeartbeats 4000000 in
theorem firstFault_any (R : List (List Sp)) (v : Value) (w : World) (hR : RSpots w v R) (hne : ∀ r ∈ R, r ≠ []) (hn : R.length ≤ 1000) (hm : ∀ r ∈ R, r.length ≤ 1000) :
    Calls Tryz.prog 51 #[v] w fun e w' => e = .returned (.tuple #[.int .i64 (firstP R).1, .int .i64 (firstP R).2]) ∧ Below w.heap.size w w' := by
  obtain ⟨ga, b, off, cap, rfl, hga, hcs⟩ := hR
  go_enter Tryz.func51, Tryz.ntmps51
  go_wp2
  go_loopw [4, 5, 6, 14] (fun far many few i wr => ∃ k : Nat, i = .int .i64 k ∧ k ≤ R.length ∧ ∃ s : FF, far = .int .i64 s.far ∧ many = .int .i64 s.many ∧ few = .int .i64 s.few ∧ Hid (s = ffAll 0 ⟨NW, NW, NW⟩ (R.take k) ∧ Below w.heap.size w wr)) (fun _ _ _ i _ => R.length - (intOf i).toNat)
  case atStart => exact ⟨0, rfl, Nat.zero_le _, ⟨NW, NW, NW⟩, rfl, rfl, rfl, rfl, Below.refl _ _⟩
  case round =>
    obtain ⟨k, rfl, hk, s, rfl, rfl, rfl, hr⟩ := hrel
    obtain ⟨hs, hw⟩ := hr.out
    clear hr
    by_cases hlt : k < R.length
    · obtain rfl := hga (by omega)
      obtain ⟨u, hu, hring⟩ := hcs k hlt
      have hml := hm R[k] (List.getElem_mem hlt)
      have hnr := hne R[k] (List.getElem_mem hlt)
      have hst : R.take (k + 1) = R.take k ++ [R[k]] := List.take_succ_eq_append_getElem hlt
      have hkl : (R.take k).length = k := by rw [List.length_take]; omega
      have hnext : ffAll 0 ⟨NW, NW, NW⟩ (R.take (k + 1)) = ffRing k s R[k] := by rw [hst, ffAll_snoc, hkl, Nat.zero_add, ← hs]
      obtain ⟨ra, rb, roff, rcap, rfl, hra, hpts⟩ := hring
      generalize R[k] = r at *
      have Hnext := hide hnext
      clear hst hkl hnext hs
      have hrp : 0 < r.length := List.length_pos_iff.2 hnr
      obtain ⟨rfl, hrb⟩ := hra hrp
      have hs' := cell_later hw hu
      have Hp0 := hide (hpts 0 hrp)
      obtain ⟨p0, p1, p2, p3⟩ := hpts 0 hrp
      have q0 := cell_later hw p0
      have q1 := cell_later hw p1
      have q2 := cell_later hw p2
      have q3 := cell_later hw p3
      have hk0 : (0 : Int) ≤ (k : Int) := Int.natCast_nonneg _
      have hk1 : (k : Int) < (R.length : Int) := by omega
      have hr0 : (0 : Int) < (r.length : Int) := by omega
      simp only [Nat.zero_mul, Nat.add_zero] at q0 q1 q2 q3
      have hhd : r.headD default = r[0] := by cases r with | nil => exact absurd rfl hnr | cons a t => rfl
      have H1 := hide (show ffMany1 k s.many r = if 2 ≤ k then leastP s.many [r[0].1.1] else s.many by rw [ffMany1, hhd])
      have H3 := hide (show ffFew s.few r = if r.length < 3 then leastP s.few [r[0].1.1] else s.few by rw [ffFew, hhd])
      clear hhd p0 p1 p2 p3
      generalize r[0] = n0 at *
      have Hw := hide hw
      go_upto_if 20 with fail
      go_cut [5] (fun m wx => m = .int .i64 (ffMany1 k s.many r) ∧ Hid (Below w.heap.size w wx))
      case first =>
        by_cases h2 : 2 ≤ k
        · have h2' : (2 : Int) ≤ (k : Int) := by omega
          have H1' := hide (show ffMany1 k s.many r = leastP s.many [n0.1.1] by rw [H1.out, if_pos h2])
          go_wp2_with fail
          refine (begins_any _ _ _ _ _).mono ?_
          rintro e w1 ⟨rfl, hb1⟩
          go_wp2_with fail
          refine (least1_any _ n0.1.1 _ _ (by simp [go_sem])).mono ?_
          rintro e w2 ⟨rfl, rfl⟩
          go_wp2_with fail
          go_meet
          case rel => exact ⟨by rw [H1'.out], (below_call hb1 Hw.out).alloc (below_call hb1 Hw.out).size _⟩
        · have h2' : ¬ (2 : Int) ≤ (k : Int) := by omega
          have H1' := hide (show ffMany1 k s.many r = s.many by rw [H1.out, if_neg h2])
          go_wp2_with fail
          go_meet
          case rel => exact ⟨by rw [H1'.out], Hw.out⟩
      case rest =>
        obtain ⟨rfl, hw2⟩ := hcut
        have hw2' := hw2.out
        clear Hw hw q0 q1 q2 q3 hs'
        obtain ⟨M1, hM1⟩ : ∃ M1, ffMany1 k s.many r = M1 := ⟨_, rfl⟩
        rw [hM1]
        have HM1 := hide hM1
        clear hM1
        go_upto_if 30 with fail
        go_cut [5] (fun m wx => m = .int .i64 (ffMany2 M1 r) ∧ Hid (Below w.heap.size w wx))
        case first =>
          by_cases h6 : 6 < r.length
          · have h6' : (6 : Int) < (r.length : Int) := by omega
            have hd6 : r.getD 6 default = r[6] := by rw [List.getD_eq_getElem?_getD, List.getElem?_eq_getElem h6]; rfl
            have H2 := hide (show ffMany2 M1 r = leastP M1 [r[6].1.1] by rw [ffMany2, if_pos h6, hd6])
            obtain ⟨p0, p1, p2, p3⟩ := hpts 6 h6
            have q0 := cell_later hw2' p0
            have q1 := cell_later hw2' p1
            have q2 := cell_later hw2' p2
            have q3 := cell_later hw2' p3
            simp only [Nat.reduceMul, Nat.add_assoc, Nat.reduceAdd] at q0 q1 q2 q3
            clear p0 p1 p2 p3 hd6
            generalize r[6] = n6 at *
            go_wp2_with fail
            refine (begins_any _ _ _ _ _).mono ?_
            rintro e w1 ⟨rfl, hb1⟩
            go_wp2_with fail
            refine (least1_any _ n6.1.1 _ _ (by simp [go_sem])).mono ?_
            rintro e w2 ⟨rfl, rfl⟩
            go_wp2_with fail
            go_meet
            case rel => exact ⟨by rw [H2.out], (below_call hb1 hw2').alloc (below_call hb1 hw2').size _⟩
          · have h6' : ¬ (6 : Int) < (r.length : Int) := by omega
            have H2 := hide (show ffMany2 M1 r = M1 by rw [ffMany2, if_neg h6])
            go_wp2_with fail
            go_meet
            case rel => exact ⟨by rw [H2.out], hw2'⟩
        case rest =>
          obtain ⟨rfl, hw3⟩ := hcut
          have hw3' := hw3.out
          clear hw2 hw2'
          obtain ⟨M2, hM2⟩ : ∃ M2, ffMany2 M1 r = M2 := ⟨_, rfl⟩
          rw [hM2]
          have HM2 := hide hM2
          clear hM2
          go_upto_if 40 with fail
          go_cut [6] (fun m wx => m = .int .i64 (ffFew s.few r) ∧ Hid (Below w.heap.size w wx))
          case first =>
            by_cases h3 : r.length < 3
            · have h3' : (r.length : Int) < 3 := by omega
              have H2 := hide (show ffFew s.few r = leastP s.few [n0.1.1] by rw [H3.out, if_pos h3])
              obtain ⟨p0, p1, p2, p3⟩ := Hp0.out
              have q0 := cell_later hw3' p0
              have q1 := cell_later hw3' p1
              have q2 := cell_later hw3' p2
              have q3 := cell_later hw3' p3
              simp only [Nat.zero_mul, Nat.add_zero] at q0 q1 q2 q3
              clear p0 p1 p2 p3
              go_wp2_with fail
              refine (begins_any _ _ _ _ _).mono ?_
              rintro e w1 ⟨rfl, hb1⟩
              go_wp2_with fail
              refine (least1_any _ n0.1.1 _ _ (by simp [go_sem])).mono ?_
              rintro e w2 ⟨rfl, rfl⟩
              go_wp2_with fail
              go_meet
              case rel => exact ⟨by rw [H2.out], (below_call hb1 hw3').alloc (below_call hb1 hw3').size _⟩
            · have h3' : ¬ (r.length : Int) < 3 := by omega
              have H2 := hide (show ffFew s.few r = s.few by rw [H3.out, if_neg h3])
              go_wp2_with fail
              go_meet
              case rel => exact ⟨by rw [H2.out], hw3'⟩
          case rest =>
            obtain ⟨rfl, hw4⟩ := hcut
            have hw4' := hw4.out
            clear hw3 hw3'
            obtain ⟨M3, hM3⟩ : ∃ M3, ffFew s.few r = M3 := ⟨_, rfl⟩
            rw [hM3]
            have HM3 := hide hM3
            clear hM3
            go_wp2_with fail
            go_loopw [4, 50] (fun far i wr => ∃ j : Nat, i = .int .i64 j ∧ j ≤ r.length ∧ far = .int .i64 (ffFar s.far (r.take j)) ∧ Hid (Below w.heap.size w wr)) (fun _ i _ => r.length - (intOf i).toNat)
            case atStart => exact ⟨0, rfl, Nat.zero_le _, rfl, hw4'⟩
            case round =>
              obtain ⟨j, rfl, hj, rfl, hr2⟩ := hrel
              have hw5 := hr2.out
              clear hr2 hw4 hw4'
              by_cases hjl : j < r.length
              · obtain ⟨p0, p1, p2, p3⟩ := hpts j hjl
                have q0 := cell_later hw5 p0
                have q1 := cell_later hw5 p1
                have q2 := cell_later hw5 p2
                have q3 := cell_later hw5 p3
                have hst : r.take (j + 1) = r.take j ++ [r[j]] := List.take_succ_eq_append_getElem hjl
                have Hst := hide (show ffFar s.far (r.take (j + 1)) = ffPt (ffFar s.far (r.take j)) r[j] by rw [hst, ffFar_snoc])
                have hj0 : (0 : Int) ≤ (j : Int) := Int.natCast_nonneg _
                have hj1 : (j : Int) < (r.length : Int) := by omega
                clear p0 p1 p2 p3 hst
                generalize r[j] = pj at *
                generalize ffFar s.far (r.take j) = A at *
                have hS : PtS w wr.heap.size pj (wr.alloc (.cells #[.int .i64 pj.1.1, .int .i64 pj.1.2, .int .i64 pj.2.1, .int .i64 pj.2.2] 199)) := by
                  refine ⟨?_, ?_, ?_, ?_, hw5.alloc hw5.size _⟩ <;> simp [go_sem]
                go_wp2_with fail
                go_region_held3 (fun w'' => w''.cell? ⟨wr.heap.size, 0, none⟩ = some (.int .i64 pj.1.1) ∧ w''.cell? ⟨wr.heap.size, 1, none⟩ = some (.int .i64 pj.1.2) ∧ w''.cell? ⟨wr.heap.size, 2, none⟩ = some (.int .i64 pj.2.1) ∧ w''.cell? ⟨wr.heap.size, 3, none⟩ = some (.int .i64 pj.2.2) ∧ Below w.heap.size w w'')
                  ((show PtS w wr.heap.size pj _
                    first
                      | exact hS
                      | exact hS.drew
                      | assumption
                      | exact PtS.call (by assumption) (by assumption)
                      | (refine ⟨?_, ?_, ?_, ?_, ?_⟩ <;> assumption)
                      | exact PtS.call (by assumption) ⟨by assumption, by assumption, by assumption, by assumption, by assumption⟩
                      | exact PtS.alloc (by assumption)
                      | exact PtS.alloc ⟨by assumption, by assumption, by assumption, by assumption, by assumption⟩))
                  (first
                    | (go_at_call 97; refine (farAt_any _ _ _ _).mono ?_; rintro e w'' ⟨rfl, hb⟩)
                    | (go_at_call 95; refine (least2_any _ _ _ _ _ (by simp [go_sem]; rfl) (by simp [go_sem]; rfl)).mono ?_; rintro e w'' ⟨rfl, rfl⟩))
                have hwf : Below w.heap.size w (w''.alloc (.cells #[.int .i64 (farP pj.1.1 pj.1.2 9223372036854775807), .int .i64 (farP pj.2.1 pj.2.2 9223372036854775807)] 3)) := (PtS.alloc (PtS.call hb (PtS.call (by assumption) hS.drew))).2.2.2.2
                have Hwf := hide hwf
                clear hwf hS hb
                go_wp2
                go_roundw
                case rel => exact ⟨j + 1, by go_num, by omega, by rw [Hst.out]; rfl, Hwf.out⟩
                case measure => simp [intOf]; omega
              · obtain rfl : j = r.length := by omega
                rw [List.take_of_length_le (Nat.le_refl _)]
                have HR := hide (show ffRing k s r = ⟨ffFar s.far r, M2, M3⟩ by rw [ffRing, HM1.out, HM2.out, HM3.out])
                have Hw5 := hide hw5
                clear hw5
                go_wp2
                go_roundw
                case rel => exact ⟨k + 1, by go_num, by omega, ⟨ffFar s.far r, M2, M3⟩, rfl, rfl, rfl, by rw [Hnext.out, HR.out], Hw5.out⟩
                case measure => simp [intOf]; omega
    · obtain rfl : k = R.length := by omega
      rw [List.take_of_length_le (Nat.le_refl _)] at hs
      have HF := hide (show firstP R = ffEnd s by rw [hs]; rfl)
      have Hw := hide hw
      clear hw hs
      have HE := hide (show ffEnd s = if leastP s.far [s.many, s.few] = NW then (0, 0) else if leastP s.far [s.many, s.few] = s.far then (5, leastP s.far [s.many, s.few]) else if leastP s.far [s.many, s.few] = s.many then (3, leastP s.far [s.many, s.few]) else (4, leastP s.far [s.many, s.few]) from rfl)
      go_wp2_with fail
      refine (least2_any _ s.many s.few _ _ (by simp [go_sem]) (by simp [go_sem])).mono ?_
      rintro e w2 ⟨rfl, rfl⟩
      obtain ⟨A, hA⟩ : ∃ A, leastP s.far [s.many, s.few] = A := ⟨_, rfl⟩
      rw [hA] at HE ⊢
      clear hA
      by_cases h1 : A = NW
      · have HE1 := hide (show ffEnd s = (0, 0) by rw [HE.out, if_pos h1])
        have h1' : A = 9223372036854775807 := h1
        clear h1
        subst h1'
        go_wp2
        go_ret2
        exact ⟨by rw [HF.out, HE1.out]; rfl, Hw.out.alloc Hw.out.size _⟩
      · have h1' : (A == 9223372036854775807) = false := by simpa [NW] using h1
        by_cases h2 : A = s.far
        · have HE1 := hide (show ffEnd s = (5, A) by rw [HE.out, if_neg h1, if_pos h2])
          have h2' : (A == s.far) = true := by simpa using h2
          clear h1 h2
          go_wp2
          go_ret2
          exact ⟨by rw [HF.out, HE1.out]; rfl, Hw.out.alloc Hw.out.size _⟩
        · have h2' : (A == s.far) = false := by simpa using h2
          by_cases h3 : A = s.many
          · have HE1 := hide (show ffEnd s = (3, A) by rw [HE.out, if_neg h1, if_neg h2, if_pos h3])
            have h3' : (A == s.many) = true := by simpa using h3
            clear h1 h2 h3
            go_wp2
            go_ret2
            exact ⟨by rw [HF.out, HE1.out]; rfl, Hw.out.alloc Hw.out.size _⟩
          · have HE1 := hide (show ffEnd s = (4, A) by rw [HE.out, if_neg h1, if_neg h2, if_neg h3])
            have h3' : (A == s.many) = false := by simpa using h3
            clear h1 h2 h3
            go_wp2
            go_ret2
            exact ⟨by rw [HF.out, HE1.out]; rfl, Hw.out.alloc Hw.out.size _⟩
end Go.Proofs.YtkjlkbgdkdcboaaGreatDoor
