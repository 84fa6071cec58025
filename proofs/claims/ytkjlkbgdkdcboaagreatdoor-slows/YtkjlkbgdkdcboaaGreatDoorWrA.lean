import Derived.Test.YtkjlkbgdkdcboaaGreatDoorPnA
import Derived.Deep.DeepCutAuto

set_option linter.unusedSimpArgs false
set_option linter.unusedVariables false

set_option linter.unusedSimpArgs false
set_option linter.unusedVariables false

namespace Go.Proofs.YtkjlkbgdkdcboaaGreatDoor
open Go.RowKit
attribute [local go_sem ↓] Go.wp_at_zero Go.wp_at_succ

/-- a number that is too far out -/
def wSide (n p : Int × Int) : Int × Int := if (12 < n.1 ∨ n.1 < -12) ∧ (p.1 = 0 ∨ n.2 < p.2 ∨ (n.2 = p.2 ∧ p.1 ≠ 5)) then (5, n.2) else p
/-- a point too many -/
def wMany (k : Nat) (n p : Int × Int) : Int × Int := if k = 12 ∧ (p.1 = 0 ∨ n.2 < p.2) then (3, n.2) else p
def wNums : Nat → List (Int × Int) → Int × Int → Int × Int
  | _, [], p => p
  | k, n :: r, p => wNums (k + 1) r (wMany k n (wSide n p))
/-- a ring too many, or with too few points -/
def wHead (i : Nat) (r : List (Int × Int)) (p : Int × Int) : Int × Int :=
  if (2 ≤ i ∨ r.length < 6) ∧ (p.1 = 0 ∨ (r.headD (0, 0)).2 < p.2) then (if 2 ≤ i then 3 else 4, (r.headD (0, 0)).2) else p
def wRings : Nat → List (List (Int × Int)) → Int × Int → Int × Int
  | _, [], p => p
  | i, r :: R, p => wRings (i + 1) R (wNums 0 r (wHead i r p))

theorem wNums_app (k : Nat) (a b : List (Int × Int)) (p : Int × Int) : wNums k (a ++ b) p = wNums (k + a.length) b (wNums k a p) := by
  induction a generalizing k p with
  | nil => rfl
  | cons x r ih => simp only [List.cons_append, wNums, ih, List.length_cons]; congr 1; omega

set_option maxRecDepth 100000 in
set_option maxHeartbeats 4000000 in
theorem wrong_any (R : List (List (Int × Int))) (v : Value) (w : World) (hR : Rings w v R) (hne : ∀ r ∈ R, r ≠ []) (hn : R.length ≤ 10000) (hm : ∀ r ∈ R, r.length ≤ 10000) :
    Calls Tryz.prog 30 #[v] w fun e w' => e = .returned (.tuple #[.int .i64 (wRings 0 R (0, 0)).1, .int .i64 (wRings 0 R (0, 0)).2]) ∧ Below w.heap.size w w' := by
  obtain ⟨ga, b, off, cap, rfl, hga, hcs⟩ := hR
  obtain ⟨F, hF⟩ : ∃ F, wRings 0 R (0, 0) = F := ⟨_, rfl⟩
  rw [hF]
  have HF := hide hF
  clear hF
  go_enter Tryz.func30, Tryz.ntmps30
  go_wp2
  go_loopw [4, 5, 6] (fun e a i wr => ∃ (k : Nat) (ev av : Int), e = .int .i64 ev ∧ a = .int .i64 av ∧ i = .int .i64 k ∧ k ≤ R.length ∧ Hid (Below w.heap.size w wr ∧ wRings k (R.drop k) (ev, av) = F)) (fun _ _ i _ => R.length - (intOf i).toNat)
  case atStart => exact ⟨0, 0, 0, rfl, rfl, rfl, Nat.zero_le _, Below.refl _ _, HF.out⟩
  case round =>
    obtain ⟨k, ev, av, rfl, rfl, rfl, hk, hw⟩ := hrel
    by_cases hlt : k < R.length
    · obtain rfl := hga (by omega)
      obtain ⟨s, hs, hring⟩ := hcs k hlt
      have hml := hm R[k] (List.getElem_mem hlt)
      have hnr := hne R[k] (List.getElem_mem hlt)
      have hdrop : R.drop k = R[k] :: R.drop (k + 1) := (List.getElem_cons_drop hlt).symm
      obtain ⟨ra, rb, roff, rcap, rfl, hra, hpts⟩ := hring
      have hw1 := hw.out.1
      have hF2 := hw.out.2
      rw [hdrop] at hF2
      generalize R[k] = r at *
      have HF2 := hide (show wRings (k + 1) (R.drop (k + 1)) (wNums 0 r (wHead k r (ev, av))) = F from hF2)
      clear hF2 hdrop
      have hrp : 0 < r.length := List.length_pos_iff.2 hnr
      obtain ⟨rfl, hrb⟩ := hra hrp
      obtain ⟨p0, p1⟩ := (hpts.later hw1) 0 hrp
      have hs' := cell_later hw1 hs
      have hhd : r.headD (0, 0) = r[0] := by cases r with | nil => exact absurd rfl hnr | cons a t => rfl
      have hH : wHead k r (ev, av) = if (2 ≤ k ∨ r.length < 6) ∧ (ev = 0 ∨ r[0].2 < av) then ((if 2 ≤ k then 3 else 4 : Int), r[0].2) else (ev, av) := by rw [wHead, hhd]
      have HH := hide hH
      clear hH hhd
      have hk0 : (0 : Int) ≤ (k : Int) := Int.natCast_nonneg _
      have hk1 : (k : Int) < (R.length : Int) := by omega
      have hr0 : (0 : Int) < (r.length : Int) := by omega
      simp only [Nat.zero_mul, Nat.add_zero] at p0 p1
      generalize r[0] = n0 at *
      have Hw := hide hw1
      have Hs := hide hs
      have Hpts := hide hpts
      clear hw hw1 hs hpts
      obtain ⟨D, hD⟩ : ∃ D, D = decide ((2 ≤ k ∨ r.length < 6) ∧ (ev = 0 ∨ n0.2 < av)) := ⟨_, rfl⟩
      have HD := hide hD
      clear hD
      obtain ⟨M, hM⟩ : ∃ M, M = decide ((2 : Int) ≤ (k : Int)) := ⟨_, rfl⟩
      have HM := hide hM
      clear hM
      go_upto_region 7 with fail
      go_cut [7, 41] (fun m t wc => wc = wr ∧ m = .bool M ∧ t = .bool D)
      case first =>
        by_cases h2 : 2 ≤ k
        · have h2' : (2 : Int) ≤ (k : Int) := by omega
          have HMv := hide (show M = true by rw [HM.out]; exact decide_eq_true h2')
          by_cases h3 : ev = 0
          · have HDv := hide (show D = true by rw [HD.out]; simp [h2, h3])
            subst h3
            go_wp2_with fail
            go_meet
            case rel => exact ⟨rfl, by rw [HMv.out], by rw [HDv.out]⟩
          · have h3b : (ev == 0) = false := by simpa using h3
            have HDv := hide (show D = decide (n0.2 < av) by rw [HD.out]; simp [h2, h3])
            clear h3
            go_wp2_with fail
            go_meet
            case rel => exact ⟨rfl, by rw [HMv.out], by rw [HDv.out]⟩
        · have h2' : ¬ (2 : Int) ≤ (k : Int) := by omega
          have HMv := hide (show M = false by rw [HM.out]; exact decide_eq_false h2')
          by_cases h6 : r.length < 6
          · have h6' : (r.length : Int) < 6 := by omega
            by_cases h3 : ev = 0
            · have HDv := hide (show D = true by rw [HD.out]; simp [h6, h3])
              subst h3
              go_wp2_with fail
              go_meet
              case rel => exact ⟨rfl, by rw [HMv.out], by rw [HDv.out]⟩
            · have h3b : (ev == 0) = false := by simpa using h3
              have HDv := hide (show D = decide (n0.2 < av) by rw [HD.out]; simp [h6, h3])
              clear h3
              go_wp2_with fail
              go_meet
              case rel => exact ⟨rfl, by rw [HMv.out], by rw [HDv.out]⟩
          · have h6' : ¬ (r.length : Int) < 6 := by omega
            have HDv := hide (show D = false by rw [HD.out]; simp [h6, h2])
            go_wp2_with fail
            go_meet
            case rel => exact ⟨rfl, by rw [HMv.out], by rw [HDv.out]⟩
      case rest =>
        obtain ⟨rfl, rfl, rfl⟩ := hcut
        obtain ⟨E, hE⟩ : ∃ E, wHead k r (ev, av) = E := ⟨_, rfl⟩
        rw [hE] at HF2 HH
        clear hE
        go_upto_if 41 with fail
        go_cut [4, 5, 7] (fun e5 a5 m wx => wx = wc ∧ m = .bool M ∧ e5 = .int .i64 E.1 ∧ a5 = .int .i64 E.2)
        case first =>
          cases hDc : D with
          | false =>
            have HE := hide (show E = (ev, av) by
              have hd := HD.out; rw [hDc] at hd
              rw [HH.out, if_neg (of_decide_eq_false hd.symm)])
            subst hDc
            go_wp2_with fail
            go_meet
            case rel => exact ⟨rfl, rfl, by rw [HE.out], by rw [HE.out]⟩
          | true =>
            have hE1 : E = ((if 2 ≤ k then 3 else 4 : Int), n0.2) := by
              have hd := HD.out; rw [hDc] at hd
              rw [HH.out, if_pos (of_decide_eq_true hd.symm)]
            subst hDc
            by_cases h2 : 2 ≤ k
            · have h2' : (2 : Int) ≤ (k : Int) := by omega
              have hMv : M = true := by rw [HM.out]; exact decide_eq_true h2'
              have HE := hide (show E = (3, n0.2) by rw [hE1, if_pos h2])
              clear hE1 HM
              subst hMv
              go_wp2_with fail
              go_meet
              case rel => exact ⟨rfl, rfl, by rw [HE.out], by rw [HE.out]⟩
            · have h2' : ¬ (2 : Int) ≤ (k : Int) := by omega
              have hMv : M = false := by rw [HM.out]; exact decide_eq_false h2'
              have HE := hide (show E = (4, n0.2) by rw [hE1, if_neg h2])
              clear hE1 HM
              subst hMv
              go_wp2_with fail
              go_meet
              case rel => exact ⟨rfl, rfl, by rw [HE.out], by rw [HE.out]⟩
        case rest =>
          obtain ⟨rfl, rfl, rfl, rfl⟩ := hcut
          clear p0 p1 HH HD hs'
          go_wp2_with fail
          go_loopw [4, 5, 8] (fun e a i wr => ∃ (j : Nat) (q : Int × Int), e = .int .i64 q.1 ∧ a = .int .i64 q.2 ∧ i = .int .i64 j ∧ j ≤ r.length ∧ Hid (Below w.heap.size w wr ∧ q = wNums 0 (r.take j) E)) (fun _ _ i _ => r.length - (intOf i).toNat)
          case atStart => exact ⟨0, E, rfl, rfl, rfl, Nat.zero_le _, Hw.out, rfl⟩
          case round =>
            obtain ⟨j, q, rfl, rfl, rfl, hj, hr2⟩ := hrel
            obtain ⟨hw5, hq⟩ := hr2.out
            have hs5 := cell_later hw5 Hs.out
            clear hr2 Hw
            by_cases hjl : j < r.length
            · obtain ⟨p0, p1⟩ := (Hpts.out.later hw5) j hjl
              have hst : r.take (j + 1) = r.take j ++ [r[j]] := List.take_succ_eq_append_getElem hjl
              have hjk : (r.take j).length = j := by rw [List.length_take]; omega
              have Hst := hide (show wNums 0 (r.take (j + 1)) E = wMany j r[j] (wSide r[j] q) by rw [hst, wNums_app, ← hq, hjk, Nat.zero_add]; rfl)
              have hj0 : (0 : Int) ≤ (j : Int) := Int.natCast_nonneg _
              have hj1 : (j : Int) < (r.length : Int) := by omega
              clear hst hjk hq
              generalize r[j] = n at *
              obtain ⟨B, hB⟩ : ∃ B, B = decide (12 < n.1 ∨ n.1 < -12) := ⟨_, rfl⟩
              have HB := hide hB
              clear hB
              go_upto_region 16 with fail
              go_cut [73] (fun t wx => wx = wr.alloc (.cells #[.int .i64 n.1, .int .i64 n.2] 83) ∧ t = .bool B)
              case first =>
                by_cases h1 : 12 < n.1
                · have HBv := hide (show B = true by rw [HB.out]; simp [h1])
                  go_wp2_with fail
                  go_meet
                  case rel => exact ⟨rfl, by rw [HBv.out]⟩
                · have HBv := hide (show B = decide (n.1 < -12) by rw [HB.out]; simp [h1])
                  go_wp2_with fail
                  go_meet
                  case rel => exact ⟨rfl, by rw [HBv.out]⟩
              case rest =>
                obtain ⟨rfl, rfl⟩ := hcut
                obtain ⟨S, hS⟩ : ∃ S, wSide n q = S := ⟨_, rfl⟩
                rw [hS] at Hst
                have HS := hide hS
                clear hS
                go_upto_if 73 with fail
                go_cut [4, 5] (fun e5 a5 wx => wx = wr.alloc (.cells #[.int .i64 n.1, .int .i64 n.2] 83) ∧ e5 = .int .i64 S.1 ∧ a5 = .int .i64 S.2)
                case first =>
                  cases hBc : B with
                  | false =>
                    have hBf : ¬ (12 < n.1 ∨ n.1 < -12) := by have hd := HB.out; rw [hBc] at hd; exact of_decide_eq_false hd.symm
                    have HSv := hide (show S = q by rw [← HS.out, wSide, if_neg (fun h => hBf h.1)])
                    clear hBf
                    subst hBc
                    go_wp2_with fail
                    go_meet
                    case rel => exact ⟨rfl, by rw [HSv.out], by rw [HSv.out]⟩
                  | true =>
                    have hBf : (12 < n.1 ∨ n.1 < -12) := by have hd := HB.out; rw [hBc] at hd; exact of_decide_eq_true hd.symm
                    subst hBc
                    by_cases h3 : q.1 = 0
                    · have HSv := hide (show S = (5, n.2) by rw [← HS.out, wSide, if_pos ⟨hBf, Or.inl h3⟩])
                      have h3b : (q.1 == 0) = true := by simpa using h3
                      clear hBf h3
                      go_wp2_with fail
                      go_meet
                      case rel => exact ⟨rfl, by rw [HSv.out], by rw [HSv.out]⟩
                    · have h3b : (q.1 == 0) = false := by simpa using h3
                      by_cases h4 : n.2 < q.2
                      · have HSv := hide (show S = (5, n.2) by rw [← HS.out, wSide, if_pos ⟨hBf, Or.inr (Or.inl h4)⟩])
                        clear hBf h3
                        go_wp2_with fail
                        go_meet
                        case rel => exact ⟨rfl, by rw [HSv.out], by rw [HSv.out]⟩
                      · by_cases h5 : n.2 = q.2
                        · have h5b : (n.2 == q.2) = true := by simpa using h5
                          by_cases h6 : q.1 = 5
                          · have h6b : (q.1 == 5) = true := by simpa using h6
                            have HSv := hide (show S = q by rw [← HS.out, wSide, if_neg (by omega)])
                            clear hBf h3 h5 h6
                            go_wp2_with fail
                            go_meet
                            case rel => exact ⟨rfl, by rw [HSv.out], by rw [HSv.out]⟩
                          · have h6b : (q.1 == 5) = false := by simpa using h6
                            have HSv := hide (show S = (5, n.2) by rw [← HS.out, wSide, if_pos ⟨hBf, Or.inr (Or.inr ⟨h5, h6⟩)⟩])
                            clear hBf h3 h5 h6
                            go_wp2_with fail
                            go_meet
                            case rel => exact ⟨rfl, by rw [HSv.out], by rw [HSv.out]⟩
                        · have h5b : (n.2 == q.2) = false := by simpa using h5
                          have HSv := hide (show S = q by rw [← HS.out, wSide, if_neg (by omega)])
                          clear hBf h3 h5
                          go_wp2_with fail
                          go_meet
                          case rel => exact ⟨rfl, by rw [HSv.out], by rw [HSv.out]⟩
                case rest =>
                  obtain ⟨rfl, rfl, rfl⟩ := hcut
                  have Hw6 := hide (show Below w.heap.size w (wr.alloc (.cells #[.int .i64 n.1, .int .i64 n.2] 83)) from hw5.alloc hw5.size _)
                  clear p0 p1 hs5 hw5 HB HS
                  by_cases h12 : j = 12
                  · subst h12
                    by_cases h3 : S.1 = 0
                    · have h3b : (S.1 == 0) = true := by simpa using h3
                      have HN := hide (show wMany 12 n S = (3, n.2) by rw [wMany, if_pos ⟨rfl, Or.inl h3⟩])
                      clear h3
                      go_wp2
                      go_roundw
                      case rel => exact ⟨12 + 1, (3, n.2), rfl, rfl, by go_num, by omega, Hw6.out, by rw [Hst.out, HN.out]⟩
                      case measure => simp [intOf]; omega
                    · have h3b : (S.1 == 0) = false := by simpa using h3
                      by_cases h4 : n.2 < S.2
                      · have HN := hide (show wMany 12 n S = (3, n.2) by rw [wMany, if_pos ⟨rfl, Or.inr h4⟩])
                        clear h3
                        go_wp2
                        go_roundw
                        case rel => exact ⟨12 + 1, (3, n.2), rfl, rfl, by go_num, by omega, Hw6.out, by rw [Hst.out, HN.out]⟩
                        case measure => simp [intOf]; omega
                      · have HN := hide (show wMany 12 n S = S by rw [wMany, if_neg (by omega)])
                        clear h3
                        go_wp2
                        go_roundw
                        case rel => exact ⟨12 + 1, S, rfl, rfl, by go_num, by omega, Hw6.out, by rw [Hst.out, HN.out]⟩
                        case measure => simp [intOf]; omega
                  · have h12b : ((j : Int) == 12) = false := by simp; omega
                    have HN := hide (show wMany j n S = S by rw [wMany, if_neg (fun h => h12 h.1)])
                    clear h12
                    go_wp2
                    go_roundw
                    case rel => exact ⟨j + 1, S, rfl, rfl, by go_num, by omega, Hw6.out, by rw [Hst.out, HN.out]⟩
                    case measure => simp [intOf]; omega
            · obtain rfl : j = r.length := by omega
              rw [List.take_of_length_le (Nat.le_refl _)] at hq
              have Hw5 := hide hw5
              rw [← hq] at HF2
              clear hw5 hq
              go_wp2
              go_roundw
              case rel => exact ⟨k + 1, q.1, q.2, rfl, rfl, by go_num, by omega, Hw5.out, HF2.out⟩
              case measure => simp [intOf]; omega
    · have hF2 := hw.out.2
      have hw1 := hw.out.1
      rw [List.drop_eq_nil_of_le (by omega)] at hF2
      have HF2 : Hid ((ev, av) = F) := hF2
      have Hw := hide hw1
      clear hF2 hw1 hw
      go_wp2
      go_ret2
      exact ⟨by rw [← HF2.out]; rfl, Hw.out⟩

end Go.Proofs.YtkjlkbgdkdcboaaGreatDoor

namespace Go.Proofs.YtkjlkbgdkdcboaaGreatDoor
open Go.RowKit
attribute [local go_sem ↓] Go.wp_at_zero Go.wp_at_succ

/-- points of numbers, two each -/
def prOf : List (Int × Int) → List Acre.Pt
  | a :: b :: r => (a.1, b.1) :: prOf r
  | _ => []
theorem prOf_len : ∀ r : List (Int × Int), (prOf r).length = r.length / 2
  | [] => rfl
  | [_] => by simp [prOf]
  | a :: b :: r => by simp only [prOf, List.length_cons, prOf_len r]; omega
theorem prOf_get : ∀ (r : List (Int × Int)) (j : Nat) (h : 2 * j + 1 < r.length) (h' : j < (prOf r).length), (prOf r)[j] = (r[2 * j].1, r[2 * j + 1].1)
  | [], j, h, h' => by simp at h
  | [_], j, h, h' => by simp at h
  | a :: b :: r, 0, h, h' => rfl
  | a :: b :: r, j + 1, h, h' => by
    have e := prOf_get r j (by simp at h; omega) (by simp [prOf] at h'; exact h')
    simp only [prOf, List.getElem_cons_succ, e]
    have e1 : 2 * (j + 1) = 2 * j + 1 + 1 := by omega
    simp only [e1, List.getElem_cons_succ]

theorem pointL_len (s : ByteArray) (i : Nat) (bad : Int) : (pointL s i bad).length = 2 := rfl
theorem rowF_len (s : ByteArray) : ∀ (n i : Nat) (bad : Int), (rowF s n i bad).1.length ≤ 2 * n ∧ (0 < n → 2 ≤ (rowF s n i bad).1.length)
  | 0, i, bad => by simp [rowF]
  | n + 1, i, bad => by
    rw [rowF]
    have h := rowF_len s n ((pointE s i bad).1 + 1) (pointE s i bad).2
    split
    · simp only [List.length_append, pointL_len]; omega
    · simp only [pointL_len]; omega
theorem ringsF_inv (s : ByteArray) : ∀ (n i : Nat) (bad : Int), (ringsF s n i bad).1.length ≤ n ∧ ∀ r ∈ (ringsF s n i bad).1, r ≠ [] ∧ r.length ≤ 2 * (s.size + 1)
  | 0, i, bad => by simp [ringsF]
  | n + 1, i, bad => by
    rw [ringsF]
    have hr := rowF_len s (s.size + 1) i bad
    have hr2 : (rowF s (s.size + 1) i bad).1 ≠ [] := fun e => by rw [e] at hr; simp at hr
    have h := ringsF_inv s n ((rowF s (s.size + 1) i bad).2.1 + 1) (rowF s (s.size + 1) i bad).2.2
    split
    · refine ⟨by simp only [List.length_cons]; omega, fun r hm => ?_⟩
      rcases List.mem_cons.1 hm with e | e
      · rw [e]; exact ⟨hr2, hr.1⟩
      · exact h.2 r e
    · refine ⟨by simp, fun r hm => ?_⟩
      rw [List.mem_singleton.1 hm]; exact ⟨hr2, hr.1⟩
theorem ringsP_inv (s : ByteArray) : (ringsP s).1.length ≤ s.size + 1 ∧ ∀ r ∈ (ringsP s).1, r ≠ [] ∧ r.length ≤ 2 * (s.size + 1) := by
  unfold ringsP
  split
  · simp
  · exact ringsF_inv s (s.size + 1) 0 (-1)

/-- what the document's Read answers -/
def rreadP (s : ByteArray) : List (List Acre.Pt) × Int × Int :=
  if 120 < s.size then ([], 1, 0)
  else if 0 ≤ (ringsP s).2 then ([], 2, (ringsP s).2)
  else if (wRings 0 (ringsP s).1 (0, 0)).1 = 0 then ((ringsP s).1.map prOf, 0, 0)
  else ([], (wRings 0 (ringsP s).1 (0, 0)).1, (wRings 0 (ringsP s).1 (0, 0)).2)

def RReadPost (s : ByteArray) (w : World) (e : Ending) (w' : World) : Prop :=
  ∃ u, e = .returned (.tuple #[u, .int .i64 (rreadP s).2.1, .int .i64 (rreadP s).2.2]) ∧ Rings w' u (rreadP s).1 ∧ Below w.heap.size w w'

theorem rings_nil (w : World) : Rings w (.slice none 0 0) [] := ⟨none, 0, 0, 0, rfl, fun k => absurd k (by simp), fun i hi => absurd hi (by simp)⟩

set_option maxRecDepth 100000 in
set_option maxHeartbeats 4000000 in
theorem rread_ok (s : ByteArray) (w : World) (hl : ¬ 120 < s.size) (hb : ¬ 0 ≤ (ringsP s).2) (hz : (wRings 0 (ringsP s).1 (0, 0)).1 = 0) : Calls Tryz.prog 16 #[.string s] w (RReadPost s w) := by
  have HP := hide (show rreadP s = ((ringsP s).1.map prOf, 0, 0) by rw [rreadP, if_neg hl, if_neg hb, if_pos hz])
  have hl' : ¬ (120 : Int) < (s.size : Int) := by omega
  obtain ⟨hi1, hi2⟩ := ringsP_inv s
  have K1 := hide (rings_any s w (by omega))
  have K2 := hide (fun W v hv => wrong_any (ringsP s).1 v W hv (fun r hr => (hi2 r hr).1) (by omega) (fun r hr => by have := (hi2 r hr).2; omega))
  rw [hz] at K2
  obtain ⟨R, hR⟩ : ∃ R, (ringsP s).1 = R := ⟨_, rfl⟩
  have hm : ∀ r ∈ R, r.length ≤ 10000 := fun r hr => by rw [← hR] at hr; have := (hi2 r hr).2; omega
  have hn : R.length ≤ 10000 := by rw [← hR]; omega
  rw [hR] at HP K1 K2
  clear hi1 hi2 hz hR
  generalize (wRings 0 R (0, 0)).2 = wa at *
  generalize (ringsP s).2 = bd at *
  obtain ⟨Q, hQ⟩ : ∃ Q, R.map prOf = Q := ⟨_, rfl⟩
  have hQl : Q.length = R.length := by rw [← hQ, List.length_map]
  have hQk : ∀ k (h : k < R.length) (h' : k < Q.length), Q[k] = prOf R[k] := fun k h h' => by subst hQ; simp
  rw [hQ] at HP
  clear hQ
  obtain ⟨i0, hi, hz0, hz1, hz2⟩ := info_parts info51
  obtain ⟨i1, hi1, hy0, hy1, hy2⟩ := info_parts info66
  go_enter Tryz.func16, Tryz.ntmps16
  go_wp2_with fail
  refine K1.out.mono ?_
  rintro e wa1 ⟨v, rfl, hv, hbv⟩
  have Hv := hide hv
  clear hv
  go_wp2_with fail
  refine (K2.out wa1 v Hv.out).mono ?_
  rintro e wb ⟨rfl, hbw2⟩
  have hvb := Hv.out.later hbw2
  have HB := hide (below_call hbw2 hbv)
  clear K1 K2 Hv hbw2 hbv
  obtain ⟨ga, b, off, cap, rfl, hga, hcs⟩ := hvb
  go_wp2
  go_loopw [9, 10] (fun l i wr => ∃ k : Nat, i = .int .i64 k ∧ k ≤ R.length ∧ Hid (Copied wr wb.heap.size l (Q.take k) ∧ Below wb.heap.size wb wr)) (fun _ i _ => R.length - (intOf i).toNat)
  case atStart => exact ⟨0, rfl, Nat.zero_le _, ⟨[], rfl, by simp, World.ownsRow_nil _ _ _ _, fun i h _ => by simp at h⟩, Below.refl _ _⟩
  case round =>
    obtain ⟨k, rfl, hk, hr⟩ := hrel
    by_cases hlt : k < R.length
    · obtain ⟨o1, hw⟩ := hr.out
      obtain rfl := hga (by omega)
      obtain ⟨s1, hs, hring⟩ := hcs k hlt
      have hml := hm R[k] (List.getElem_mem hlt)
      obtain ⟨ra, rb, roff, rcap, rfl, hra, hpts0⟩ := hring
      have htk : Q.take (k + 1) = Q.take k ++ [prOf R[k]] := by rw [List.take_succ_eq_append_getElem (show k < Q.length by omega), hQk k hlt (by omega)]
      obtain ⟨r, hrr⟩ : ∃ r, R[k] = r := ⟨_, rfl⟩
      rw [hrr] at hs hml hra hpts0 htk
      have Htk : Hid _ := htk
      have Ho1 : Hid (Copied wr wb.heap.size u9 (Q.take k)) := o1
      have hbw : b < wb.heap.size := World.block_lt_of_cell? _ _ hs
      have hsW := hw.size
      have Hpl := hide (prOf_len r)
      clear htk hrr hr o1
      obtain ⟨WO, hWO⟩ : ∃ WO, WO = wr := ⟨_, rfl⟩
      subst hWO
      go_wp2
      go_loopw [11, 12] (fun q i w2 => ∃ j m : Nat, i = .int .i64 (m : Int) ∧ m = 2 * j ∧ j ≤ (prOf r).length ∧ Hid (w2.ownsRow WO.heap.size 84 2 q j (flat ((prOf r).take j)) ∧ Below WO.heap.size WO w2)) (fun _ i _ => r.length + 2 - (intOf i).toNat)
      case atStart => exact ⟨0, 0, rfl, rfl, Nat.zero_le _, World.ownsRow_nil _ _ _ _, Below.refl _ _⟩
      case round =>
        obtain ⟨j, m, rfl, hmj, hj, hr2⟩ := hrel
        obtain ⟨o2, hw2⟩ := hr2.out
        have hww : Below wb.heap.size wb wr := below_call hw2 hw
        have hs2 := cell_later hww hs
        have lbb : b < wr.heap.size := World.block_lt_of_cell? _ _ hs2
        have hk0 : (0 : Int) ≤ (k : Int) := Int.natCast_nonneg _
        have hk1 : (k : Int) < (R.length : Int) := by omega
        by_cases hjl : m + 1 < r.length
        · have hjp : j < (prOf r).length := by have := Hpl.out; omega
          obtain ⟨rfl, hrb⟩ := hra (by omega)
          obtain ⟨p0, p1⟩ := (hpts0.later hww) m (by omega)
          obtain ⟨p2, p3⟩ := (hpts0.later hww) (m + 1) hjl
          have hst : (prOf r).take (j + 1) = (prOf r).take j ++ [(r[m].1, r[m + 1].1)] := by
            rw [List.take_succ_eq_append_getElem hjp, prOf_get r j (by omega) hjp]
            simp only [hmj]
          have Hst : Hid _ := hst
          clear hst p1 p3
          generalize r[m].1 = x0 at *
          generalize r[m + 1].1 = x1 at *
          have lb : rb < wr.heap.size := World.block_lt_of_cell? _ _ p0
          have hu : ∀ c, u11.ownBlock = some c → WO.heap.size ≤ c ∧ c < wr.heap.size := o2.lt
          have av : u11.ownBlock ≠ some b := fun e => by have := hu _ e; omega
          have ak : u11.ownBlock ≠ some rb := fun e => by have := hu _ e; omega
          have hj2 : (0 : Int) ≤ (m : Int) := by omega
          have hj3 : (m : Int) < (r.length : Int) := by omega
          have hj4 : (m : Int) + 1 < (r.length : Int) := by omega
          have hj5 : (0 : Int) ≤ (m : Int) + 1 := by omega
          have hsum : IntKind.i64.wrap ((m : Int) + 1) = (m : Int) + 1 := wrap_in _ (by omega)
          have hmb := hide hmj
          clear hmj
          go_wp2_with fail
          go_region_held3 (fun w' => w'.cell? ⟨b, off + k, none⟩ = some (.slice (some ⟨rb, roff, none⟩) r.length rcap) ∧ w'.cell? ⟨rb, roff + m * 2, none⟩ = some (.int .i64 x0) ∧ w'.cell? ⟨rb, roff + (m + 1) * 2, none⟩ = some (.int .i64 x1))
            (first
              | go_keep
              | (go_split_ands
                 refine ⟨?_, ?_, ?_⟩
                 · (rw [hgrow.cell_far _ (Nat.lt_trans lbb (by simp)) (Ne.symm av)]; assumption)
                 · (rw [hgrow.cell_far _ (Nat.lt_trans lb (by simp)) (Ne.symm ak)]; assumption)
                 · (rw [hgrow.cell_far _ (Nat.lt_trans lb (by simp)) (Ne.symm ak)]; assumption)))
            ((refine step_append_lies _ (by rfl) _ _ _ (by rfl) WO.heap.size 84 i0 _ 2 16 Tryz.underlying80 hi hz0 hz1 hz2 rfl (by omega) u11 j (flat ((prOf r).take j)) (by rfl) ((o2.alloc _).drew)
                ⟨wr.heap.size, 0, none⟩ 1 1 [.int .i64 x0, .int .i64 x1] (by rfl) (by rfl) (World.news_of_block (cs := #[.int .i64 x0, .int .i64 x1]) (t := 84) (fr := (0, 0)) (heap_alloc_new wr _)) (by simp [Value.oneCell'])
                (by omega) (by unfold maxLen; have := Hpl.out; omega) (by have := Hpl.out; omega) (by have := hw2.size; simp; omega) (wr.heap.size + 1) (by simp) ?_; intro gg cap' w1 hown1 hgrow hat hlt'))
          have n1 : w1.ownsRow WO.heap.size 84 2 (.slice (some ⟨gg, 0, none⟩) (j + 1) cap') (j + 1) (flat ((prOf r).take (j + 1))) := by
            rw [Hst.out, flat_app]; exact hown1
          have n2 : Below WO.heap.size WO w1 := (Below.drew (hw2.alloc hw2.size _)).grown hgrow (by have := hw2.size; simp; omega) (fun c hc => (hu c hc).1)
          have NN : Hid (w1.ownsRow WO.heap.size 84 2 (.slice (some ⟨gg, 0, none⟩) (j + 1) cap') (j + 1) (flat ((prOf r).take (j + 1))) ∧ Below WO.heap.size WO w1) := ⟨n1, n2⟩
          clear n1 n2 hown1 hgrow
          go_wp2
          go_roundw
          case rel => exact ⟨j + 1, m + 2, by go_num, by have := hmb.out; omega, by omega, NN⟩
          case measure => simp [intOf]; omega
        · obtain rfl : j = (prOf r).length := by have := Hpl.out; omega
          rw [List.take_of_length_le (Nat.le_refl _)] at o2
          obtain ⟨vs, v1, v2, v3, v4⟩ := Ho1.out
          have hkl : (Q.take k).length = k := by rw [List.length_take]; omega
          rw [hkl] at v1 v3
          have v3' := row_call v3 hw2
          have hlo : ∀ c, u9.ownBlock = some c → c < WO.heap.size := fun c hc => (v3.lt c hc).2
          have hnew : RingC wr u9 u11 (prOf r) := RingC.row o2 hlo
          have Hnew : Hid (RingC wr u9 u11 (prOf r)) := hnew
          have Hv4 : Hid (∀ i (h : i < (Q.take k).length) (h' : i < vs.length), RingC wr u9 vs[i] (Q.take k)[i]) := fun i h h' => (v4 i h h').below hw2
          have Hv2 : Hid _ := v2
          have hform : ∃ ga5 cap5, u11 = .slice ga5 (prOf r).length cap5 := by
            rcases o2.2 with ⟨rfl, h0⟩ | ⟨g, cap, cur, rfl, _⟩
            · exact ⟨none, 0, by rw [h0]⟩
            · exact ⟨_, _, rfl⟩
          obtain ⟨ga5, cap5, rfl⟩ := hform
          have hm1 : ¬ (m : Int) + 1 < (r.length : Int) := by omega
          clear hnew v4 v2 v3
          have hPl : (prOf r).length ≤ 10000 := by have := Hpl.out; omega
          have hsum : IntKind.i64.wrap ((m : Int) + 1) = (m : Int) + 1 := wrap_in _ (by have := Hpl.out; omega)
          clear Hpl hmj
          generalize prOf r = P at *
          go_wp2_with (first
            | (at_builtin; refine wpList_append_own_at _ rfl _ _ 53 rfl wb.heap.size 80 i1 (.slice none 0 0) 1 24 Tryz.underlying53 hi1 hy0 hy1 hy2 rfl (by decide) _ _ _ rfl (v3'.alloc _) ⟨wr.heap.size, 0, none⟩ 1 1 [.slice ga5 P.length cap5] rfl rfl (cell_one_new _ _ _) ?_ ?_ ?_ ?_ ?_)
            | go_in)
          · rfl
          · unfold maxLen; omega
          · omega
          · have := hww.size; simp; omega
          · intro v' w' hown hgrow hne hob
            have n0 : Below wb.heap.size wb w' := (hww.alloc hww.size _).grown hgrow (by have := hww.size; simp; omega) (fun c hc => (v3'.lt c hc).1)
            have n1 : Copied w' wb.heap.size v' (Q.take (k + 1)) := by
              rw [Htk.out]
              refine ⟨vs ++ [.slice ga5 P.length cap5], by simp [v1, hkl], ?_, ?_, ?_⟩
              · intro u hu
                rcases List.mem_append.1 hu with h | h
                · exact Hv2.out u h
                · rw [List.mem_singleton.1 h]; rfl
              · have : (Q.take k ++ [P]).length = k + 1 := by simp [hkl]
                rw [this]; exact hown
              · have hal : Below wr.heap.size wr (wr.alloc (.cells #[.slice ga5 P.length cap5] 80)) := (Below.refl _ _).alloc (Nat.le_refl _) _
                intro i h h'
                have hi' : i < k + 1 := by simpa [hkl] using h
                by_cases hik : i < k
                · have e1 : (vs ++ [Value.slice ga5 P.length cap5])[i] = vs[i]'(by omega) := List.getElem_append_left (by omega)
                  have e2 : (Q.take k ++ [P])[i] = (Q.take k)[i]'(by omega) := List.getElem_append_left (by omega)
                  rw [e1, e2]
                  exact ((Hv4.out i (by omega) (by omega)).below hal).append hgrow hob (by simp)
                · obtain rfl : i = k := by omega
                  have e1 : (vs ++ [Value.slice ga5 P.length cap5])[i] = Value.slice ga5 P.length cap5 := by
                    rw [List.getElem_append_right (by omega)]; simp [v1]
                  have e2 : (Q.take i ++ [P])[i] = P := by
                    rw [List.getElem_append_right (by omega)]; simp [hkl]
                  rw [e1, e2]
                  exact (Hnew.out.below hal).append hgrow hob (by simp)
            have NN : Hid (Copied w' wb.heap.size v' (Q.take (k + 1)) ∧ Below wb.heap.size wb w') := ⟨n1, n0⟩
            clear n0 n1 hown hgrow
            go_wp2
            go_roundw
            case rel => exact ⟨k + 1, by go_num, by omega, NN⟩
            case measure => simp [intOf]; omega
    · obtain rfl : k = R.length := by omega
      obtain ⟨o1, hw⟩ := hr.out
      rw [List.take_of_length_le (by omega)] at o1
      have Ho1 := hide o1.rings
      have Hw := hide (below_call hw HB.out)
      have hform : ∃ ga n cap, u9 = .slice ga n cap := by
        obtain ⟨ga, b, off, cap, rfl, _⟩ := o1.rings
        exact ⟨_, _, _, rfl⟩
      obtain ⟨ga1, n1, cap1, rfl⟩ := hform
      clear o1 hw hr
      go_wp2
      refine bodyPost_ret (v := .tuple #[.slice ga1 n1 cap1, .int .i64 0, .int .i64 0]) (by simp [results, Tryz.results16, go_sem]) rfl ⟨.slice ga1 n1 cap1, ?_, ?_, Hw.out⟩
      · rw [HP.out]
      · rw [HP.out]; exact Ho1.out

set_option maxHeartbeats 1000000 in
theorem rread_any (s : ByteArray) (w : World) : Calls Tryz.prog 16 #[.string s] w (RReadPost s w) := by
  by_cases hl : 120 < s.size
  · have HP := hide (show rreadP s = ([], 1, 0) by rw [rreadP, if_pos hl])
    have hl' : (120 : Int) < (s.size : Int) := by omega
    go_enter Tryz.func16, Tryz.ntmps16
    go_wp2
    refine bodyPost_ret (v := .tuple #[.slice none 0 0, .int .i64 1, .int .i64 0]) (by simp [results, Tryz.results16, go_sem]) rfl ⟨.slice none 0 0, ?_, ?_, Below.refl _ _⟩
    · rw [HP.out]
    · rw [HP.out]; exact rings_nil _
  · have hl' : ¬ (120 : Int) < (s.size : Int) := by omega
    by_cases hb : 0 ≤ (ringsP s).2
    · have HP := hide (show rreadP s = ([], 2, (ringsP s).2) by rw [rreadP, if_neg hl, if_pos hb])
      have K1 := hide (rings_any s w (by omega))
      generalize (ringsP s).2 = bd at *
      go_enter Tryz.func16, Tryz.ntmps16
      go_wp2_with fail
      refine K1.out.mono ?_
      rintro e w1 ⟨v, rfl, hv, hbv⟩
      clear hv
      go_wp2
      refine bodyPost_ret (v := .tuple #[.slice none 0 0, .int .i64 2, .int .i64 bd]) (by simp [results, Tryz.results16, go_sem]) rfl ⟨.slice none 0 0, ?_, ?_, hbv⟩
      · rw [HP.out]
      · rw [HP.out]; exact rings_nil _
    · by_cases hz : (wRings 0 (ringsP s).1 (0, 0)).1 = 0
      · exact rread_ok s w hl hb hz
      · have HP := hide (show rreadP s = ([], (wRings 0 (ringsP s).1 (0, 0)).1, (wRings 0 (ringsP s).1 (0, 0)).2) by rw [rreadP, if_neg hl, if_neg hb, if_neg hz])
        obtain ⟨hi1, hi2⟩ := ringsP_inv s
        have K1 := hide (rings_any s w (by omega))
        have K2 := hide (fun W v hv => wrong_any (ringsP s).1 v W hv (fun r hr => (hi2 r hr).1) (by omega) (fun r hr => by have := (hi2 r hr).2; omega))
        generalize (wRings 0 (ringsP s).1 (0, 0)).1 = we at *
        generalize (wRings 0 (ringsP s).1 (0, 0)).2 = wa at *
        generalize (ringsP s).2 = bd at *
        have hzb : (we == 0) = false := by simpa using hz
        clear hz hi1 hi2
        go_enter Tryz.func16, Tryz.ntmps16
        go_wp2_with fail
        refine K1.out.mono ?_
        rintro e w1 ⟨v, rfl, hv, hbv⟩
        have Hv := hide hv
        clear hv
        go_wp2_with fail
        refine (K2.out w1 v Hv.out).mono ?_
        rintro e w2 ⟨rfl, hb2⟩
        go_wp2
        refine bodyPost_ret (v := .tuple #[.slice none 0 0, .int .i64 we, .int .i64 wa]) (by simp [results, Tryz.results16, go_sem]) rfl ⟨.slice none 0 0, ?_, ?_, below_call hb2 hbv⟩
        · rw [HP.out]
        · rw [HP.out]; exact rings_nil _

end Go.Proofs.YtkjlkbgdkdcboaaGreatDoor

