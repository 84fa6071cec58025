import Derived.Test.YtkjlkbgdkdcboaaPen5
import Derived.Deep.DeepCutAuto
namespace Go.Proofs.Ytkjlkbgdkdcboaa
open Go.RowKit
attribute [local go_sem ↓] Go.wp_at_zero Go.wp_at_succ

/-- a number that is too far out -/
def wSide (n p : Int × Int) : Int × Int := if (12 < n.1 ∨ n.1 < -12) ∧ (p.1 = 0 ∨ n.2 < p.2 ∨ (n.2 = p.2 ∧ p.1 ≠ 5)) then (5, n.2) else p
/-- a point too many -/
def wMany (k : Nat) (n p : Int × Int) : Int × Int := if k = 12 ∧ (p.1 = 0 ∨ n.2 < p.2) then (3, n.2) else p
def wNums : Nat → List (Int × Int) → Int × Int → Int × Int
  | _, [], p => p
  | k, n :: r, p => wNums (k + 1) r (wMany k n (wSide n p))
/-- a ring too many, or with too few points -/
def wHead (i : Nat) (r : List (Int × Int)) (p : Int × Int) : Int × Int :=
  if (2 ≤ i ∨ r.length < 6) ∧ (p.1 = 0 ∨ (r.headD (0, 0)).2 < p.2) then (if 2 ≤ i then 3 else 4, (r.headD (0, 0)).2) else p
def wRings : Nat → List (List (Int × Int)) → Int × Int → Int × Int
  | _, [], p => p
  | i, r :: R, p => wRings (i + 1) R (wNums 0 r (wHead i r p))

theorem wNums_app (k : Nat) (a b : List (Int × Int)) (p : Int × Int) : wNums k (a ++ b) p = wNums (k + a.length) b (wNums k a p) := by
  induction a generalizing k p with
  | nil => rfl
  | cons x r ih => simp only [List.cons_append, wNums, ih, List.length_cons]; congr 1; omega

set_option maxRecDepth 100000 in
set_option maxHeartbeats 4000000 in
theorem wrong_any (R : List (List (Int × Int))) (v : Value) (w : World) (hR : Rings w v R) (hne : ∀ r ∈ R, r ≠ []) (hn : R.length ≤ 10000) (hm : ∀ r ∈ R, r.length ≤ 10000) :
    Calls Try.prog 22 #[v] w fun e w' => e = .returned (.tuple #[.int .i64 (wRings 0 R (0, 0)).1, .int .i64 (wRings 0 R (0, 0)).2]) ∧ Below w.heap.size w w' := by
  obtain ⟨ga, b, off, cap, rfl, hga, hcs⟩ := hR
  obtain ⟨F, hF⟩ : ∃ F, wRings 0 R (0, 0) = F := ⟨_, rfl⟩
  rw [hF]
  have HF := hide hF
  clear hF
  go_enter Try.func22, Try.ntmps22
  go_wp2
  go_loopw [4, 5, 6] (fun e a i wr => ∃ (k : Nat) (ev av : Int), e = .int .i64 ev ∧ a = .int .i64 av ∧ i = .int .i64 k ∧ k ≤ R.length ∧ Hid (Below w.heap.size w wr ∧ wRings k (R.drop k) (ev, av) = F)) (fun _ _ i _ => R.length - (intOf i).toNat)
  case atStart => exact ⟨0, 0, 0, rfl, rfl, rfl, Nat.zero_le _, Below.refl _ _, HF.out⟩
  case round =>
    obtain ⟨k, ev, av, rfl, rfl, rfl, hk, hw⟩ := hrel
    by_cases hlt : k < R.length
    · obtain rfl := hga (by omega)
      obtain ⟨s, hs, hring⟩ := hcs k hlt
      have hml := hm R[k] (List.getElem_mem hlt)
      have hnr := hne R[k] (List.getElem_mem hlt)
      have hdrop : R.drop k = R[k] :: R.drop (k + 1) := (List.getElem_cons_drop hlt).symm
      obtain ⟨ra, rb, roff, rcap, rfl, hra, hpts⟩ := hring
      have hw1 := hw.out.1
      have hF2 := hw.out.2
      rw [hdrop] at hF2
      generalize R[k] = r at *
      have HF2 := hide (show wRings (k + 1) (R.drop (k + 1)) (wNums 0 r (wHead k r (ev, av))) = F from hF2)
      clear hF2 hdrop
      have hrp : 0 < r.length := List.length_pos_iff.2 hnr
      obtain ⟨rfl, hrb⟩ := hra hrp
      obtain ⟨p0, p1⟩ := (hpts.later hw1) 0 hrp
      have hs' := cell_later hw1 hs
      have hhd : r.headD (0, 0) = r[0] := by cases r with | nil => exact absurd rfl hnr | cons a t => rfl
      have hH : wHead k r (ev, av) = if (2 ≤ k ∨ r.length < 6) ∧ (ev = 0 ∨ r[0].2 < av) then ((if 2 ≤ k then 3 else 4 : Int), r[0].2) else (ev, av) := by rw [wHead, hhd]
      have HH := hide hH
      clear hH hhd
      have hk0 : (0 : Int) ≤ (k : Int) := Int.natCast_nonneg _
      have hk1 : (k : Int) < (R.length : Int) := by omega
      have hr0 : (0 : Int) < (r.length : Int) := by omega
      simp only [Nat.zero_mul, Nat.add_zero] at p0 p1
      generalize r[0] = n0 at *
      have Hw := hide hw1
      have Hs := hide hs
      have Hpts := hide hpts
      clear hw hw1 hs hpts
      obtain ⟨D, hD⟩ : ∃ D, D = decide ((2 ≤ k ∨ r.length < 6) ∧ (ev = 0 ∨ n0.2 < av)) := ⟨_, rfl⟩
      have HD := hide hD
      clear hD
      obtain ⟨M, hM⟩ : ∃ M, M = decide ((2 : Int) ≤ (k : Int)) := ⟨_, rfl⟩
      have HM := hide hM
      clear hM
      go_upto_region 7 with fail
      go_cut [7, 41] (fun m t wc => wc = wr ∧ m = .bool M ∧ t = .bool D)
      case first =>
        by_cases h2 : 2 ≤ k
        · have h2' : (2 : Int) ≤ (k : Int) := by omega
          have HMv := hide (show M = true by rw [HM.out]; exact decide_eq_true h2')
          by_cases h3 : ev = 0
          · have HDv := hide (show D = true by rw [HD.out]; simp [h2, h3])
            subst h3
            go_wp2_with fail
            go_meet
            case rel => exact ⟨rfl, by rw [HMv.out], by rw [HDv.out]⟩
          · have h3b : (ev == 0) = false := by simpa using h3
            have HDv := hide (show D = decide (n0.2 < av) by rw [HD.out]; simp [h2, h3])
            clear h3
            go_wp2_with fail
            go_meet
            case rel => exact ⟨rfl, by rw [HMv.out], by rw [HDv.out]⟩
        · have h2' : ¬ (2 : Int) ≤ (k : Int) := by omega
          have HMv := hide (show M = false by rw [HM.out]; exact decide_eq_false h2')
          by_cases h6 : r.length < 6
          · have h6' : (r.length : Int) < 6 := by omega
            by_cases h3 : ev = 0
            · have HDv := hide (show D = true by rw [HD.out]; simp [h6, h3])
              subst h3
              go_wp2_with fail
              go_meet
              case rel => exact ⟨rfl, by rw [HMv.out], by rw [HDv.out]⟩
            · have h3b : (ev == 0) = false := by simpa using h3
              have HDv := hide (show D = decide (n0.2 < av) by rw [HD.out]; simp [h6, h3])
              clear h3
              go_wp2_with fail
              go_meet
              case rel => exact ⟨rfl, by rw [HMv.out], by rw [HDv.out]⟩
          · have h6' : ¬ (r.length : Int) < 6 := by omega
            have HDv := hide (show D = false by rw [HD.out]; simp [h6, h2])
            go_wp2_with fail
            go_meet
            case rel => exact ⟨rfl, by rw [HMv.out], by rw [HDv.out]⟩
      case rest =>
        obtain ⟨rfl, rfl, rfl⟩ := hcut
        obtain ⟨E, hE⟩ : ∃ E, wHead k r (ev, av) = E := ⟨_, rfl⟩
        rw [hE] at HF2 HH
        clear hE
        go_upto_if 41 with fail
        go_cut [4, 5, 7] (fun e5 a5 m wx => wx = wc ∧ m = .bool M ∧ e5 = .int .i64 E.1 ∧ a5 = .int .i64 E.2)
        case first =>
          cases hDc : D with
          | false =>
            have HE := hide (show E = (ev, av) by
              have hd := HD.out; rw [hDc] at hd
              rw [HH.out, if_neg (of_decide_eq_false hd.symm)])
            subst hDc
            go_wp2_with fail
            go_meet
            case rel => exact ⟨rfl, rfl, by rw [HE.out], by rw [HE.out]⟩
          | true =>
            have hE1 : E = ((if 2 ≤ k then 3 else 4 : Int), n0.2) := by
              have hd := HD.out; rw [hDc] at hd
              rw [HH.out, if_pos (of_decide_eq_true hd.symm)]
            subst hDc
            by_cases h2 : 2 ≤ k
            · have h2' : (2 : Int) ≤ (k : Int) := by omega
              have hMv : M = true := by rw [HM.out]; exact decide_eq_true h2'
              have HE := hide (show E = (3, n0.2) by rw [hE1, if_pos h2])
              clear hE1 HM
              subst hMv
              go_wp2_with fail
              go_meet
              case rel => exact ⟨rfl, rfl, by rw [HE.out], by rw [HE.out]⟩
            · have h2' : ¬ (2 : Int) ≤ (k : Int) := by omega
              have hMv : M = false := by rw [HM.out]; exact decide_eq_false h2'
              have HE := hide (show E = (4, n0.2) by rw [hE1, if_neg h2])
              clear hE1 HM
              subst hMv
              go_wp2_with fail
              go_meet
              case rel => exact ⟨rfl, rfl, by rw [HE.out], by rw [HE.out]⟩
        case rest =>
          obtain ⟨rfl, rfl, rfl, rfl⟩ := hcut
          clear p0 p1 HH HD hs'
          go_wp2_with fail
          go_loopw [4, 5, 8] (fun e a i wr => ∃ (j : Nat) (q : Int × Int), e = .int .i64 q.1 ∧ a = .int .i64 q.2 ∧ i = .int .i64 j ∧ j ≤ r.length ∧ Hid (Below w.heap.size w wr ∧ q = wNums 0 (r.take j) E)) (fun _ _ i _ => r.length - (intOf i).toNat)
          case atStart => exact ⟨0, E, rfl, rfl, rfl, Nat.zero_le _, Hw.out, rfl⟩
          case round =>
            obtain ⟨j, q, rfl, rfl, rfl, hj, hr2⟩ := hrel
            obtain ⟨hw5, hq⟩ := hr2.out
            have hs5 := cell_later hw5 Hs.out
            clear hr2 Hw
            by_cases hjl : j < r.length
            · obtain ⟨p0, p1⟩ := (Hpts.out.later hw5) j hjl
              have hst : r.take (j + 1) = r.take j ++ [r[j]] := List.take_succ_eq_append_getElem hjl
              have hjk : (r.take j).length = j := by rw [List.length_take]; omega
              have Hst := hide (show wNums 0 (r.take (j + 1)) E = wMany j r[j] (wSide r[j] q) by rw [hst, wNums_app, ← hq, hjk, Nat.zero_add]; rfl)
              have hj0 : (0 : Int) ≤ (j : Int) := Int.natCast_nonneg _
              have hj1 : (j : Int) < (r.length : Int) := by omega
              clear hst hjk hq
              generalize r[j] = n at *
              obtain ⟨B, hB⟩ : ∃ B, B = decide (12 < n.1 ∨ n.1 < -12) := ⟨_, rfl⟩
              have HB := hide hB
              clear hB
              go_upto_region 16 with fail
              go_cut [73] (fun t wx => wx = wr.alloc (.cells #[.int .i64 n.1, .int .i64 n.2] 69) ∧ t = .bool B)
              case first =>
                by_cases h1 : 12 < n.1
                · have HBv := hide (show B = true by rw [HB.out]; simp [h1])
                  go_wp2_with fail
                  go_meet
                  case rel => exact ⟨rfl, by rw [HBv.out]⟩
                · have HBv := hide (show B = decide (n.1 < -12) by rw [HB.out]; simp [h1])
                  go_wp2_with fail
                  go_meet
                  case rel => exact ⟨rfl, by rw [HBv.out]⟩
              case rest =>
                obtain ⟨rfl, rfl⟩ := hcut
                obtain ⟨S, hS⟩ : ∃ S, wSide n q = S := ⟨_, rfl⟩
                rw [hS] at Hst
                have HS := hide hS
                clear hS
                go_upto_if 73 with fail
                go_cut [4, 5] (fun e5 a5 wx => wx = wr.alloc (.cells #[.int .i64 n.1, .int .i64 n.2] 69) ∧ e5 = .int .i64 S.1 ∧ a5 = .int .i64 S.2)
                case first =>
                  cases hBc : B with
                  | false =>
                    have hBf : ¬ (12 < n.1 ∨ n.1 < -12) := by have hd := HB.out; rw [hBc] at hd; exact of_decide_eq_false hd.symm
                    have HSv := hide (show S = q by rw [← HS.out, wSide, if_neg (fun h => hBf h.1)])
                    clear hBf
                    subst hBc
                    go_wp2_with fail
                    go_meet
                    case rel => exact ⟨rfl, by rw [HSv.out], by rw [HSv.out]⟩
                  | true =>
                    have hBf : (12 < n.1 ∨ n.1 < -12) := by have hd := HB.out; rw [hBc] at hd; exact of_decide_eq_true hd.symm
                    subst hBc
                    by_cases h3 : q.1 = 0
                    · have HSv := hide (show S = (5, n.2) by rw [← HS.out, wSide, if_pos ⟨hBf, Or.inl h3⟩])
                      have h3b : (q.1 == 0) = true := by simpa using h3
                      clear hBf h3
                      go_wp2_with fail
                      go_meet
                      case rel => exact ⟨rfl, by rw [HSv.out], by rw [HSv.out]⟩
                    · have h3b : (q.1 == 0) = false := by simpa using h3
                      by_cases h4 : n.2 < q.2
                      · have HSv := hide (show S = (5, n.2) by rw [← HS.out, wSide, if_pos ⟨hBf, Or.inr (Or.inl h4)⟩])
                        clear hBf h3
                        go_wp2_with fail
                        go_meet
                        case rel => exact ⟨rfl, by rw [HSv.out], by rw [HSv.out]⟩
                      · by_cases h5 : n.2 = q.2
                        · have h5b : (n.2 == q.2) = true := by simpa using h5
                          by_cases h6 : q.1 = 5
                          · have h6b : (q.1 == 5) = true := by simpa using h6
                            have HSv := hide (show S = q by rw [← HS.out, wSide, if_neg (by omega)])
                            clear hBf h3 h5 h6
                            go_wp2_with fail
                            go_meet
                            case rel => exact ⟨rfl, by rw [HSv.out], by rw [HSv.out]⟩
                          · have h6b : (q.1 == 5) = false := by simpa using h6
                            have HSv := hide (show S = (5, n.2) by rw [← HS.out, wSide, if_pos ⟨hBf, Or.inr (Or.inr ⟨h5, h6⟩)⟩])
                            clear hBf h3 h5 h6
                            go_wp2_with fail
                            go_meet
                            case rel => exact ⟨rfl, by rw [HSv.out], by rw [HSv.out]⟩
                        · have h5b : (n.2 == q.2) = false := by simpa using h5
                          have HSv := hide (show S = q by rw [← HS.out, wSide, if_neg (by omega)])
                          clear hBf h3 h5
                          go_wp2_with fail
                          go_meet
                          case rel => exact ⟨rfl, by rw [HSv.out], by rw [HSv.out]⟩
                case rest =>
                  obtain ⟨rfl, rfl, rfl⟩ := hcut
                  have Hw6 := hide (show Below w.heap.size w (wr.alloc (.cells #[.int .i64 n.1, .int .i64 n.2] 69)) from hw5.alloc hw5.size _)
                  clear p0 p1 hs5 hw5 HB HS
                  by_cases h12 : j = 12
                  · subst h12
                    by_cases h3 : S.1 = 0
                    · have h3b : (S.1 == 0) = true := by simpa using h3
                      have HN := hide (show wMany 12 n S = (3, n.2) by rw [wMany, if_pos ⟨rfl, Or.inl h3⟩])
                      clear h3
                      go_wp2
                      go_roundw
                      case rel => exact ⟨12 + 1, (3, n.2), rfl, rfl, by go_num, by omega, Hw6.out, by rw [Hst.out, HN.out]⟩
                      case measure => simp [intOf]; omega
                    · have h3b : (S.1 == 0) = false := by simpa using h3
                      by_cases h4 : n.2 < S.2
                      · have HN := hide (show wMany 12 n S = (3, n.2) by rw [wMany, if_pos ⟨rfl, Or.inr h4⟩])
                        clear h3
                        go_wp2
                        go_roundw
                        case rel => exact ⟨12 + 1, (3, n.2), rfl, rfl, by go_num, by omega, Hw6.out, by rw [Hst.out, HN.out]⟩
                        case measure => simp [intOf]; omega
                      · have HN := hide (show wMany 12 n S = S by rw [wMany, if_neg (by omega)])
                        clear h3
                        go_wp2
                        go_roundw
                        case rel => exact ⟨12 + 1, S, rfl, rfl, by go_num, by omega, Hw6.out, by rw [Hst.out, HN.out]⟩
                        case measure => simp [intOf]; omega
                  · have h12b : ((j : Int) == 12) = false := by simp; omega
                    have HN := hide (show wMany j n S = S by rw [wMany, if_neg (fun h => h12 h.1)])
                    clear h12
                    go_wp2
                    go_roundw
                    case rel => exact ⟨j + 1, S, rfl, rfl, by go_num, by omega, Hw6.out, by rw [Hst.out, HN.out]⟩
                    case measure => simp [intOf]; omega
            · obtain rfl : j = r.length := by omega
              rw [List.take_of_length_le (Nat.le_refl _)] at hq
              have Hw5 := hide hw5
              rw [← hq] at HF2
              clear hw5 hq
              go_wp2
              go_roundw
              case rel => exact ⟨k + 1, q.1, q.2, rfl, rfl, by go_num, by omega, Hw5.out, HF2.out⟩
              case measure => simp [intOf]; omega
    · have hF2 := hw.out.2
      have hw1 := hw.out.1
      rw [List.drop_eq_nil_of_le (by omega)] at hF2
      have HF2 : Hid ((ev, av) = F) := hF2
      have Hw := hide hw1
      clear hF2 hw1 hw
      go_wp2
      go_ret2
      exact ⟨by rw [← HF2.out]; rfl, Hw.out⟩

end Go.Proofs.Ytkjlkbgdkdcboaa
