import Derived.Test.YtkjlkbgdkdcboaaWrong
namespace Go.Proofs.Ytkjlkbgdkdcboaa
open Go.RowKit
attribute [local go_sem ↓] Go.wp_at_zero Go.wp_at_succ

/-- points of numbers, two each -/
def prOf : List (Int × Int) → List Acre.Pt
  | a :: b :: r => (a.1, b.1) :: prOf r
  | _ => []
theorem prOf_len : ∀ r : List (Int × Int), (prOf r).length = r.length / 2
  | [] => rfl
  | [_] => by simp [prOf]
  | a :: b :: r => by simp only [prOf, List.length_cons, prOf_len r]; omega
theorem prOf_get : ∀ (r : List (Int × Int)) (j : Nat) (h : 2 * j + 1 < r.length) (h' : j < (prOf r).length), (prOf r)[j] = (r[2 * j].1, r[2 * j + 1].1)
  | [], j, h, h' => by simp at h
  | [_], j, h, h' => by simp at h
  | a :: b :: r, 0, h, h' => rfl
  | a :: b :: r, j + 1, h, h' => by
    have e := prOf_get r j (by simp at h; omega) (by simp [prOf] at h'; exact h')
    simp only [prOf, List.getElem_cons_succ, e]
    have e1 : 2 * (j + 1) = 2 * j + 1 + 1 := by omega
    simp only [e1, List.getElem_cons_succ]

theorem pointL_len (s : ByteArray) (i : Nat) (bad : Int) : (pointL s i bad).length = 2 := rfl
theorem rowF_len (s : ByteArray) : ∀ (n i : Nat) (bad : Int), (rowF s n i bad).1.length ≤ 2 * n ∧ (0 < n → 2 ≤ (rowF s n i bad).1.length)
  | 0, i, bad => by simp [rowF]
  | n + 1, i, bad => by
    rw [rowF]
    have h := rowF_len s n ((pointE s i bad).1 + 1) (pointE s i bad).2
    split
    · simp only [List.length_append, pointL_len]; omega
    · simp only [pointL_len]; omega
theorem ringsF_inv (s : ByteArray) : ∀ (n i : Nat) (bad : Int), (ringsF s n i bad).1.length ≤ n ∧ ∀ r ∈ (ringsF s n i bad).1, r ≠ [] ∧ r.length ≤ 2 * (s.size + 1)
  | 0, i, bad => by simp [ringsF]
  | n + 1, i, bad => by
    rw [ringsF]
    have hr := rowF_len s (s.size + 1) i bad
    have hr2 : (rowF s (s.size + 1) i bad).1 ≠ [] := fun e => by rw [e] at hr; simp at hr
    have h := ringsF_inv s n ((rowF s (s.size + 1) i bad).2.1 + 1) (rowF s (s.size + 1) i bad).2.2
    split
    · refine ⟨by simp only [List.length_cons]; omega, fun r hm => ?_⟩
      rcases List.mem_cons.1 hm with e | e
      · rw [e]; exact ⟨hr2, hr.1⟩
      · exact h.2 r e
    · refine ⟨by simp, fun r hm => ?_⟩
      rw [List.mem_singleton.1 hm]; exact ⟨hr2, hr.1⟩
theorem ringsP_inv (s : ByteArray) : (ringsP s).1.length ≤ s.size + 1 ∧ ∀ r ∈ (ringsP s).1, r ≠ [] ∧ r.length ≤ 2 * (s.size + 1) := by
  unfold ringsP
  split
  · simp
  · exact ringsF_inv s (s.size + 1) 0 (-1)

/-- what the document's Read answers -/
def rreadP (s : ByteArray) : List (List Acre.Pt) × Int × Int :=
  if 120 < s.size then ([], 1, 0)
  else if 0 ≤ (ringsP s).2 then ([], 2, (ringsP s).2)
  else if (wRings 0 (ringsP s).1 (0, 0)).1 = 0 then ((ringsP s).1.map prOf, 0, 0)
  else ([], (wRings 0 (ringsP s).1 (0, 0)).1, (wRings 0 (ringsP s).1 (0, 0)).2)

def RReadPost (s : ByteArray) (w : World) (e : Ending) (w' : World) : Prop :=
  ∃ u, e = .returned (.tuple #[u, .int .i64 (rreadP s).2.1, .int .i64 (rreadP s).2.2]) ∧ Rings w' u (rreadP s).1 ∧ Below w.heap.size w w'

theorem rings_nil (w : World) : Rings w (.slice none 0 0) [] := ⟨none, 0, 0, 0, rfl, fun k => absurd k (by simp), fun i hi => absurd hi (by simp)⟩

set_option maxRecDepth 100000 in
set_option maxHeartbeats 4000000 in
theorem rread_ok (s : ByteArray) (w : World) (hl : ¬ 120 < s.size) (hb : ¬ 0 ≤ (ringsP s).2) (hz : (wRings 0 (ringsP s).1 (0, 0)).1 = 0) : Calls Try.prog 8 #[.string s] w (RReadPost s w) := by
  have HP := hide (show rreadP s = ((ringsP s).1.map prOf, 0, 0) by rw [rreadP, if_neg hl, if_neg hb, if_pos hz])
  have hl' : ¬ (120 : Int) < (s.size : Int) := by omega
  obtain ⟨hi1, hi2⟩ := ringsP_inv s
  have K1 := hide (rings_any s w (by omega))
  have K2 := hide (fun W v hv => wrong_any (ringsP s).1 v W hv (fun r hr => (hi2 r hr).1) (by omega) (fun r hr => by have := (hi2 r hr).2; omega))
  rw [hz] at K2
  obtain ⟨R, hR⟩ : ∃ R, (ringsP s).1 = R := ⟨_, rfl⟩
  have hm : ∀ r ∈ R, r.length ≤ 10000 := fun r hr => by rw [← hR] at hr; have := (hi2 r hr).2; omega
  have hn : R.length ≤ 10000 := by rw [← hR]; omega
  rw [hR] at HP K1 K2
  clear hi1 hi2 hz hR
  generalize (wRings 0 R (0, 0)).2 = wa at *
  generalize (ringsP s).2 = bd at *
  obtain ⟨Q, hQ⟩ : ∃ Q, R.map prOf = Q := ⟨_, rfl⟩
  have hQl : Q.length = R.length := by rw [← hQ, List.length_map]
  have hQk : ∀ k (h : k < R.length) (h' : k < Q.length), Q[k] = prOf R[k] := fun k h h' => by subst hQ; simp
  rw [hQ] at HP
  clear hQ
  obtain ⟨i0, hi, hz0, hz1, hz2⟩ := info_parts info51
  obtain ⟨i1, hi1, hy0, hy1, hy2⟩ := info_parts info66
  go_enter Try.func8, Try.ntmps8
  go_wp2_with fail
  refine K1.out.mono ?_
  rintro e wa1 ⟨v, rfl, hv, hbv⟩
  have Hv := hide hv
  clear hv
  go_wp2_with fail
  refine (K2.out wa1 v Hv.out).mono ?_
  rintro e wb ⟨rfl, hbw2⟩
  have hvb := Hv.out.later hbw2
  have HB := hide (below_call hbw2 hbv)
  clear K1 K2 Hv hbw2 hbv
  obtain ⟨ga, b, off, cap, rfl, hga, hcs⟩ := hvb
  go_wp2
  go_loopw [9, 10] (fun l i wr => ∃ k : Nat, i = .int .i64 k ∧ k ≤ R.length ∧ Hid (Copied wr wb.heap.size l (Q.take k) ∧ Below wb.heap.size wb wr)) (fun _ i _ => R.length - (intOf i).toNat)
  case atStart => exact ⟨0, rfl, Nat.zero_le _, ⟨[], rfl, by simp, World.ownsRow_nil _ _ _ _, fun i h _ => by simp at h⟩, Below.refl _ _⟩
  case round =>
    obtain ⟨k, rfl, hk, hr⟩ := hrel
    by_cases hlt : k < R.length
    · obtain ⟨o1, hw⟩ := hr.out
      obtain rfl := hga (by omega)
      obtain ⟨s1, hs, hring⟩ := hcs k hlt
      have hml := hm R[k] (List.getElem_mem hlt)
      obtain ⟨ra, rb, roff, rcap, rfl, hra, hpts0⟩ := hring
      have htk : Q.take (k + 1) = Q.take k ++ [prOf R[k]] := by rw [List.take_succ_eq_append_getElem (show k < Q.length by omega), hQk k hlt (by omega)]
      obtain ⟨r, hrr⟩ : ∃ r, R[k] = r := ⟨_, rfl⟩
      rw [hrr] at hs hml hra hpts0 htk
      have Htk : Hid _ := htk
      have Ho1 : Hid (Copied wr wb.heap.size u9 (Q.take k)) := o1
      have hbw : b < wb.heap.size := World.block_lt_of_cell? _ _ hs
      have hsW := hw.size
      have Hpl := hide (prOf_len r)
      clear htk hrr hr o1
      obtain ⟨WO, hWO⟩ : ∃ WO, WO = wr := ⟨_, rfl⟩
      subst hWO
      go_wp2
      go_loopw [11, 12] (fun q i w2 => ∃ j m : Nat, i = .int .i64 (m : Int) ∧ m = 2 * j ∧ j ≤ (prOf r).length ∧ Hid (w2.ownsRow WO.heap.size 51 2 q j (flat ((prOf r).take j)) ∧ Below WO.heap.size WO w2)) (fun _ i _ => r.length + 2 - (intOf i).toNat)
      case atStart => exact ⟨0, 0, rfl, rfl, Nat.zero_le _, World.ownsRow_nil _ _ _ _, Below.refl _ _⟩
      case round =>
        obtain ⟨j, m, rfl, hmj, hj, hr2⟩ := hrel
        obtain ⟨o2, hw2⟩ := hr2.out
        have hww : Below wb.heap.size wb wr := below_call hw2 hw
        have hs2 := cell_later hww hs
        have lbb : b < wr.heap.size := World.block_lt_of_cell? _ _ hs2
        have hk0 : (0 : Int) ≤ (k : Int) := Int.natCast_nonneg _
        have hk1 : (k : Int) < (R.length : Int) := by omega
        by_cases hjl : m + 1 < r.length
        · have hjp : j < (prOf r).length := by have := Hpl.out; omega
          obtain ⟨rfl, hrb⟩ := hra (by omega)
          obtain ⟨p0, p1⟩ := (hpts0.later hww) m (by omega)
          obtain ⟨p2, p3⟩ := (hpts0.later hww) (m + 1) hjl
          have hst : (prOf r).take (j + 1) = (prOf r).take j ++ [(r[m].1, r[m + 1].1)] := by
            rw [List.take_succ_eq_append_getElem hjp, prOf_get r j (by omega) hjp]
            simp only [hmj]
          have Hst : Hid _ := hst
          clear hst p1 p3
          generalize r[m].1 = x0 at *
          generalize r[m + 1].1 = x1 at *
          have lb : rb < wr.heap.size := World.block_lt_of_cell? _ _ p0
          have hu : ∀ c, u11.ownBlock = some c → WO.heap.size ≤ c ∧ c < wr.heap.size := o2.lt
          have av : u11.ownBlock ≠ some b := fun e => by have := hu _ e; omega
          have ak : u11.ownBlock ≠ some rb := fun e => by have := hu _ e; omega
          have hj2 : (0 : Int) ≤ (m : Int) := by omega
          have hj3 : (m : Int) < (r.length : Int) := by omega
          have hj4 : (m : Int) + 1 < (r.length : Int) := by omega
          have hj5 : (0 : Int) ≤ (m : Int) + 1 := by omega
          have hsum : IntKind.i64.wrap ((m : Int) + 1) = (m : Int) + 1 := wrap_in _ (by omega)
          have hmb := hide hmj
          clear hmj
          go_wp2_with fail
          go_region_held3 (fun w' => w'.cell? ⟨b, off + k, none⟩ = some (.slice (some ⟨rb, roff, none⟩) r.length rcap) ∧ w'.cell? ⟨rb, roff + m * 2, none⟩ = some (.int .i64 x0) ∧ w'.cell? ⟨rb, roff + (m + 1) * 2, none⟩ = some (.int .i64 x1))
            (first
              | go_keep
              | (go_split_ands
                 refine ⟨?_, ?_, ?_⟩
                 · (rw [hgrow.cell_far _ (Nat.lt_trans lbb (by simp)) (Ne.symm av)]; assumption)
                 · (rw [hgrow.cell_far _ (Nat.lt_trans lb (by simp)) (Ne.symm ak)]; assumption)
                 · (rw [hgrow.cell_far _ (Nat.lt_trans lb (by simp)) (Ne.symm ak)]; assumption)))
            ((refine step_append_lies _ (by rfl) _ _ _ (by rfl) WO.heap.size 51 i0 _ 2 16 Try.underlying66 hi hz0 hz1 hz2 rfl (by omega) u11 j (flat ((prOf r).take j)) (by rfl) ((o2.alloc _).drew)
                ⟨wr.heap.size, 0, none⟩ 1 1 [.int .i64 x0, .int .i64 x1] (by rfl) (by rfl) (World.news_of_block (cs := #[.int .i64 x0, .int .i64 x1]) (t := 51) (fr := (0, 0)) (heap_alloc_new wr _)) (by simp [Value.oneCell'])
                (by omega) (by unfold maxLen; have := Hpl.out; omega) (by have := Hpl.out; omega) (by have := hw2.size; simp; omega) (wr.heap.size + 1) (by simp) ?_; intro gg cap' w1 hown1 hgrow hat hlt'))
          have n1 : w1.ownsRow WO.heap.size 51 2 (.slice (some ⟨gg, 0, none⟩) (j + 1) cap') (j + 1) (flat ((prOf r).take (j + 1))) := by
            rw [Hst.out, flat_app]; exact hown1
          have n2 : Below WO.heap.size WO w1 := (Below.drew (hw2.alloc hw2.size _)).grown hgrow (by have := hw2.size; simp; omega) (fun c hc => (hu c hc).1)
          have NN : Hid (w1.ownsRow WO.heap.size 51 2 (.slice (some ⟨gg, 0, none⟩) (j + 1) cap') (j + 1) (flat ((prOf r).take (j + 1))) ∧ Below WO.heap.size WO w1) := ⟨n1, n2⟩
          clear n1 n2 hown1 hgrow
          go_wp2
          go_roundw
          case rel => exact ⟨j + 1, m + 2, by go_num, by have := hmb.out; omega, by omega, NN⟩
          case measure => simp [intOf]; omega
        · obtain rfl : j = (prOf r).length := by have := Hpl.out; omega
          rw [List.take_of_length_le (Nat.le_refl _)] at o2
          obtain ⟨vs, v1, v2, v3, v4⟩ := Ho1.out
          have hkl : (Q.take k).length = k := by rw [List.length_take]; omega
          rw [hkl] at v1 v3
          have v3' := row_call v3 hw2
          have hlo : ∀ c, u9.ownBlock = some c → c < WO.heap.size := fun c hc => (v3.lt c hc).2
          have hnew : RingC wr u9 u11 (prOf r) := RingC.row o2 hlo
          have Hnew : Hid (RingC wr u9 u11 (prOf r)) := hnew
          have Hv4 : Hid (∀ i (h : i < (Q.take k).length) (h' : i < vs.length), RingC wr u9 vs[i] (Q.take k)[i]) := fun i h h' => (v4 i h h').below hw2
          have Hv2 : Hid _ := v2
          have hform : ∃ ga5 cap5, u11 = .slice ga5 (prOf r).length cap5 := by
            rcases o2.2 with ⟨rfl, h0⟩ | ⟨g, cap, cur, rfl, _⟩
            · exact ⟨none, 0, by rw [h0]⟩
            · exact ⟨_, _, rfl⟩
          obtain ⟨ga5, cap5, rfl⟩ := hform
          have hm1 : ¬ (m : Int) + 1 < (r.length : Int) := by omega
          clear hnew v4 v2 v3
          have hPl : (prOf r).length ≤ 10000 := by have := Hpl.out; omega
          have hsum : IntKind.i64.wrap ((m : Int) + 1) = (m : Int) + 1 := wrap_in _ (by have := Hpl.out; omega)
          clear Hpl hmj
          generalize prOf r = P at *
          go_wp2_with (first
            | (at_builtin; refine wpList_append_own_at _ rfl _ _ 29 rfl wb.heap.size 66 i1 (.slice none 0 0) 1 24 Try.underlying29 hi1 hy0 hy1 hy2 rfl (by decide) _ _ _ rfl (v3'.alloc _) ⟨wr.heap.size, 0, none⟩ 1 1 [.slice ga5 P.length cap5] rfl rfl (cell_one_new _ _ _) ?_ ?_ ?_ ?_ ?_)
            | go_in)
          · rfl
          · unfold maxLen; omega
          · omega
          · have := hww.size; simp; omega
          · intro v' w' hown hgrow hne hob
            have n0 : Below wb.heap.size wb w' := (hww.alloc hww.size _).grown hgrow (by have := hww.size; simp; omega) (fun c hc => (v3'.lt c hc).1)
            have n1 : Copied w' wb.heap.size v' (Q.take (k + 1)) := by
              rw [Htk.out]
              refine ⟨vs ++ [.slice ga5 P.length cap5], by simp [v1, hkl], ?_, ?_, ?_⟩
              · intro u hu
                rcases List.mem_append.1 hu with h | h
                · exact Hv2.out u h
                · rw [List.mem_singleton.1 h]; rfl
              · have : (Q.take k ++ [P]).length = k + 1 := by simp [hkl]
                rw [this]; exact hown
              · have hal : Below wr.heap.size wr (wr.alloc (.cells #[.slice ga5 P.length cap5] 66)) := (Below.refl _ _).alloc (Nat.le_refl _) _
                intro i h h'
                have hi' : i < k + 1 := by simpa [hkl] using h
                by_cases hik : i < k
                · have e1 : (vs ++ [Value.slice ga5 P.length cap5])[i] = vs[i]'(by omega) := List.getElem_append_left (by omega)
                  have e2 : (Q.take k ++ [P])[i] = (Q.take k)[i]'(by omega) := List.getElem_append_left (by omega)
                  rw [e1, e2]
                  exact ((Hv4.out i (by omega) (by omega)).below hal).append hgrow hob (by simp)
                · obtain rfl : i = k := by omega
                  have e1 : (vs ++ [Value.slice ga5 P.length cap5])[i] = Value.slice ga5 P.length cap5 := by
                    rw [List.getElem_append_right (by omega)]; simp [v1]
                  have e2 : (Q.take i ++ [P])[i] = P := by
                    rw [List.getElem_append_right (by omega)]; simp [hkl]
                  rw [e1, e2]
                  exact (Hnew.out.below hal).append hgrow hob (by simp)
            have NN : Hid (Copied w' wb.heap.size v' (Q.take (k + 1)) ∧ Below wb.heap.size wb w') := ⟨n1, n0⟩
            clear n0 n1 hown hgrow
            go_wp2
            go_roundw
            case rel => exact ⟨k + 1, by go_num, by omega, NN⟩
            case measure => simp [intOf]; omega
    · obtain rfl : k = R.length := by omega
      obtain ⟨o1, hw⟩ := hr.out
      rw [List.take_of_length_le (by omega)] at o1
      have Ho1 := hide o1.rings
      have Hw := hide (below_call hw HB.out)
      have hform : ∃ ga n cap, u9 = .slice ga n cap := by
        obtain ⟨ga, b, off, cap, rfl, _⟩ := o1.rings
        exact ⟨_, _, _, rfl⟩
      obtain ⟨ga1, n1, cap1, rfl⟩ := hform
      clear o1 hw hr
      go_wp2
      refine bodyPost_ret (v := .tuple #[.slice ga1 n1 cap1, .int .i64 0, .int .i64 0]) (by simp [results, Try.results8, go_sem]) rfl ⟨.slice ga1 n1 cap1, ?_, ?_, Hw.out⟩
      · rw [HP.out]
      · rw [HP.out]; exact Ho1.out

set_option maxHeartbeats 1000000 in
theorem rread_any (s : ByteArray) (w : World) : Calls Try.prog 8 #[.string s] w (RReadPost s w) := by
  by_cases hl : 120 < s.size
  · have HP := hide (show rreadP s = ([], 1, 0) by rw [rreadP, if_pos hl])
    have hl' : (120 : Int) < (s.size : Int) := by omega
    go_enter Try.func8, Try.ntmps8
    go_wp2
    refine bodyPost_ret (v := .tuple #[.slice none 0 0, .int .i64 1, .int .i64 0]) (by simp [results, Try.results8, go_sem]) rfl ⟨.slice none 0 0, ?_, ?_, Below.refl _ _⟩
    · rw [HP.out]
    · rw [HP.out]; exact rings_nil _
  · have hl' : ¬ (120 : Int) < (s.size : Int) := by omega
    by_cases hb : 0 ≤ (ringsP s).2
    · have HP := hide (show rreadP s = ([], 2, (ringsP s).2) by rw [rreadP, if_neg hl, if_pos hb])
      have K1 := hide (rings_any s w (by omega))
      generalize (ringsP s).2 = bd at *
      go_enter Try.func8, Try.ntmps8
      go_wp2_with fail
      refine K1.out.mono ?_
      rintro e w1 ⟨v, rfl, hv, hbv⟩
      clear hv
      go_wp2
      refine bodyPost_ret (v := .tuple #[.slice none 0 0, .int .i64 2, .int .i64 bd]) (by simp [results, Try.results8, go_sem]) rfl ⟨.slice none 0 0, ?_, ?_, hbv⟩
      · rw [HP.out]
      · rw [HP.out]; exact rings_nil _
    · by_cases hz : (wRings 0 (ringsP s).1 (0, 0)).1 = 0
      · exact rread_ok s w hl hb hz
      · have HP := hide (show rreadP s = ([], (wRings 0 (ringsP s).1 (0, 0)).1, (wRings 0 (ringsP s).1 (0, 0)).2) by rw [rreadP, if_neg hl, if_neg hb, if_neg hz])
        obtain ⟨hi1, hi2⟩ := ringsP_inv s
        have K1 := hide (rings_any s w (by omega))
        have K2 := hide (fun W v hv => wrong_any (ringsP s).1 v W hv (fun r hr => (hi2 r hr).1) (by omega) (fun r hr => by have := (hi2 r hr).2; omega))
        generalize (wRings 0 (ringsP s).1 (0, 0)).1 = we at *
        generalize (wRings 0 (ringsP s).1 (0, 0)).2 = wa at *
        generalize (ringsP s).2 = bd at *
        have hzb : (we == 0) = false := by simpa using hz
        clear hz hi1 hi2
        go_enter Try.func8, Try.ntmps8
        go_wp2_with fail
        refine K1.out.mono ?_
        rintro e w1 ⟨v, rfl, hv, hbv⟩
        have Hv := hide hv
        clear hv
        go_wp2_with fail
        refine (K2.out w1 v Hv.out).mono ?_
        rintro e w2 ⟨rfl, hb2⟩
        go_wp2
        refine bodyPost_ret (v := .tuple #[.slice none 0 0, .int .i64 we, .int .i64 wa]) (by simp [results, Try.results8, go_sem]) rfl ⟨.slice none 0 0, ?_, ?_, below_call hb2 hbv⟩
        · rw [HP.out]
        · rw [HP.out]; exact rings_nil _

end Go.Proofs.Ytkjlkbgdkdcboaa
