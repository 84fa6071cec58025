import Derived.Test.YtkjlkbgdkdcboaaGreatDoorWaA
import Derived.Test.YtkjlkbgdkdcboaaGreatDoorMaA
import Derived.Test.YtkjlkbgdkdcboaaGreatDoorPaA
import Derived.Test.YtkjlkbgdkdcboaaGreatDoorFiA
import Derived.Test.YtkjlkbgdkdcboaaGreatDoorGyA

set_option linter.unusedSimpArgs false
set_option linter.unusedVariables false

set_option linter.unusedSimpArgs false
set_option linter.unusedVariables false

namespace Go.Proofs.YtkjlkbgdkdcboaaGreatDoor
open Go.RowKit
attribute [local go_sem ↓] Go.wp_at_zero Go.wp_at_succ

theorem info53 : (Tryz.prog.info? 86).map (fun i => (i.zero, i.size, i.bytes)) = some (some (.agg #[.int .i64 0, .int .i64 0, .int .i64 0, .int .i64 0]), 4, 32) := by kernel_rfl

set_option maxRecDepth 100000 in
set_option maxHeartbeats 4000000 in
theorem rEdges_any (R : List (List Acre.Pt)) (v : Value) (w : World) (hR : Rings w v R) (hF : Acre.fieldOk R = true) :
    Calls Tryz.prog 17 #[v] w fun e w' => ∃ u, e = .returned u ∧ w'.ownsRow w.heap.size 86 4 u (Acre.edgesOf R).length (flatE (Acre.edgesOf R)) ∧ Below w.heap.size w w' := by
  obtain ⟨ga, b, off, cap, rfl, hga, hcs⟩ := hR
  obtain ⟨i0, hi, hz0, hz1, hz2⟩ := info_parts info53
  have hR2 := fieldOk_len hF
  have hrk := fieldOk_ring hF
  have Hrk : Hid _ := hrk
  clear hF hrk
  go_enter Tryz.func17, Tryz.ntmps17
  go_wp2
  go_loopw [3, 4] (fun l i wr => ∃ k : Nat, i = .int .i64 k ∧ k ≤ R.length ∧ Hid ((Acre.edgesOf (R.take k)).length ≤ 6 * k ∧ wr.ownsRow w.heap.size 86 4 l (Acre.edgesOf (R.take k)).length (flatE (Acre.edgesOf (R.take k))) ∧ Below w.heap.size w wr)) (fun _ i _ => R.length - (intOf i).toNat)
  case atStart => exact ⟨0, rfl, Nat.zero_le _, by simp [Acre.edgesOf], World.ownsRow_nil _ _ _ _, Below.refl _ _⟩
  case round =>
    obtain ⟨k, rfl, hk, hr⟩ := hrel
    by_cases hlt : k < R.length
    · obtain ⟨hE, o1, hw⟩ := hr.out
      obtain rfl := hga (by omega)
      obtain ⟨s, hs, hring⟩ := hcs k hlt
      obtain ⟨hr3, hr6⟩ := Hrk.out k hlt
      obtain ⟨ra, rb, roff, rcap, rfl, hra, hpts0⟩ := hring
      have het := edgesOf_take R k hlt
      obtain ⟨r, hrr⟩ : ∃ r, R[k] = r := ⟨_, rfl⟩
      rw [hrr] at hs hr3 hr6 hra hpts0 het
      obtain ⟨rfl, hrb⟩ := hra (by omega)
      obtain ⟨E, hEE⟩ : ∃ E, Acre.edgesOf (R.take k) = E := ⟨_, rfl⟩
      rw [hEE] at hE o1 het
      have Het : Hid _ := het
      clear het hrr hEE hr
      have hbw : b < w.heap.size := World.block_lt_of_cell? _ _ hs
      go_wp2
      go_loopw [3, 5] (fun l i w2 => ∃ j : Nat, i = .int .i64 j ∧ j ≤ r.length ∧ Hid (w2.ownsRow w.heap.size 86 4 l (E.length + j) (flatE (E ++ Acre.edgesTo r j)) ∧ Below w.heap.size w w2)) (fun _ i _ => r.length - (intOf i).toNat)
      case atStart => exact ⟨0, rfl, Nat.zero_le _, by simpa [Acre.edgesTo] using o1, hw⟩
      case round =>
        obtain ⟨j, rfl, hj, hr2⟩ := hrel
        obtain ⟨o2, hw2⟩ := hr2.out
        have hs2 := cell_later hw2 hs
        by_cases hjl : j < r.length
        · have hpts := hpts0.later hw2
          obtain ⟨p0, p1⟩ := hpts j hjl
          obtain ⟨jn, hjn⟩ : ∃ jn, (j + 1) % r.length = jn := ⟨_, rfl⟩
          have hjl' : jn < r.length := by rw [← hjn]; exact Nat.mod_lt _ (by omega)
          have hmod : ((j : Int) + 1) % (r.length : Int) = (jn : Int) := by rw [← hjn]; simp
          obtain ⟨n0, n1⟩ := hpts jn hjl'
          have hu : ∀ c, u3.ownBlock = some c → w.heap.size ≤ c ∧ c < wr.heap.size := o2.lt
          have lb : rb < wr.heap.size := World.block_lt_of_cell? _ _ n0
          have lbb : b < wr.heap.size := World.block_lt_of_cell? _ _ hs2
          have av : u3.ownBlock ≠ some b := fun e => by have := hu _ e; omega
          have ak : u3.ownBlock ≠ some rb := fun e => by have := hu _ e; omega
          have hj0 : (0 : Int) ≤ (jn : Int) := Int.natCast_nonneg _
          have hj1 : (jn : Int) < (r.length : Int) := by omega
          have hj2 : (0 : Int) ≤ (j : Int) := Int.natCast_nonneg _
          have hj3 : (j : Int) < (r.length : Int) := by omega
          have hk0 : (0 : Int) ≤ (k : Int) := Int.natCast_nonneg _
          have hk1 : (k : Int) < (R.length : Int) := by omega
          have hd : r.getD j (0, 0) = r[j] := by simp [List.getD, hjl]
          have hdn : r.getD jn (0, 0) = r[jn] := by simp [List.getD, hjl']
          have hes : Acre.edgesTo r (j + 1) = Acre.edgesTo r j ++ [(r[j], r[jn])] := by rw [Acre.edgesTo_succ, hjn, hd, hdn]
          have Hes : Hid _ := hes
          have hrm : ((j : Int) + 1).tmod (r.length : Int) = (jn : Int) := by rw [Int.tmod_eq_emod_of_nonneg (by omega)]; exact hmod
          have hnil : ¬ r = [] := fun e => by rw [e] at hr3; simp at hr3
          have hsum : IntKind.i64.wrap ((j : Int) + 1) = (j : Int) + 1 := wrap_in _ (by omega)
          clear hes hd hdn hjn hmod
          generalize r[j] = pj at *
          generalize r[jn] = pn at *
          go_wp2_with fail
          go_region_held3 (fun w' => w'.cell? ⟨b, off + k, none⟩ = some (.slice (some ⟨rb, roff, none⟩) r.length rcap) ∧ w'.cell? ⟨rb, roff + j * 2, none⟩ = some (.int .i64 pj.1) ∧ w'.cell? ⟨rb, roff + j * 2 + 1, none⟩ = some (.int .i64 pj.2) ∧ w'.cell? ⟨rb, roff + jn * 2, none⟩ = some (.int .i64 pn.1) ∧ w'.cell? ⟨rb, roff + jn * 2 + 1, none⟩ = some (.int .i64 pn.2))
            (first
              | go_keep
              | (go_split_ands
                 refine ⟨?_, ?_, ?_, ?_, ?_⟩
                 · (rw [hgrow.cell_far _ (Nat.lt_trans lbb (by simp)) (Ne.symm av)]; assumption)
                 · (rw [hgrow.cell_far _ (Nat.lt_trans lb (by simp)) (Ne.symm ak)]; assumption)
                 · (rw [hgrow.cell_far _ (Nat.lt_trans lb (by simp)) (Ne.symm ak)]; assumption)
                 · (rw [hgrow.cell_far _ (Nat.lt_trans lb (by simp)) (Ne.symm ak)]; assumption)
                 · (rw [hgrow.cell_far _ (Nat.lt_trans lb (by simp)) (Ne.symm ak)]; assumption)))
            ((refine step_append_lies _ (by rfl) _ _ _ (by rfl) w.heap.size 86 i0 _ 4 32 Tryz.underlying25 hi hz0 hz1 hz2 rfl (by omega) u3 (E.length + j) (flatE (E ++ Acre.edgesTo r j)) (by rfl) ((o2.alloc _).drew)
                ⟨wr.heap.size, 0, none⟩ 1 1 [.int .i64 pj.1, .int .i64 pj.2, .int .i64 pn.1, .int .i64 pn.2] (by rfl) (by rfl) (World.news_of_block (cs := #[.int .i64 pj.1, .int .i64 pj.2, .int .i64 pn.1, .int .i64 pn.2]) (t := 86) (fr := (0, 0)) (heap_alloc_new wr _)) (by simp [Value.oneCell'])
                (by omega) (by unfold maxLen; omega) (by omega) (by have := hw2.size; simp; omega) (wr.heap.size + 1) (by simp) ?_; intro gg cap' w1 hown1 hgrow hat hlt'))
          have n1 : w1.ownsRow w.heap.size 86 4 (.slice (some ⟨gg, 0, none⟩) (E.length + j + 1) cap') (E.length + (j + 1)) (flatE (E ++ Acre.edgesTo r (j + 1))) := by
            rw [Hes.out, ← List.append_assoc, flatE_append]; exact hown1
          have n2 : Below w.heap.size w w1 := (Below.drew (hw2.alloc hw2.size _)).grown hgrow (by have := hw2.size; simp; omega) (fun c hc => (hu c hc).1)
          have NN : Hid (w1.ownsRow w.heap.size 86 4 (.slice (some ⟨gg, 0, none⟩) (E.length + j + 1) cap') (E.length + (j + 1)) (flatE (E ++ Acre.edgesTo r (j + 1))) ∧ Below w.heap.size w w1) := ⟨n1, n2⟩
          clear n1 n2 hown1 hgrow
          go_wp2
          go_roundw
          case rel => exact ⟨j + 1, by go_num, by omega, NN⟩
          case measure => simp [intOf]; omega
        · obtain rfl : j = r.length := by omega
          rw [← Het.out] at o2
          have hlen : (Acre.edgesOf (R.take (k + 1))).length = E.length + r.length := by
            rw [Het.out, List.length_append]; simp [Acre.edgesTo]
          rw [← hlen] at o2
          have NN : Hid ((Acre.edgesOf (R.take (k + 1))).length ≤ 6 * (k + 1) ∧ wr.ownsRow w.heap.size 86 4 u3 (Acre.edgesOf (R.take (k + 1))).length (flatE (Acre.edgesOf (R.take (k + 1)))) ∧ Below w.heap.size w wr) := ⟨by omega, o2, hw2⟩
          clear o2 hlen
          go_wp2
          go_roundw
          case rel => exact ⟨k + 1, by go_num, by omega, NN⟩
          case measure => simp [intOf]; omega
    · obtain rfl : k = R.length := by omega
      obtain ⟨hE, o1, hw⟩ := hr.out
      rw [List.take_of_length_le (Nat.le_refl _)] at o1
      go_wp2
      go_ret
      exact ⟨_, rfl, o1, hw⟩

end Go.Proofs.YtkjlkbgdkdcboaaGreatDoor

namespace Go.Proofs.YtkjlkbgdkdcboaaGreatDoor
open Go.RowKit
attribute [local go_sem ↓] Go.wp_at_zero Go.wp_at_succ

theorem below5' (w : World) (a b c d e : Obj) : Below w.heap.size w (((((w.alloc a).alloc b).alloc c).alloc d).alloc e) :=
  below_call (below2 _ _ _) (below3 w a b c)

set_option maxHeartbeats 2000000 in
theorem fair_any (N D : Int) (w : World) :
    Calls Tryz.prog 64 #[.agg #[.int .i64 N, .int .i64 D], .int .i64 13] w fun e w' => e = .returned (.bool (Acre.near (N, D))) ∧ Below w.heap.size w w' := by
  unfold Acre.near
  dsimp only
  have c0 : (w.alloc (.cells #[.int .i64 N, .int .i64 D] 90)).cell? ⟨w.heap.size, 0, none⟩ = some (.int .i64 N) := by simp [go_sem]
  have c1 : (w.alloc (.cells #[.int .i64 N, .int .i64 D] 90)).cell? ⟨w.heap.size, 1, none⟩ = some (.int .i64 D) := by simp [go_sem]
  have q := below1 w (.cells #[.int .i64 N, .int .i64 D] 90)
  have s0 : IntKind.i64.wrap (-13) = -13 := wrap_in _ (by omega)
  by_cases h1 : 1 ≤ D
  · have d1 : decide (1 ≤ D) = true := by simp; omega
    by_cases h2 : D ≤ 1152
    · have d2 : decide (D ≤ 1152) = true := by simp; omega
      have s1 : IntKind.i64.wrap (-13 * D) = -13 * D := wrap_in _ (by omega)
      have s2 : IntKind.i64.wrap (13 * D) = 13 * D := wrap_in _ (by omega)
      by_cases h3 : -(13 * D) ≤ N
      · have d3 : decide (-13 * D ≤ N) = true := by simp; omega
        by_cases h4 : N ≤ 13 * D
        · have d4 : decide (N ≤ 13 * D) = true := by simp; omega
          have hv : Hid ((decide (1 ≤ D) && decide (D ≤ 1152) && (decide (-(13 * D) ≤ N) && decide (N ≤ 13 * D) && Acre.g N D == 1)) = (Acre.g N D == 1)) := by
            show _ = _; rw [d1, d2, d4, decide_eq_true h3]; simp
          go_enter Tryz.func64, Tryz.ntmps64
          go_wp2_with fail
          generalize w.alloc (.cells #[.int .i64 N, .int .i64 D] 90) = W at *
          go_region_held3 (fun w' => w'.cell? ⟨w.heap.size, 0, none⟩ = some (.int .i64 N) ∧ w'.cell? ⟨w.heap.size, 1, none⟩ = some (.int .i64 D) ∧ Below W.heap.size W w')
            ((go_split_ands; refine ⟨?_, ?_, ?_⟩ <;> first | assumption | exact Below.drew (Below.refl _ _) | exact cell_later (by assumption) (by assumption) | exact below_call (by assumption) (by assumption)))
            (first | (go_at_call 118; refine (abs_any _ _ ?_).mono ?_; omega; rintro e w' ⟨rfl, rfl⟩) | (go_at_call 117; refine (rgcd_any _ _ _ ?_ ?_).mono ?_; omega; omega; rintro e w' ⟨rfl, hb⟩))
          go_split_ands
          go_wp2
          go_ret
          exact ⟨ret_bool (by rw [hv.out, Acre.g_abs]), below_call (by assumption) q⟩
        · have d4 : decide (N ≤ 13 * D) = false := by simp; omega
          have hv : Hid ((decide (1 ≤ D) && decide (D ≤ 1152) && (decide (-(13 * D) ≤ N) && decide (N ≤ 13 * D) && Acre.g N D == 1)) = false) := by
            show _ = _; rw [d1, d2, d4]; simp
          go_enter Tryz.func64, Tryz.ntmps64
          go_wp2_with fail
          go_quiet (fail)
          go_wp2
          go_ret
          exact ⟨ret_bool hv.out.symm, below_drewN q _⟩
      · have d3 : decide (-13 * D ≤ N) = false := by simp; omega
        have hv : Hid ((decide (1 ≤ D) && decide (D ≤ 1152) && (decide (-(13 * D) ≤ N) && decide (N ≤ 13 * D) && Acre.g N D == 1)) = false) := by
          show _ = _; rw [d1, d2, decide_eq_false h3]; simp
        go_enter Tryz.func64, Tryz.ntmps64
        go_wp2_with fail
        go_quiet (fail)
        go_wp2
        go_ret
        exact ⟨ret_bool hv.out.symm, below_drewN q _⟩
    · have d2 : decide (D ≤ 1152) = false := by simp; omega
      have hv : Hid ((decide (1 ≤ D) && decide (D ≤ 1152) && (decide (-(13 * D) ≤ N) && decide (N ≤ 13 * D) && Acre.g N D == 1)) = false) := by
        show _ = _; rw [d2]; simp
      go_enter Tryz.func64, Tryz.ntmps64
      go_wp2_with fail
      go_quiet (fail)
      go_wp2
      go_ret
      exact ⟨ret_bool hv.out.symm, below_drewN q _⟩
  · have d1 : decide (1 ≤ D) = false := by simp; omega
    have hv : Hid ((decide (1 ≤ D) && decide (D ≤ 1152) && (decide (-(13 * D) ≤ N) && decide (N ≤ 13 * D) && Acre.g N D == 1)) = false) := by
      show _ = _; rw [d1]; simp
    go_enter Tryz.func64, Tryz.ntmps64
    go_wp2_with fail
    go_quiet (fail)
    go_wp2
    go_ret
    exact ⟨ret_bool hv.out.symm, below_drewN q _⟩

end Go.Proofs.YtkjlkbgdkdcboaaGreatDoor

namespace Go.Proofs.YtkjlkbgdkdcboaaGreatDoor
open Go.RowKit
attribute [local go_sem ↓] Go.wp_at_zero Go.wp_at_succ

theorem num_any (n : Int) (w : World) : Calls Tryz.prog 8 #[.int .i64 n] w fun e w' => e = .returned (.int .i64 n) ∧ w' = w := by
  go_enter Tryz.func8, Tryz.ntmps8
  go_wp2
  go_ret
  exact ⟨rfl, rfl⟩
theorem rop_any (op : Int) (a b : Bool) (w : World) (h : 0 ≤ op ∧ op ≤ 3) : Calls Tryz.prog 121 #[.int .i64 op, .bool a, .bool b] w fun e w' => e = .returned (.bool (Acre.opK op a b)) ∧ w' = w := by
  rcases (show op = 0 ∨ op = 1 ∨ op = 2 ∨ op = 3 by omega) with rfl | rfl | rfl | rfl
  all_goals
    go_enter Tryz.func121, Tryz.ntmps121
    cases a <;> cases b <;> go_wp2
  all_goals
    go_ret
    exact ⟨by simp [Acre.opK], rfl⟩
set_option maxRecDepth 100000 in
set_option maxHeartbeats 1000000 in
theorem asked_any (a b : ByteArray) (op : Int) (w : World) : Calls Tryz.prog 7 #[.string a, .string b, .int .i64 op] w fun e w' => ∃ u1 u2 at', e = .returned (.tuple #[u1, u2, .int .i64 (errP a b op).1, .int .i64 at']) ∧ Below w.heap.size w w' := by
  have HA := hide (fun V => rread_any a V)
  have HB := hide (fun V => rread_any b V)
  unfold RReadPost at HA HB
  rw [← reads_same] at HA HB
  have HFa := hide (read_field (s := a))
  have HFb := hide (read_field (s := b))
  obtain ⟨X, hX⟩ : ∃ X, readP a = X := ⟨_, rfl⟩
  obtain ⟨Y, hY⟩ : ∃ Y, readP b = Y := ⟨_, rfl⟩
  have HE : Hid (errP a b op = if X.2.1 = 0 then if Y.2.1 = 0 then if op < 0 ∨ 3 < op then (6, 0) else (0, 0) else (Y.2.1, wrap64 (Y.2.2 + 1000)) else X.2) := hide (by unfold errP; rw [hX, hY])
  rw [hX] at HA HFa
  rw [hY] at HB HFb
  clear hX hY
  obtain ⟨R, x1, x2⟩ := X
  obtain ⟨S, y1, y2⟩ := Y
  dsimp only at HA HB HFa HFb HE
  have E1 : Hid (¬ x1 = 0 → errP a b op = (x1, x2)) := hide (fun h => by rw [HE.out, if_neg h])
  have E2 : Hid (x1 = 0 → ¬ y1 = 0 → errP a b op = (y1, wrap64 (y2 + 1000))) := hide (fun h h2 => by rw [HE.out, if_pos h, if_neg h2])
  have E3 : Hid (x1 = 0 → y1 = 0 → op < 0 ∨ 3 < op → errP a b op = (6, 0)) := hide (fun h h2 h3 => by rw [HE.out, if_pos h, if_pos h2, if_pos h3])
  have E4 : Hid (x1 = 0 → y1 = 0 → ¬ (op < 0 ∨ 3 < op) → errP a b op = (0, 0)) := hide (fun h h2 h3 => by rw [HE.out, if_pos h, if_pos h2, if_neg h3])
  clear HE
  go_enter Tryz.func7, Tryz.ntmps7
  go_wp2_with fail
  refine (HA.out _).mono ?_
  rintro e V1 ⟨u1, rfl, hr1, hb1⟩
  by_cases hx : x1 = 0
  · subst hx
    have hFa := HFa.out rfl
    have Hr1 := hide hr1
    have Hb1 := hide hb1
    clear hr1 hb1
    go_wp2_with fail
    refine (HB.out _).mono ?_
    rintro e V2 ⟨u2, rfl, hr2, hb2⟩
    have Hb2 := hide (below_call hb2 Hb1.out)
    have Hr2 := hide hr2
    have Hr3 := hide (Hr1.out.later hb2)
    clear hr2 hb2
    by_cases hy : y1 = 0
    · subst hy
      have hFb := HFb.out rfl
      by_cases ho : op < 0 ∨ 3 < op
      · have HE2 := hide (E3.out (by simp) (by simp) ho)
        clear E1 E2 E3 E4
        rcases ho with ho | ho
        · go_wp2
          refine bodyPost_ret (v := .tuple #[.slice none 0 0, .slice none 0 0, .int .i64 6, .int .i64 0]) ?_ rfl ⟨_, _, _, by rw [HE2.out], Hb2.out⟩
          · simp [results, Tryz.results7, go_sem]
        · have ho2 : ¬ op < 0 := by omega
          go_wp2
          refine bodyPost_ret (v := .tuple #[.slice none 0 0, .slice none 0 0, .int .i64 6, .int .i64 0]) ?_ rfl ⟨_, _, _, by rw [HE2.out], Hb2.out⟩
          · simp [results, Tryz.results7, go_sem]
      · have HE2 := hide (E4.out (by simp) (by simp) ho)
        have ho1 : ¬ op < 0 := by omega
        have ho2 : ¬ 3 < op := by omega
        clear E1 E2 E3 E4 ho
        have HEd := hide (fun V (h : Rings V u1 R) => rEdges_any R u1 V h hFa)
        have HEe := hide (fun V (h : Rings V u2 S) => rEdges_any S u2 V h hFb)
        clear hFa hFb
        go_wp2_with fail
        refine (HEd.out _ Hr3.out).mono ?_
        rintro e V3 ⟨u3, rfl, _, hb3⟩
        have Hb3 := hide (below_call hb3 Hb2.out)
        have Hr4 := hide (Hr2.out.later hb3)
        clear hb3
        go_wp2_with fail
        refine (HEe.out _ Hr4.out).mono ?_
        rintro e V4 ⟨u4, rfl, _, hb4⟩
        have Hb4 := hide (below_call hb4 Hb3.out)
        clear hb4
        go_wp2
        refine bodyPost_ret (v := .tuple #[u3, u4, .int .i64 0, .int .i64 0]) ?_ rfl ⟨_, _, _, by rw [HE2.out], Hb4.out⟩
        · simp [results, Tryz.results7, go_sem]
    · have HE2 := hide (E2.out (by simp) hy)
      clear E1 E2 E3 E4
      go_wp2
      refine bodyPost_ret (v := .tuple #[.slice none 0 0, .slice none 0 0, .int .i64 y1, .int .i64 (wrap64 (y2 + 1000))]) ?_ rfl ⟨_, _, _, by rw [HE2.out], Hb2.out⟩
      · simp [results, Tryz.results7, go_sem, wrap64]
  · have HE2 := hide (E1.out hx)
    have Hb1 := hide hb1
    clear E1 E2 E3 E4 hb1
    go_wp2
    refine bodyPost_ret (v := .tuple #[.slice none 0 0, .slice none 0 0, .int .i64 x1, .int .i64 x2]) ?_ rfl ⟨_, _, _, by rw [HE2.out], Hb1.out⟩
    · simp [results, Tryz.results7, go_sem]

end Go.Proofs.YtkjlkbgdkdcboaaGreatDoor

namespace Go.Proofs.YtkjlkbgdkdcboaaGreatDoor
open Go.RowKit
attribute [local go_sem ↓] Go.wp_at_zero Go.wp_at_succ

def hD (a b : Acre.Pt) (x y : Acre.Fc) : Int := (y.1 - a.2 * y.2) * (b.1 - a.1) * x.2 - (x.1 - a.1 * x.2) * (b.2 - a.2) * y.2
/-- how a place lies to an edge's line -/
def hgtD (e : Acre.Ed) (x y : Acre.Fc) : Int := if e.2.1 < e.1.1 then hD e.2 e.1 x y else hD e.1 e.2 x y
theorem hD_bd {a b : Acre.Pt} {x y : Acre.Fc} (ha : Sm a.1 ∧ Sm a.2) (hb : Sm b.1 ∧ Sm b.2) (hx : Fr x.1 x.2) (hy : Fr y.1 y.2) : (-100000 ≤ y.1 - a.2 * y.2 ∧ y.1 - a.2 * y.2 ≤ 100000) ∧ (-100000 ≤ x.1 - a.1 * x.2 ∧ x.1 - a.1 * x.2 ≤ 100000) ∧ (-100000 ≤ a.2 * y.2 ∧ a.2 * y.2 ≤ 100000) ∧ (-100000 ≤ a.1 * x.2 ∧ a.1 * x.2 ≤ 100000) ∧ (-3000000 ≤ (y.1 - a.2 * y.2) * (b.1 - a.1) ∧ (y.1 - a.2 * y.2) * (b.1 - a.1) ≤ 3000000) ∧ (-3000000 ≤ (x.1 - a.1 * x.2) * (b.2 - a.2) ∧ (x.1 - a.1 * x.2) * (b.2 - a.2) ≤ 3000000) ∧ (-6000000000 ≤ (y.1 - a.2 * y.2) * (b.1 - a.1) * x.2 ∧ (y.1 - a.2 * y.2) * (b.1 - a.1) * x.2 ≤ 6000000000) ∧ (-6000000000 ≤ (x.1 - a.1 * x.2) * (b.2 - a.2) * y.2 ∧ (x.1 - a.1 * x.2) * (b.2 - a.2) * y.2 ≤ 6000000000) := by
  have m1 := Acre.mul_bd a.2 y.2 13 2000 (by omega) (by omega)
  have m2 := Acre.mul_bd a.1 x.2 13 2000 (by omega) (by omega)
  have m3 := Acre.mul_bd (y.1 - a.2 * y.2) (b.1 - a.1) 100000 26 (by omega) (by omega)
  have m4 := Acre.mul_bd (x.1 - a.1 * x.2) (b.2 - a.2) 100000 26 (by omega) (by omega)
  have m5 := Acre.mul_bd ((y.1 - a.2 * y.2) * (b.1 - a.1)) x.2 3000000 2000 (by omega) (by omega)
  have m6 := Acre.mul_bd ((x.1 - a.1 * x.2) * (b.2 - a.2)) y.2 3000000 2000 (by omega) (by omega)
  omega

theorem bS {w V : World} {b o : Nat} {v : Value} (h : Below w.heap.size w V) (hb : w.heap.size ≤ b) : Below w.heap.size w (V.setCell ⟨b, o, none⟩ v) := h.setCell (p := ⟨b, o, none⟩) hb v
theorem bA {w V : World} {o : Obj} (h : Below w.heap.size w V) : Below w.heap.size w (V.alloc o) := h.alloc h.size o
end Go.Proofs.YtkjlkbgdkdcboaaGreatDoor

