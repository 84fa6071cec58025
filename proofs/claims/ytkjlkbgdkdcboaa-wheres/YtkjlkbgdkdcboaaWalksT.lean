import Derived.Test.YtkjlkbgdkdcboaaWalksY
namespace Go.Proofs.Ytkjlkbgdkdcboaa
open Go.RowKit
attribute [local go_sem ↓] Go.wp_at_zero Go.wp_at_succ

theorem info53 : (Try.prog.info? 53).map (fun i => (i.zero, i.size, i.bytes)) = some (some (.agg #[.int .i64 0, .int .i64 0, .int .i64 0, .int .i64 0]), 4, 32) := by kernel_rfl

set_option maxRecDepth 100000 in
set_option maxHeartbeats 4000000 in
theorem rEdges_any (R : List (List Acre.Pt)) (v : Value) (w : World) (hR : Rings w v R) (hF : Acre.fieldOk R = true) :
    Calls Try.prog 31 #[v] w fun e w' => ∃ u, e = .returned u ∧ w'.ownsRow w.heap.size 53 4 u (Acre.edgesOf R).length (flatE (Acre.edgesOf R)) ∧ Below w.heap.size w w' := by
  obtain ⟨ga, b, off, cap, rfl, hga, hcs⟩ := hR
  obtain ⟨i0, hi, hz0, hz1, hz2⟩ := info_parts info53
  have hR2 := fieldOk_len hF
  have hrk := fieldOk_ring hF
  have Hrk : Hid _ := hrk
  clear hF hrk
  go_enter Try.func31, Try.ntmps31
  go_wp2
  go_loopw [3, 4] (fun l i wr => ∃ k : Nat, i = .int .i64 k ∧ k ≤ R.length ∧ Hid ((Acre.edgesOf (R.take k)).length ≤ 6 * k ∧ wr.ownsRow w.heap.size 53 4 l (Acre.edgesOf (R.take k)).length (flatE (Acre.edgesOf (R.take k))) ∧ Below w.heap.size w wr)) (fun _ i _ => R.length - (intOf i).toNat)
  case atStart => exact ⟨0, rfl, Nat.zero_le _, by simp [Acre.edgesOf], World.ownsRow_nil _ _ _ _, Below.refl _ _⟩
  case round =>
    obtain ⟨k, rfl, hk, hr⟩ := hrel
    by_cases hlt : k < R.length
    · obtain ⟨hE, o1, hw⟩ := hr.out
      obtain rfl := hga (by omega)
      obtain ⟨s, hs, hring⟩ := hcs k hlt
      obtain ⟨hr3, hr6⟩ := Hrk.out k hlt
      obtain ⟨ra, rb, roff, rcap, rfl, hra, hpts0⟩ := hring
      have het := edgesOf_take R k hlt
      obtain ⟨r, hrr⟩ : ∃ r, R[k] = r := ⟨_, rfl⟩
      rw [hrr] at hs hr3 hr6 hra hpts0 het
      obtain ⟨rfl, hrb⟩ := hra (by omega)
      obtain ⟨E, hEE⟩ : ∃ E, Acre.edgesOf (R.take k) = E := ⟨_, rfl⟩
      rw [hEE] at hE o1 het
      have Het : Hid _ := het
      clear het hrr hEE hr
      have hbw : b < w.heap.size := World.block_lt_of_cell? _ _ hs
      go_wp2
      go_loopw [3, 5] (fun l i w2 => ∃ j : Nat, i = .int .i64 j ∧ j ≤ r.length ∧ Hid (w2.ownsRow w.heap.size 53 4 l (E.length + j) (flatE (E ++ Acre.edgesTo r j)) ∧ Below w.heap.size w w2)) (fun _ i _ => r.length - (intOf i).toNat)
      case atStart => exact ⟨0, rfl, Nat.zero_le _, by simpa [Acre.edgesTo] using o1, hw⟩
      case round =>
        obtain ⟨j, rfl, hj, hr2⟩ := hrel
        obtain ⟨o2, hw2⟩ := hr2.out
        have hs2 := cell_later hw2 hs
        by_cases hjl : j < r.length
        · have hpts := hpts0.later hw2
          obtain ⟨p0, p1⟩ := hpts j hjl
          obtain ⟨jn, hjn⟩ : ∃ jn, (j + 1) % r.length = jn := ⟨_, rfl⟩
          have hjl' : jn < r.length := by rw [← hjn]; exact Nat.mod_lt _ (by omega)
          have hmod : ((j : Int) + 1) % (r.length : Int) = (jn : Int) := by rw [← hjn]; simp
          obtain ⟨n0, n1⟩ := hpts jn hjl'
          have hu : ∀ c, u3.ownBlock = some c → w.heap.size ≤ c ∧ c < wr.heap.size := o2.lt
          have lb : rb < wr.heap.size := World.block_lt_of_cell? _ _ n0
          have lbb : b < wr.heap.size := World.block_lt_of_cell? _ _ hs2
          have av : u3.ownBlock ≠ some b := fun e => by have := hu _ e; omega
          have ak : u3.ownBlock ≠ some rb := fun e => by have := hu _ e; omega
          have hj0 : (0 : Int) ≤ (jn : Int) := Int.natCast_nonneg _
          have hj1 : (jn : Int) < (r.length : Int) := by omega
          have hj2 : (0 : Int) ≤ (j : Int) := Int.natCast_nonneg _
          have hj3 : (j : Int) < (r.length : Int) := by omega
          have hk0 : (0 : Int) ≤ (k : Int) := Int.natCast_nonneg _
          have hk1 : (k : Int) < (R.length : Int) := by omega
          have hd : r.getD j (0, 0) = r[j] := by simp [List.getD, hjl]
          have hdn : r.getD jn (0, 0) = r[jn] := by simp [List.getD, hjl']
          have hes : Acre.edgesTo r (j + 1) = Acre.edgesTo r j ++ [(r[j], r[jn])] := by rw [Acre.edgesTo_succ, hjn, hd, hdn]
          have Hes : Hid _ := hes
          have hrm : ((j : Int) + 1).tmod (r.length : Int) = (jn : Int) := by rw [Int.tmod_eq_emod_of_nonneg (by omega)]; exact hmod
          have hnil : ¬ r = [] := fun e => by rw [e] at hr3; simp at hr3
          have hsum : IntKind.i64.wrap ((j : Int) + 1) = (j : Int) + 1 := wrap_in _ (by omega)
          clear hes hd hdn hjn hmod
          generalize r[j] = pj at *
          generalize r[jn] = pn at *
          go_wp2_with fail
          go_region_held3 (fun w' => w'.cell? ⟨b, off + k, none⟩ = some (.slice (some ⟨rb, roff, none⟩) r.length rcap) ∧ w'.cell? ⟨rb, roff + j * 2, none⟩ = some (.int .i64 pj.1) ∧ w'.cell? ⟨rb, roff + j * 2 + 1, none⟩ = some (.int .i64 pj.2) ∧ w'.cell? ⟨rb, roff + jn * 2, none⟩ = some (.int .i64 pn.1) ∧ w'.cell? ⟨rb, roff + jn * 2 + 1, none⟩ = some (.int .i64 pn.2))
            (first
              | go_keep
              | (go_split_ands
                 refine ⟨?_, ?_, ?_, ?_, ?_⟩
                 · (rw [hgrow.cell_far _ (Nat.lt_trans lbb (by simp)) (Ne.symm av)]; assumption)
                 · (rw [hgrow.cell_far _ (Nat.lt_trans lb (by simp)) (Ne.symm ak)]; assumption)
                 · (rw [hgrow.cell_far _ (Nat.lt_trans lb (by simp)) (Ne.symm ak)]; assumption)
                 · (rw [hgrow.cell_far _ (Nat.lt_trans lb (by simp)) (Ne.symm ak)]; assumption)
                 · (rw [hgrow.cell_far _ (Nat.lt_trans lb (by simp)) (Ne.symm ak)]; assumption)))
            ((refine step_append_lies _ (by rfl) _ _ _ (by rfl) w.heap.size 53 i0 _ 4 32 Try.underlying79 hi hz0 hz1 hz2 rfl (by omega) u3 (E.length + j) (flatE (E ++ Acre.edgesTo r j)) (by rfl) ((o2.alloc _).drew)
                ⟨wr.heap.size, 0, none⟩ 1 1 [.int .i64 pj.1, .int .i64 pj.2, .int .i64 pn.1, .int .i64 pn.2] (by rfl) (by rfl) (World.news_of_block (cs := #[.int .i64 pj.1, .int .i64 pj.2, .int .i64 pn.1, .int .i64 pn.2]) (t := 53) (fr := (0, 0)) (heap_alloc_new wr _)) (by simp [Value.oneCell'])
                (by omega) (by unfold maxLen; omega) (by omega) (by have := hw2.size; simp; omega) (wr.heap.size + 1) (by simp) ?_; intro gg cap' w1 hown1 hgrow hat hlt'))
          have n1 : w1.ownsRow w.heap.size 53 4 (.slice (some ⟨gg, 0, none⟩) (E.length + j + 1) cap') (E.length + (j + 1)) (flatE (E ++ Acre.edgesTo r (j + 1))) := by
            rw [Hes.out, ← List.append_assoc, flatE_append]; exact hown1
          have n2 : Below w.heap.size w w1 := (Below.drew (hw2.alloc hw2.size _)).grown hgrow (by have := hw2.size; simp; omega) (fun c hc => (hu c hc).1)
          have NN : Hid (w1.ownsRow w.heap.size 53 4 (.slice (some ⟨gg, 0, none⟩) (E.length + j + 1) cap') (E.length + (j + 1)) (flatE (E ++ Acre.edgesTo r (j + 1))) ∧ Below w.heap.size w w1) := ⟨n1, n2⟩
          clear n1 n2 hown1 hgrow
          go_wp2
          go_roundw
          case rel => exact ⟨j + 1, by go_num, by omega, NN⟩
          case measure => simp [intOf]; omega
        · obtain rfl : j = r.length := by omega
          rw [← Het.out] at o2
          have hlen : (Acre.edgesOf (R.take (k + 1))).length = E.length + r.length := by
            rw [Het.out, List.length_append]; simp [Acre.edgesTo]
          rw [← hlen] at o2
          have NN : Hid ((Acre.edgesOf (R.take (k + 1))).length ≤ 6 * (k + 1) ∧ wr.ownsRow w.heap.size 53 4 u3 (Acre.edgesOf (R.take (k + 1))).length (flatE (Acre.edgesOf (R.take (k + 1)))) ∧ Below w.heap.size w wr) := ⟨by omega, o2, hw2⟩
          clear o2 hlen
          go_wp2
          go_roundw
          case rel => exact ⟨k + 1, by go_num, by omega, NN⟩
          case measure => simp [intOf]; omega
    · obtain rfl : k = R.length := by omega
      obtain ⟨hE, o1, hw⟩ := hr.out
      rw [List.take_of_length_le (Nat.le_refl _)] at o1
      go_wp2
      go_ret
      exact ⟨_, rfl, o1, hw⟩

end Go.Proofs.Ytkjlkbgdkdcboaa
