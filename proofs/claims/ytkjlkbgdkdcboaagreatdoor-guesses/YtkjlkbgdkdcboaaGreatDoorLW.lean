import Derived.Test.YtkjlkbgdkdcboaaGreatDoorWaA
import Derived.Test.YtkjlkbgdkdcboaaGreatDoorMaA
import Derived.Test.YtkjlkbgdkdcboaaGreatDoorPaA
import Derived.Test.YtkjlkbgdkdcboaaGreatDoorFI
import Derived.Test.YtkjlkbgdkdcboaaGreatDoorGyA
import Derived.Test.YtkjlkbgdkdcboaaGreatDoorCeC
import Derived.Test.YtkjlkbgdkdcboaaGreatDoorCE
import Derived.Test.YtkjlkbgdkdcboaaGreatDoorMB

set_option linter.unusedSimpArgs false
set_option linter.unusedVariables false

set_option linter.unusedSimpArgs false
set_option linter.unusedVariables false
namespace Go.Proofs.YtkjlkbgdkdcboaaGreatDoor
open Go.RowKit
attribute [local go_sem ↓] Go.wp_at_zero Go.wp_at_succ
theorem info53 : (Tryz.prog.info? 86).map (fun i => (i.zero, i.size, i.bytes)) = some (some (.agg #[.int .i64 0, .int .i64 0, .int .i64 0, .int .i64 0]), 4, 32) := by kernel_rfl
set_option maxRecDepth 100000 in
set_option maxHeartbeats 4000000 in
theorem rEdges_any (R : List (List Acre.Pt)) (v : Value) (w : World) (hR : Rings w v R) (hF : Acre.fieldOk R = true) :
    Calls Tryz.prog 17 #[v] w fun e w' => ∃ u, e = .returned u ∧ w'.ownsRow w.heap.size 86 4 u (Acre.edgesOf R).length (flatE (Acre.edgesOf R)) ∧ Below w.heap.size w w' := by
  obtain ⟨ga, b, off, cap, rfl, hga, hcs⟩ := hR
  obtain ⟨i0, hi, hz0, hz1, hz2⟩ := info_parts info53
  have hR2 := fieldOk_len hF
  have hrk := fieldOk_ring hF
  have Hrk : Hid _ := hrk
  clear hF hrk
  go_enter Tryz.func17, Tryz.ntmps17
  go_wp2
  go_loopw [3, 4] (fun l i wr => ∃ k : Nat, i = .int .i64 k ∧ k ≤ R.length ∧ Hid ((Acre.edgesOf (R.take k)).length ≤ 6 * k ∧ wr.ownsRow w.heap.size 86 4 l (Acre.edgesOf (R.take k)).length (flatE (Acre.edgesOf (R.take k))) ∧ Below w.heap.size w wr)) (fun _ i _ => R.length - (intOf i).toNat)
  case atStart => exact ⟨0, rfl, Nat.zero_le _, by simp [Acre.edgesOf], World.ownsRow_nil _ _ _ _, Below.refl _ _⟩
  case round =>
    obtain ⟨k, rfl, hk, hr⟩ := hrel
    by_cases hlt : k < R.length
    · obtain ⟨hE, o1, hw⟩ := hr.out
      obtain rfl := hga (by omega)
      obtain ⟨s, hs, hring⟩ := hcs k hlt
      obtain ⟨hr3, hr6⟩ := Hrk.out k hlt
      obtain ⟨ra, rb, roff, rcap, rfl, hra, hpts0⟩ := hring
      have het := edgesOf_take R k hlt
      obtain ⟨r, hrr⟩ : ∃ r, R[k] = r := ⟨_, rfl⟩
      rw [hrr] at hs hr3 hr6 hra hpts0 het
      obtain ⟨rfl, hrb⟩ := hra (by omega)
      obtain ⟨E, hEE⟩ : ∃ E, Acre.edgesOf (R.take k) = E := ⟨_, rfl⟩
      rw [hEE] at hE o1 het
      have Het : Hid _ := het
      clear het hrr hEE hr
      have hbw : b < w.heap.size := World.block_lt_of_cell? _ _ hs
      go_wp2
      go_loopw [3, 5] (fun l i w2 => ∃ j : Nat, i = .int .i64 j ∧ j ≤ r.length ∧ Hid (w2.ownsRow w.heap.size 86 4 l (E.length + j) (flatE (E ++ Acre.edgesTo r j)) ∧ Below w.heap.size w w2)) (fun _ i _ => r.length - (intOf i).toNat)
      case atStart => exact ⟨0, rfl, Nat.zero_le _, by simpa [Acre.edgesTo] using o1, hw⟩
      case round =>
        obtain ⟨j, rfl, hj, hr2⟩ := hrel
        obtain ⟨o2, hw2⟩ := hr2.out
        have hs2 := cell_later hw2 hs
        by_cases hjl : j < r.length
        · have hpts := hpts0.later hw2
          obtain ⟨p0, p1⟩ := hpts j hjl
          obtain ⟨jn, hjn⟩ : ∃ jn, (j + 1) % r.length = jn := ⟨_, rfl⟩
          have hjl' : jn < r.length := by rw [← hjn]; exact Nat.mod_lt _ (by omega)
          have hmod : ((j : Int) + 1) % (r.length : Int) = (jn : Int) := by rw [← hjn]; simp
          obtain ⟨n0, n1⟩ := hpts jn hjl'
          have hu : ∀ c, u3.ownBlock = some c → w.heap.size ≤ c ∧ c < wr.heap.size := o2.lt
          have lb : rb < wr.heap.size := World.block_lt_of_cell? _ _ n0
          have lbb : b < wr.heap.size := World.block_lt_of_cell? _ _ hs2
          have av : u3.ownBlock ≠ some b := fun e => by have := hu _ e; omega
          have ak : u3.ownBlock ≠ some rb := fun e => by have := hu _ e; omega
          have hj0 : (0 : Int) ≤ (jn : Int) := Int.natCast_nonneg _
          have hj1 : (jn : Int) < (r.length : Int) := by omega
          have hj2 : (0 : Int) ≤ (j : Int) := Int.natCast_nonneg _
          have hj3 : (j : Int) < (r.length : Int) := by omega
          have hk0 : (0 : Int) ≤ (k : Int) := Int.natCast_nonneg _
          have hk1 : (k : Int) < (R.length : Int) := by omega
          have hd : r.getD j (0, 0) = r[j] := by simp [List.getD, hjl]
          have hdn : r.getD jn (0, 0) = r[jn] := by simp [List.getD, hjl']
          have hes : Acre.edgesTo r (j + 1) = Acre.edgesTo r j ++ [(r[j], r[jn])] := by rw [Acre.edgesTo_succ, hjn, hd, hdn]
          have Hes : Hid _ := hes
          have hrm : ((j : Int) + 1).tmod (r.length : Int) = (jn : Int) := by rw [Int.tmod_eq_emod_of_nonneg (by omega)]; exact hmod
          have hnil : ¬ r = [] := fun e => by rw [e] at hr3; simp at hr3
          have hsum : IntKind.i64.wrap ((j : Int) + 1) = (j : Int) + 1 := wrap_in _ (by omega)
          clear hes hd hdn hjn hmod
          generalize r[j] = pj at *
          generalize r[jn] = pn at *
          go_wp2_with fail
          go_region_held3 (fun w' => w'.cell? ⟨b, off + k, none⟩ = some (.slice (some ⟨rb, roff, none⟩) r.length rcap) ∧ w'.cell? ⟨rb, roff + j * 2, none⟩ = some (.int .i64 pj.1) ∧ w'.cell? ⟨rb, roff + j * 2 + 1, none⟩ = some (.int .i64 pj.2) ∧ w'.cell? ⟨rb, roff + jn * 2, none⟩ = some (.int .i64 pn.1) ∧ w'.cell? ⟨rb, roff + jn * 2 + 1, none⟩ = some (.int .i64 pn.2))
            (first
              | go_keep
              | (go_split_ands
                 refine ⟨?_, ?_, ?_, ?_, ?_⟩
                 · (rw [hgrow.cell_far _ (Nat.lt_trans lbb (by simp)) (Ne.symm av)]; assumption)
                 · (rw [hgrow.cell_far _ (Nat.lt_trans lb (by simp)) (Ne.symm ak)]; assumption)
                 · (rw [hgrow.cell_far _ (Nat.lt_trans lb (by simp)) (Ne.symm ak)]; assumption)
                 · (rw [hgrow.cell_far _ (Nat.lt_trans lb (by simp)) (Ne.symm ak)]; assumption)
                 · (rw [hgrow.cell_far _ (Nat.lt_trans lb (by simp)) (Ne.symm ak)]; assumption)))
            ((refine step_append_lies _ (by rfl) _ _ _ (by rfl) w.heap.size 86 i0 _ 4 32 Tryz.underlying25 hi hz0 hz1 hz2 rfl (by omega) u3 (E.length + j) (flatE (E ++ Acre.edgesTo r j)) (by rfl) ((o2.alloc _).drew)
                ⟨wr.heap.size, 0, none⟩ 1 1 [.int .i64 pj.1, .int .i64 pj.2, .int .i64 pn.1, .int .i64 pn.2] (by rfl) (by rfl) (World.news_of_block (cs := #[.int .i64 pj.1, .int .i64 pj.2, .int .i64 pn.1, .int .i64 pn.2]) (t := 86) (fr := (0, 0)) (heap_alloc_new wr _)) (by simp [Value.oneCell'])
                (by omega) (by unfold maxLen; omega) (by omega) (by have := hw2.size; simp; omega) (wr.heap.size + 1) (by simp) ?_; intro gg cap' w1 hown1 hgrow hat hlt'))
          have n1 : w1.ownsRow w.heap.size 86 4 (.slice (some ⟨gg, 0, none⟩) (E.length + j + 1) cap') (E.length + (j + 1)) (flatE (E ++ Acre.edgesTo r (j + 1))) := by
            rw [Hes.out, ← List.append_assoc, flatE_append]; exact hown1
          have n2 : Below w.heap.size w w1 := (Below.drew (hw2.alloc hw2.size _)).grown hgrow (by have := hw2.size; simp; omega) (fun c hc => (hu c hc).1)
          have NN : Hid (w1.ownsRow w.heap.size 86 4 (.slice (some ⟨gg, 0, none⟩) (E.length + j + 1) cap') (E.length + (j + 1)) (flatE (E ++ Acre.edgesTo r (j + 1))) ∧ Below w.heap.size w w1) := ⟨n1, n2⟩
          clear n1 n2 hown1 hgrow
          go_wp2
          go_roundw
          case rel => exact ⟨j + 1, by go_num, by omega, NN⟩
          case measure => simp [intOf]; omega
        · obtain rfl : j = r.length := by omega
          rw [← Het.out] at o2
          have hlen : (Acre.edgesOf (R.take (k + 1))).length = E.length + r.length := by
            rw [Het.out, List.length_append]; simp [Acre.edgesTo]
          rw [← hlen] at o2
          have NN : Hid ((Acre.edgesOf (R.take (k + 1))).length ≤ 6 * (k + 1) ∧ wr.ownsRow w.heap.size 86 4 u3 (Acre.edgesOf (R.take (k + 1))).length (flatE (Acre.edgesOf (R.take (k + 1)))) ∧ Below w.heap.size w wr) := ⟨by omega, o2, hw2⟩
          clear o2 hlen
          go_wp2
          go_roundw
          case rel => exact ⟨k + 1, by go_num, by omega, NN⟩
          case measure => simp [intOf]; omega
    · obtain rfl : k = R.length := by omega
      obtain ⟨hE, o1, hw⟩ := hr.out
      rw [List.take_of_length_le (Nat.le_refl _)] at o1
      go_wp2
      go_ret
      exact ⟨_, rfl, o1, hw⟩
end Go.Proofs.YtkjlkbgdkdcboaaGreatDoor
namespace Go.Proofs.YtkjlkbgdkdcboaaGreatDoor
open Go.RowKit
attribute [local go_sem ↓] Go.wp_at_zero Go.wp_at_succ
end Go.Proofs.YtkjlkbgdkdcboaaGreatDoor
namespace Go.Proofs.YtkjlkbgdkdcboaaGreatDoor
open Go.RowKit
attribute [local go_sem ↓] Go.wp_at_zero Go.wp_at_succ
theorem num_any (n : Int) (w : World) : Calls Tryz.prog 8 #[.int .i64 n] w fun e w' => e = .returned (.int .i64 n) ∧ w' = w := by
  go_enter Tryz.func8, Tryz.ntmps8
  go_wp2
  go_ret
  exact ⟨rfl, rfl⟩
end Go.Proofs.YtkjlkbgdkdcboaaGreatDoor
namespace Go.Proofs.YtkjlkbgdkdcboaaGreatDoor
open Go.RowKit
attribute [local go_sem ↓] Go.wp_at_zero Go.wp_at_succ
def hD (a b : Acre.Pt) (x y : Acre.Fc) : Int := (y.1 - a.2 * y.2) * (b.1 - a.1) * x.2 - (x.1 - a.1 * x.2) * (b.2 - a.2) * y.2
theorem bS {w V : World} {b o : Nat} {v : Value} (h : Below w.heap.size w V) (hb : w.heap.size ≤ b) : Below w.heap.size w (V.setCell ⟨b, o, none⟩ v) := h.setCell (p := ⟨b, o, none⟩) hb v
theorem bA {w V : World} {o : Obj} (h : Below w.heap.size w V) : Below w.heap.size w (V.alloc o) := h.alloc h.size o
end Go.Proofs.YtkjlkbgdkdcboaaGreatDoor

set_option linter.unusedSimpArgs false
set_option linter.unusedVariables false
namespace Go.Proofs.YtkjlkbgdkdcboaaGreatDoor
open Go.RowKit Go.Maps
attribute [local go_sem ↓] Go.wp_at_zero Go.wp_at_succ
theorem ordF_lt {f h : Acre.Fc} (h1 : Acre.ordF f h < 0) : Acre.Lt f h := by
  unfold Acre.ordF Acre.sgn at h1
  unfold Acre.Lt
  by_cases a : f.1 * h.2 - h.1 * f.2 < 0
  · omega
  · rw [if_neg a] at h1
    split at h1 <;> omega
theorem isL_mem {E : List Acre.Ed} {n : Int} (h0 : 0 ≤ n) (h : isL E n = true) : Acre.gd E n.toNat ∈ E ∧ Acre.upr (Acre.gd E n.toNat) = false := by
  unfold isL at h
  simp at h
  exact ⟨Acre.gd_mem (by omega), h.2⟩
theorem pieceC_good {E : List Acre.Ed} {d : Dr} {p : Acre.Pc} (hd : drOk d) (h : pieceC E d = some p) : Acre.Good E p ∧ CutOk p.1.1 ∧ CutOk p.1.2 := by
  unfold pieceC at h
  split at h
  · rename_i hc
    obtain ⟨h1, h2, h3, h4, h5⟩ := hc
    simp only [Option.some.injEq] at h
    rw [← h]
    have c1 := within_ok h1
    have c2 := within_ok h2
    exact ⟨⟨c1.lim, c2.lim, ordF_lt h3, isL_mem hd.1 h4, isL_mem hd.2 h5⟩, c1, c2⟩
  · simp at h
theorem certC_good {s : ByteArray} {E : List Acre.Ed} {ps : List Acre.Pc} (h : certC s E = some ps) : (∀ p ∈ ps, Acre.Good E p) ∧ (∀ p ∈ ps, CutOk p.1.1 ∧ CutOk p.1.2) ∧ ps.length ≤ 4000 := by
  unfold certC at h
  rw [Option.bind_eq_some_iff] at h
  obtain ⟨ds, hds, h2⟩ := h
  split at h2
  · rename_i hl
    obtain ⟨h3, h4⟩ := allC_mem ds ps h2
    have hall : ∀ p ∈ ps, Acre.Good E p ∧ CutOk p.1.1 ∧ CutOk p.1.2 := fun p hp => by
      obtain ⟨d, hd, hpd⟩ := h3 p hp
      exact pieceC_good (draftsC_ok hds d hd) hpd
    exact ⟨fun p hp => (hall p hp).1, fun p hp => (hall p hp).2, by omega⟩
  · simp at h2
def checkP (s : ByteArray) (E : List Acre.Ed) (kk : Nat) (op : Int) : Option (List Acre.Pc) := if 200000 < s.size then none else (certC s E).bind fun ps => if Acre.filledP E kk op ps = true then some ps else none
theorem pair_fields {a b : ByteArray} {op : Int} (h : (errP a b op).1 = 0) : (readP a).2.1 = 0 ∧ (readP b).2.1 = 0 ∧ ¬ (op < 0 ∨ 3 < op) := by
  unfold errP at h
  by_cases h1 : (readP a).2.1 = 0
  · rw [if_pos h1] at h
    by_cases h2 : (readP b).2.1 = 0
    · rw [if_pos h2] at h
      by_cases h3 : op < 0 ∨ 3 < op
      · rw [if_pos h3] at h; simp at h
      · exact ⟨h1, h2, h3⟩
    · rw [if_neg h2] at h; exact absurd h h2
  · rw [if_neg h1] at h; exact absurd h h1
end Go.Proofs.YtkjlkbgdkdcboaaGreatDoor
namespace Go.Proofs.YtkjlkbgdkdcboaaGreatDoor
end Go.Proofs.YtkjlkbgdkdcboaaGreatDoor
namespace Go.Proofs.YtkjlkbgdkdcboaaGreatDoor
end Go.Proofs.YtkjlkbgdkdcboaaGreatDoor
namespace Go.Proofs.YtkjlkbgdkdcboaaGreatDoor
open Go.RowKit
attribute [local go_sem ↓] Go.wp_at_zero Go.wp_at_succ
end Go.Proofs.YtkjlkbgdkdcboaaGreatDoor
namespace Go.Proofs.YtkjlkbgdkdcboaaGreatDoor
open Go.RowKit
theorem edgesTo_len (r : List Acre.Pt) (k : Nat) : (Acre.edgesTo r k).length = k := by unfold Acre.edgesTo; simp
theorem edges_le12 {R : List (List Acre.Pt)} (h : Acre.fieldOk R = true) : (Acre.edgesOf R).length ≤ 12 := by
  unfold Acre.fieldOk at h
  simp only [Bool.and_eq_true, decide_eq_true_eq, List.all_eq_true] at h
  have := flatMap_le (fun r => Acre.edgesTo r r.length) 6 R (fun r hr => by
    rw [edgesTo_len]
    have := h.2 r hr
    unfold Acre.ringOk at this
    simp only [Bool.and_eq_true, decide_eq_true_eq] at this
    omega)
  unfold Acre.edgesOf
  have h1 := Nat.mul_le_mul_left 6 h.1
  omega
theorem fld_sm {E : List Acre.Ed} (F : Acre.Fld E) : ∀ e ∈ E, SmE e := fun e he => by
  have h := F.grid e he
  have a := onG h.1
  have b := onG h.2
  exact ⟨⟨by omega, by omega⟩, ⟨by omega, by omega⟩⟩
theorem pair_ok {a b : ByteArray} {op : Int} (h : (errP a b op).1 = 0) : Acre.Fld (pairE a b) ∧ (∀ e ∈ pairE a b, SmE e) ∧ (pairE a b).length ≤ 24 ∧ (Acre.edgesOf (readP a).1).length ≤ 24 := by
  obtain ⟨h1, h2, _⟩ := pair_fields h
  have F := (Acre.fld_of (read_field h1)).append (Acre.fld_of (read_field h2))
  have l1 := edges_le12 (read_field h1)
  have l2 := edges_le12 (read_field h2)
  refine ⟨F, fld_sm F, ?_, by omega⟩
  unfold pairE
  rw [List.length_append]
  omega
end Go.Proofs.YtkjlkbgdkdcboaaGreatDoor
namespace Go.Proofs.YtkjlkbgdkdcboaaGreatDoor
end Go.Proofs.YtkjlkbgdkdcboaaGreatDoor
