import Derived.Test.YtkjlkbgdkdcboaaWalksX
import Derived.Test.YtkjlkbgdkdcboaaEnds
import Derived.Deep.AppendLies
import Derived.OwnWalk
namespace Go.Proofs.Ytkjlkbgdkdcboaa
open Go.RowKit
attribute [local go_sem ↓] Go.wp_at_zero Go.wp_at_succ

theorem info66 : (Try.prog.info? 66).map (fun i => (i.zero, i.size, i.bytes)) = some (some (.slice none 0 0), 1, 24) := by kernel_rfl

theorem flat_app (p q : List Acre.Pt) : flat (p ++ q) = flat p ++ flat q := by simp [flat]
theorem flat_at (p : List Acre.Pt) (k : Nat) (h : k < p.length) : (flat p)[k * 2]? = some (.int .i64 p[k].1) ∧ (flat p)[k * 2 + 1]? = some (.int .i64 p[k].2) := by
  induction p generalizing k with
  | nil => simp at h
  | cons a r ih =>
    cases k with
    | zero => simp [flat]
    | succ k =>
      have := ih k (by simpa using h)
      have e1 : (k + 1) * 2 = k * 2 + 1 + 1 := by omega
      simp only [flat, List.flatMap_cons] at *
      rw [e1]
      simpa using this

/-- a ring that has been copied, away from the row of l -/
def RingC (w : World) (l : Value) (s : Value) (ps : List Acre.Pt) : Prop :=
  ∃ ga b off cap, s = .slice ga ps.length cap ∧ (0 < ps.length → ga = some ⟨b, off, none⟩ ∧ b < w.heap.size ∧ l.ownBlock ≠ some b) ∧ PtsAt w b off ps

theorem RingC.below {w w' : World} {l s : Value} {ps : List Acre.Pt} (h : RingC w l s ps) (hb : Below w.heap.size w w') : RingC w' l s ps := by
  obtain ⟨ga, b, off, cap, h1, h2, h3⟩ := h
  exact ⟨ga, b, off, cap, h1, fun k => ⟨(h2 k).1, Nat.lt_of_lt_of_le (h2 k).2.1 hb.size, (h2 k).2.2⟩, h3.later hb⟩
theorem RingC.append {w w' : World} {l l' s : Value} {ps : List Acre.Pt} {H : Nat} (h : RingC w l s ps) (hg : w.grownBy w' l.ownBlock) (hl : l'.ownBlock = l.ownBlock ∨ l'.ownBlock = some H) (hH : w.heap.size ≤ H) : RingC w' l' s ps := by
  obtain ⟨ga, b, off, cap, h1, h2, h3⟩ := h
  refine ⟨ga, b, off, cap, h1, fun k => ?_, fun k hk => ?_⟩
  · obtain ⟨e1, e2, e3⟩ := h2 k
    refine ⟨e1, Nat.lt_of_lt_of_le e2 hg.size, ?_⟩
    rcases hl with e | e
    · rw [e]; exact e3
    · rw [e]; intro e'; simp at e'; omega
  · obtain ⟨e1, e2, e3⟩ := h2 (by omega)
    have c := h3 k hk
    exact ⟨hg.cell c.1 (fun e => e3 e.symm), hg.cell c.2 (fun e => e3 e.symm)⟩
theorem RingC.ring {w : World} {l s : Value} {ps : List Acre.Pt} (h : RingC w l s ps) : Ring w s ps := by
  obtain ⟨ga, b, off, cap, h1, h2, h3⟩ := h
  exact ⟨ga, b, off, cap, h1, fun k => ⟨(h2 k).1, (h2 k).2.1⟩, h3⟩
theorem RingC.row {w : World} {l v : Value} {H : Nat} {t : TypeId} {ps : List Acre.Pt} (h : w.ownsRow H t 2 v ps.length (flat ps)) (hl : ∀ c, l.ownBlock = some c → c < H) : RingC w l v ps := by
  rcases h.2 with ⟨rfl, h0⟩ | ⟨g, cap, cur, rfl, hHg, hgg, _⟩
  · refine ⟨none, 0, 0, 0, by rw [h0], fun k => absurd k (by omega), fun k hk => absurd hk (by omega)⟩
  · refine ⟨_, g, 0, cap, rfl, fun _ => ⟨rfl, (Array.getElem?_eq_some_iff.1 hgg).1, fun e => by have := hl g e; omega⟩, fun k hk => ?_⟩
    obtain ⟨e1, e2⟩ := flat_at ps k hk
    simp only [Nat.zero_add]
    exact ⟨(h.cellAt _ (by omega)).trans e1, (h.cellAt _ (by omega)).trans e2⟩

/-- what has been copied -/
def Copied (w : World) (base : Nat) (l : Value) (R : List (List Acre.Pt)) : Prop :=
  ∃ vs : List Value, vs.length = R.length ∧ (∀ u ∈ vs, u.oneCell' = true) ∧ w.ownsRow base 66 1 l R.length vs ∧ ∀ i (h : i < R.length) (h' : i < vs.length), RingC w l vs[i] R[i]

theorem Copied.rings {w : World} {base : Nat} {l : Value} {R : List (List Acre.Pt)} (h : Copied w base l R) : Rings w l R := by
  obtain ⟨vs, h1, _, h2, h3⟩ := h
  rcases h2.2 with ⟨rfl, h0⟩ | ⟨g, cap, cur, rfl, _⟩
  · exact ⟨none, 0, 0, 0, by rw [h0], fun k => absurd k (by omega), fun i hi => absurd hi (by omega)⟩
  · refine ⟨_, g, 0, cap, rfl, fun _ => rfl, fun i hi => ⟨vs[i], ?_, (h3 i hi (by omega)).ring⟩⟩
    rw [Nat.zero_add]
    exact (h2.cellAt i (by omega)).trans (List.getElem?_eq_getElem (by omega))

set_option maxRecDepth 100000 in
set_option maxHeartbeats 4000000 in
theorem field_any (R : List (List Acre.Pt)) (v : Value) (w : World) (hR : Rings w v R) (hn : R.length * 24 ≤ 140737488351232) (hm : ∀ r ∈ R, r.length * 16 ≤ 140737488351232) :
    Calls Try.prog 10 #[v] w fun e w' => ∃ u, e = .returned u ∧ Rings w' u R ∧ Below w.heap.size w w' := by
  obtain ⟨ga, b, off, cap, rfl, hga, hcs⟩ := hR
  obtain ⟨i0, hi, hz0, hz1, hz2⟩ := info_parts info51
  obtain ⟨i1, hi1, hy0, hy1, hy2⟩ := info_parts info66
  go_enter Try.func10, Try.ntmps10
  go_wp2
  go_loopw [3, 4] (fun l i wr => ∃ k : Nat, i = .int .i64 k ∧ k ≤ R.length ∧ Hid (Copied wr w.heap.size l (R.take k) ∧ Below w.heap.size w wr)) (fun _ i _ => R.length - (intOf i).toNat)
  case atStart => exact ⟨0, rfl, Nat.zero_le _, ⟨[], rfl, by simp, World.ownsRow_nil _ _ _ _, fun i h _ => by simp at h⟩, Below.refl _ _⟩
  case round =>
    obtain ⟨k, rfl, hk, hr⟩ := hrel
    by_cases hlt : k < R.length
    · obtain ⟨o1, hw⟩ := hr.out
      obtain rfl := hga (by omega)
      obtain ⟨s, hs, hring⟩ := hcs k hlt
      have hml := hm R[k] (List.getElem_mem hlt)
      obtain ⟨ra, rb, roff, rcap, rfl, hra, hpts0⟩ := hring
      have htk : R.take (k + 1) = R.take k ++ [R[k]] := List.take_succ_eq_append_getElem hlt
      obtain ⟨r, hrr⟩ : ∃ r, R[k] = r := ⟨_, rfl⟩
      rw [hrr] at hs hml hra hpts0 htk
      have Htk : Hid _ := htk
      have Ho1 : Hid (Copied wr w.heap.size u3 (R.take k)) := o1
      have hbw : b < w.heap.size := World.block_lt_of_cell? _ _ hs
      have hsW := hw.size
      clear htk hrr hr o1
      obtain ⟨WO, hWO⟩ : ∃ WO, WO = wr := ⟨_, rfl⟩
      subst hWO
      go_wp2
      go_loopw [5, 6] (fun q i w2 => ∃ j : Nat, i = .int .i64 j ∧ j ≤ r.length ∧ Hid (w2.ownsRow WO.heap.size 51 2 q j (flat (r.take j)) ∧ Below WO.heap.size WO w2)) (fun _ i _ => r.length - (intOf i).toNat)
      case atStart => exact ⟨0, rfl, Nat.zero_le _, World.ownsRow_nil _ _ _ _, Below.refl _ _⟩
      case round =>
        obtain ⟨j, rfl, hj, hr2⟩ := hrel
        obtain ⟨o2, hw2⟩ := hr2.out
        have hww : Below w.heap.size w wr := below_call hw2 hw
        have hs2 := cell_later hww hs
        have lbb : b < wr.heap.size := World.block_lt_of_cell? _ _ hs2
        have hk0 : (0 : Int) ≤ (k : Int) := Int.natCast_nonneg _
        have hk1 : (k : Int) < (R.length : Int) := by omega
        by_cases hjl : j < r.length
        · obtain ⟨rfl, hrb⟩ := hra (by omega)
          obtain ⟨p0, p1⟩ := (hpts0.later hww) j hjl
          have lb : rb < wr.heap.size := World.block_lt_of_cell? _ _ p0
          have hu : ∀ c, u5.ownBlock = some c → WO.heap.size ≤ c ∧ c < wr.heap.size := o2.lt
          have av : u5.ownBlock ≠ some b := fun e => by have := hu _ e; omega
          have ak : u5.ownBlock ≠ some rb := fun e => by have := hu _ e; omega
          have hj2 : (0 : Int) ≤ (j : Int) := Int.natCast_nonneg _
          have hj3 : (j : Int) < (r.length : Int) := by omega
          have hst : r.take (j + 1) = r.take j ++ [r[j]] := List.take_succ_eq_append_getElem hjl
          have Hst : Hid _ := hst
          clear hst
          generalize r[j] = pj at *
          go_wp2_with fail
          go_region_held3 (fun w' => w'.cell? ⟨b, off + k, none⟩ = some (.slice (some ⟨rb, roff, none⟩) r.length rcap) ∧ w'.cell? ⟨rb, roff + j * 2, none⟩ = some (.int .i64 pj.1) ∧ w'.cell? ⟨rb, roff + j * 2 + 1, none⟩ = some (.int .i64 pj.2))
            (first
              | go_keep
              | (go_split_ands
                 refine ⟨?_, ?_, ?_⟩
                 · (rw [hgrow.cell_far _ (Nat.lt_trans lbb (by simp)) (Ne.symm av)]; assumption)
                 · (rw [hgrow.cell_far _ (Nat.lt_trans lb (by simp)) (Ne.symm ak)]; assumption)
                 · (rw [hgrow.cell_far _ (Nat.lt_trans lb (by simp)) (Ne.symm ak)]; assumption)))
            ((refine step_append_lies _ (by rfl) _ _ _ (by rfl) WO.heap.size 51 i0 _ 2 16 Try.underlying66 hi hz0 hz1 hz2 rfl (by omega) u5 j (flat (r.take j)) (by rfl) ((o2.alloc _).drew)
                ⟨wr.heap.size, 0, none⟩ 1 1 [.int .i64 pj.1, .int .i64 pj.2] (by rfl) (by rfl) (World.news_of_block (cs := #[.int .i64 pj.1, .int .i64 pj.2]) (t := 51) (fr := (0, 0)) (heap_alloc_new wr _)) (by simp [Value.oneCell'])
                (by omega) (by unfold maxLen; omega) (by omega) (by have := hw2.size; simp; omega) (wr.heap.size + 1) (by simp) ?_; intro gg cap' w1 hown1 hgrow hat hlt'))
          have n1 : w1.ownsRow WO.heap.size 51 2 (.slice (some ⟨gg, 0, none⟩) (j + 1) cap') (j + 1) (flat (r.take (j + 1))) := by
            rw [Hst.out, flat_app]; exact hown1
          have n2 : Below WO.heap.size WO w1 := (Below.drew (hw2.alloc hw2.size _)).grown hgrow (by have := hw2.size; simp; omega) (fun c hc => (hu c hc).1)
          have NN : Hid (w1.ownsRow WO.heap.size 51 2 (.slice (some ⟨gg, 0, none⟩) (j + 1) cap') (j + 1) (flat (r.take (j + 1))) ∧ Below WO.heap.size WO w1) := ⟨n1, n2⟩
          clear n1 n2 hown1 hgrow
          go_wp2
          go_roundw
          case rel => exact ⟨j + 1, by go_num, by omega, NN⟩
          case measure => simp [intOf]; omega
        · obtain rfl : j = r.length := by omega
          rw [List.take_of_length_le (Nat.le_refl _)] at o2
          obtain ⟨vs, v1, v2, v3, v4⟩ := Ho1.out
          have hkl : (R.take k).length = k := by rw [List.length_take]; omega
          rw [hkl] at v1 v3
          have v3' := row_call v3 hw2
          have hlo : ∀ c, u3.ownBlock = some c → c < WO.heap.size := fun c hc => (v3.lt c hc).2
          have hnew : RingC wr u3 u5 r := RingC.row o2 hlo
          have hone : u5.oneCell' = true := by rcases o2.2 with ⟨rfl, _⟩ | ⟨g, cap, cur, rfl, _⟩ <;> rfl
          have Hnew : Hid (RingC wr u3 u5 r) := hnew
          have Hv4 : Hid (∀ i (h : i < (R.take k).length) (h' : i < vs.length), RingC wr u3 vs[i] (R.take k)[i]) := fun i h h' => (v4 i h h').below hw2
          have Hv2 : Hid _ := v2
          have hform : ∃ ga5 cap5, u5 = .slice ga5 r.length cap5 := by
            rcases o2.2 with ⟨rfl, h0⟩ | ⟨g, cap, cur, rfl, _⟩
            · exact ⟨none, 0, by rw [h0]⟩
            · exact ⟨_, _, rfl⟩
          obtain ⟨ga5, cap5, rfl⟩ := hform
          clear hnew v4 v2 v3
          go_wp2_with (first
            | (at_builtin; refine wpList_append_own_at _ rfl _ _ 29 rfl w.heap.size 66 i1 (.slice none 0 0) 1 24 Try.underlying29 hi1 hy0 hy1 hy2 rfl (by decide) _ _ _ rfl (v3'.alloc _) ⟨wr.heap.size, 0, none⟩ 1 1 [.slice ga5 r.length cap5] rfl rfl (cell_one_new _ _ _) ?_ ?_ ?_ ?_ ?_)
            | go_in)
          · intro u hu; simp only [List.mem_singleton] at hu; rw [hu]; rfl
          · unfold maxLen; omega
          · omega
          · have := hww.size; simp; omega
          · intro v' w' hown hgrow hne hob
            have n0 : Below w.heap.size w w' := (hww.alloc hww.size _).grown hgrow (by have := hww.size; simp; omega) (fun c hc => (v3'.lt c hc).1)
            have n1 : Copied w' w.heap.size v' (R.take (k + 1)) := by
              rw [Htk.out]
              refine ⟨vs ++ [.slice ga5 r.length cap5], by simp [v1, hkl], ?_, ?_, ?_⟩
              · intro u hu
                rcases List.mem_append.1 hu with h | h
                · exact Hv2.out u h
                · rw [List.mem_singleton.1 h]; rfl
              · have : (R.take k ++ [r]).length = k + 1 := by simp [hkl]
                rw [this]; exact hown
              · have hal : Below wr.heap.size wr (wr.alloc (.cells #[.slice ga5 r.length cap5] 66)) := (Below.refl _ _).alloc (Nat.le_refl _) _
                intro i h h'
                have hi' : i < k + 1 := by simpa [hkl] using h
                by_cases hik : i < k
                · have e1 : (vs ++ [Value.slice ga5 r.length cap5])[i] = vs[i]'(by omega) := List.getElem_append_left (by omega)
                  have e2 : (R.take k ++ [r])[i] = (R.take k)[i]'(by omega) := List.getElem_append_left (by omega)
                  rw [e1, e2]
                  exact ((Hv4.out i (by omega) (by omega)).below hal).append hgrow hob (by simp)
                · obtain rfl : i = k := by omega
                  have e1 : (vs ++ [Value.slice ga5 r.length cap5])[i] = Value.slice ga5 r.length cap5 := by
                    rw [List.getElem_append_right (by omega)]; simp [v1]
                  have e2 : (R.take i ++ [r])[i] = r := by
                    rw [List.getElem_append_right (by omega)]; simp [hkl]
                  rw [e1, e2]
                  exact (Hnew.out.below hal).append hgrow hob (by simp)
            have NN : Hid (Copied w' w.heap.size v' (R.take (k + 1)) ∧ Below w.heap.size w w') := ⟨n1, n0⟩
            clear n0 n1 hown hgrow
            go_wp2
            go_roundw
            case rel => exact ⟨k + 1, by go_num, by omega, NN⟩
            case measure => simp [intOf]; omega
    · obtain rfl : k = R.length := by omega
      obtain ⟨o1, hw⟩ := hr.out
      rw [List.take_of_length_le (Nat.le_refl _)] at o1
      go_wp2
      go_ret
      exact ⟨_, rfl, o1.rings, hw⟩

end Go.Proofs.Ytkjlkbgdkdcboaa
