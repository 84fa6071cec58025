import Derived.Test.YtkjlkbgdkdcboaaGreatDoorFaA
import Derived.Test.YtkjlkbgdkdcboaaGreatDoorCoA

set_option linter.unusedSimpArgs false
set_option linter.unusedVariables false

set_option linter.unusedSimpArgs false
set_option linter.unusedVariables false

namespace Go.Proofs.YtkjlkbgdkdcboaaGreatDoor
open Go.RowKit
attribute [local go_sem ↓] Go.wp_at_zero Go.wp_at_succ

def ptOf (p : Sp) : Acre.Pt := (p.1.2, p.2.2)

/-- a ring that is answered: new memory from base on, away from the list's row -/
def RingP (w : World) (base : Nat) (l : Value) (v : Value) (ps : List Acre.Pt) : Prop :=
  ∃ ga b off cap, v = .slice ga ps.length cap ∧ (0 < ps.length → ga = some ⟨b, off, none⟩ ∧ b < w.heap.size ∧ base ≤ b ∧ l.ownBlock ≠ some b ∧ ∀ o, w.frozen? ⟨b, o, none⟩ = false) ∧ PtsAt w b off ps
theorem RingP.below {w w' : World} {base : Nat} {l s : Value} {ps : List Acre.Pt} (h : RingP w base l s ps) (hb : Below w.heap.size w w') : RingP w' base l s ps := by
  obtain ⟨ga, b, off, cap, h1, h2, h3⟩ := h
  exact ⟨ga, b, off, cap, h1, fun k => ⟨(h2 k).1, Nat.lt_of_lt_of_le (h2 k).2.1 hb.size, (h2 k).2.2.1, (h2 k).2.2.2.1, fun o => (hb.frozen (h2 k).2.1).trans ((h2 k).2.2.2.2 o)⟩, h3.later hb⟩
theorem RingP.append {w w' : World} {base : Nat} {l l' s : Value} {ps : List Acre.Pt} {H : Nat} (h : RingP w base l s ps) (hg : w.grownBy w' l.ownBlock) (hl : l'.ownBlock = l.ownBlock ∨ l'.ownBlock = some H) (hH : w.heap.size ≤ H) : RingP w' base l' s ps := by
  obtain ⟨ga, b, off, cap, h1, h2, h3⟩ := h
  refine ⟨ga, b, off, cap, h1, fun k => ?_, fun k hk => ?_⟩
  · obtain ⟨e1, e2, e4, e3, e5⟩ := h2 k
    have hbk : w'.heap[b]? = w.heap[b]? := hg.block b e2 (fun e => e3 e.symm)
    refine ⟨e1, Nat.lt_of_lt_of_le e2 hg.size, e4, ?_, fun o => (World.frozen?_of_block (w := w) hbk).trans (e5 o)⟩
    rcases hl with e | e
    · rw [e]; exact e3
    · rw [e]; intro e'; simp at e'; omega
  · obtain ⟨e1, e2, e4, e3, e5⟩ := h2 (by omega)
    have c := h3 k hk
    exact ⟨hg.cell c.1 (fun e => e3 e.symm), hg.cell c.2 (fun e => e3 e.symm)⟩
theorem RingP.ring {w : World} {base : Nat} {l s : Value} {ps : List Acre.Pt} (h : RingP w base l s ps) : Ring w s ps := by
  obtain ⟨ga, b, off, cap, h1, h2, h3⟩ := h
  exact ⟨ga, b, off, cap, h1, fun k => ⟨(h2 k).1, (h2 k).2.1⟩, h3⟩
theorem RingP.row {w : World} {base : Nat} {l v : Value} {H : Nat} {t : TypeId} {ps : List Acre.Pt} (h : w.ownsRow H t 2 v ps.length (flat ps)) (hl : ∀ c, l.ownBlock = some c → c < H) (hb : base ≤ H) : RingP w base l v ps := by
  rcases h.2 with ⟨rfl, h0⟩ | ⟨g, cap, cur, rfl, hHg, hgg, _⟩
  · refine ⟨none, 0, 0, 0, by rw [h0], fun k => absurd k (by omega), fun k hk => absurd hk (by omega)⟩
  · refine ⟨_, g, 0, cap, rfl, fun _ => ⟨rfl, (Array.getElem?_eq_some_iff.1 hgg).1, by omega, fun e => by have := hl g e; omega, fun o => ?_⟩, fun k hk => ?_⟩
    · simp [World.frozen?, hgg]
    · obtain ⟨e1, e2⟩ := flat_at ps k hk
      simp only [Nat.zero_add]
      exact ⟨(h.cellAt _ (by omega)).trans e1, (h.cellAt _ (by omega)).trans e2⟩

/-- the rings that are answered -/
def Answer (w : World) (base : Nat) (l : Value) (R : List (List Acre.Pt)) : Prop :=
  ∃ vs : List Value, vs.length = R.length ∧ (∀ u ∈ vs, u.oneCell' = true) ∧ w.ownsRow base 132 1 l R.length vs ∧ ∀ i (h : i < R.length) (h' : i < vs.length), RingP w base l vs[i] R[i]
theorem Answer.rings {w : World} {base : Nat} {l : Value} {R : List (List Acre.Pt)} (h : Answer w base l R) : Rings w l R := by
  obtain ⟨vs, h1, _, h2, h3⟩ := h
  rcases h2.2 with ⟨rfl, h0⟩ | ⟨g, cap, cur, rfl, _⟩
  · exact ⟨none, 0, 0, 0, by rw [h0], fun k => absurd k (by omega), fun i hi => absurd hi (by omega)⟩
  · refine ⟨_, g, 0, cap, rfl, fun _ => rfl, fun i hi => ⟨vs[i], ?_, (h3 i hi (by omega)).ring⟩⟩
    rw [Nat.zero_add]
    exact (h2.cellAt i (by omega)).trans (List.getElem?_eq_getElem (by omega))

theorem info28 : (Tryz.prog.info? 40).map (fun i => (i.zero, i.size, i.bytes)) = some (some (.agg #[.int .i64 0, .int .i64 0]), 2, 16) := by kernel_rfl
theorem info26 : (Tryz.prog.info? 132).map (fun i => (i.zero, i.size, i.bytes)) = some (some (.slice none 0 0), 1, 24) := by kernel_rfl

theorem cell_two_at' (w : World) (o : Obj) (x y : Value) (t : TypeId) : ∀ j u, [x, y][j]? = some u → ((w.alloc o).alloc (.cells #[x, y] t)).cell? ((⟨w.heap.size + 1, 0, none⟩ : Addr).add j) = some u := by
  have := cell_two_new (w.alloc o) x y t
  simpa using this

set_option maxRecDepth 100000 in
set_option maxHeartbeats 4000000 in
theorem pointsOf_any (R : List (List Sp)) (v : Value) (w : World) (hR : RSpots w v R) (hn : R.length ≤ 1000) (hm : ∀ r ∈ R, r.length ≤ 1000) :
    Calls Tryz.prog 52 #[v] w fun e w' => ∃ u, e = .returned u ∧ Answer w' w.heap.size u (R.map (fun r => r.map ptOf)) ∧ Below w.heap.size w w' := by
  obtain ⟨ga, b, off, cap, rfl, hga, hcs⟩ := hR
  obtain ⟨i0, hi, hz0, hz1, hz2⟩ := info_parts info28
  obtain ⟨i1, hi1, hy0, hy1, hy2⟩ := info_parts info26
  obtain ⟨Q, hQ⟩ : ∃ Q, R.map (fun r => r.map ptOf) = Q := ⟨_, rfl⟩
  rw [hQ]
  have hQl : Q.length = R.length := by rw [← hQ, List.length_map]
  have hQk : ∀ k (h : k < R.length) (h' : k < Q.length), Q[k] = R[k].map ptOf := fun k h h' => by subst hQ; simp
  clear hQ
  go_enter Tryz.func52, Tryz.ntmps52
  go_wp2
  go_loopw [3, 11] (fun l i wr => ∃ k : Nat, i = .int .i64 k ∧ k ≤ R.length ∧ Hid (Answer wr w.heap.size l (Q.take k) ∧ Below w.heap.size w wr)) (fun _ i _ => R.length - (intOf i).toNat)
  case atStart => exact ⟨0, rfl, Nat.zero_le _, ⟨[], rfl, by simp, World.ownsRow_nil _ _ _ _, fun i h _ => by simp at h⟩, Below.refl _ _⟩
  case round =>
    obtain ⟨k, rfl, hk, hr⟩ := hrel
    by_cases hlt : k < R.length
    · obtain ⟨o1, hw⟩ := hr.out
      obtain rfl := hga (by omega)
      obtain ⟨s, hs, hring⟩ := hcs k hlt
      have hml := hm R[k] (List.getElem_mem hlt)
      obtain ⟨ra, rb, roff, rcap, rfl, hra, hpts0⟩ := hring
      have htk : Q.take (k + 1) = Q.take k ++ [R[k].map ptOf] := by rw [List.take_succ_eq_append_getElem (show k < Q.length by omega), hQk k hlt (by omega)]
      obtain ⟨r, hrr⟩ : ∃ r, R[k] = r := ⟨_, rfl⟩
      rw [hrr] at hs hml hra hpts0 htk
      have Htk : Hid _ := htk
      have Ho1 : Hid (Answer wr w.heap.size u3 (Q.take k)) := o1
      have hbw : b < w.heap.size := World.block_lt_of_cell? _ _ hs
      have hsW := hw.size
      have hk0 : (0 : Int) ≤ (k : Int) := Int.natCast_nonneg _
      have hk1 : (k : Int) < (R.length : Int) := by omega
      have hs2 := cell_later hw hs
      clear htk hrr hr o1
      obtain ⟨WO, hWO⟩ : ∃ WO, WO = wr := ⟨_, rfl⟩
      subst hWO
      go_wp2
      go_loopw [6, 17] (fun q i w2 => ∃ j : Nat, i = .int .i64 j ∧ j ≤ r.length ∧ Hid (w2.ownsRow WO.heap.size 40 2 q j (flat ((r.map ptOf).take j)) ∧ Below WO.heap.size WO w2)) (fun _ i _ => r.length - (intOf i).toNat)
      case atStart => exact ⟨0, rfl, Nat.zero_le _, World.ownsRow_nil _ _ _ _, Below.refl _ _⟩
      case round =>
        obtain ⟨j, rfl, hj, hr2⟩ := hrel
        obtain ⟨o2, hw2⟩ := hr2.out
        have hww : Below w.heap.size w wr := below_call hw2 hw
        by_cases hjl : j < r.length
        · obtain ⟨rfl, hrb⟩ := hra (by omega)
          obtain ⟨p0, p1, p2, p3⟩ := (hpts0.later hww) j hjl
          have hj2 : (0 : Int) ≤ (j : Int) := Int.natCast_nonneg _
          have hj3 : (j : Int) < (r.length : Int) := by omega
          have hst : (r.map ptOf).take (j + 1) = (r.map ptOf).take j ++ [ptOf r[j]] := by rw [List.take_succ_eq_append_getElem (by simpa using hjl)]; simp
          have Hst : Hid _ := hst
          have hu : ∀ c, u6.ownBlock = some c → WO.heap.size ≤ c ∧ c < wr.heap.size := o2.lt
          clear hst
          generalize r[j] = pj at *
          go_wp2_with (at_builtin; refine wpList_append_own_at _ rfl _ _ 132 rfl WO.heap.size 40 i0 (.agg #[.int .i64 0, .int .i64 0]) 2 16 Tryz.underlying132 hi hz0 hz1 hz2 rfl (by decide) _ _ _ rfl ((o2.alloc _).alloc _) ⟨wr.heap.size + 1, 0, none⟩ 1 1 [.int .i64 pj.1.2, .int .i64 pj.2.2] rfl rfl (cell_two_at' _ _ _ _ _) (one2 _ _) (by unfold maxLen; omega) (by omega) (by have := hw2.size; simp; omega) ?_)
          intro v1 w1 hown1 hgrow hne1 hob1
          have n1 : w1.ownsRow WO.heap.size 40 2 v1 (j + 1) (flat ((r.map ptOf).take (j + 1))) := by
            rw [Hst.out, flat_app]; exact hown1
          have n2 : Below WO.heap.size WO w1 := ((hw2.alloc hw2.size _).alloc (by have := hw2.size; simp; omega) _).grown hgrow (by have := hw2.size; simp; omega) (fun c hc => (hu c hc).1)
          have NN : Hid (w1.ownsRow WO.heap.size 40 2 v1 (j + 1) (flat ((r.map ptOf).take (j + 1))) ∧ Below WO.heap.size WO w1) := ⟨n1, n2⟩
          clear n1 n2 hown1 hgrow
          go_wp2
          go_roundw
          case rel => exact ⟨j + 1, by go_num, by omega, NN⟩
          case measure => simp [intOf]; omega
        · obtain rfl : j = r.length := by omega
          rw [List.take_of_length_le (by simp)] at o2
          obtain ⟨vs, v1, v2, v3, v4⟩ := Ho1.out
          have hkl : (Q.take k).length = k := by rw [List.length_take]; omega
          rw [hkl] at v1 v3
          have v3' := row_call v3 hw2
          have hlo : ∀ c, u3.ownBlock = some c → c < WO.heap.size := fun c hc => (v3.lt c hc).2
          have hml2 : (r.map ptOf).length = r.length := List.length_map _
          have hnew : RingP wr w.heap.size u3 u6 (r.map ptOf) := RingP.row (by rw [hml2]; exact o2) hlo hsW
          have Hnew : Hid (RingP wr w.heap.size u3 u6 (r.map ptOf)) := hnew
          have Hv4 : Hid (∀ i (h : i < (Q.take k).length) (h' : i < vs.length), RingP wr w.heap.size u3 vs[i] (Q.take k)[i]) := fun i h h' => (v4 i h h').below hw2
          have Hv2 : Hid _ := v2
          have hform : ∃ ga5 cap5, u6 = .slice ga5 r.length cap5 := by
            rcases o2.2 with ⟨rfl, h0⟩ | ⟨g, cap, cur, rfl, _⟩
            · exact ⟨none, 0, by rw [h0]⟩
            · exact ⟨_, _, rfl⟩
          obtain ⟨ga5, cap5, rfl⟩ := hform
          clear hnew v4 v2 v3
          go_wp2_with (first
            | (at_builtin; refine wpList_append_own_at _ rfl _ _ 66 rfl w.heap.size 132 i1 (.slice none 0 0) 1 24 Tryz.underlying66 hi1 hy0 hy1 hy2 rfl (by decide) _ _ _ rfl (v3'.alloc _) ⟨wr.heap.size, 0, none⟩ 1 1 [.slice ga5 r.length cap5] rfl rfl (cell_one_new _ _ _) ?_ ?_ ?_ ?_ ?_)
            | go_in)
          · intro u hu; simp only [List.mem_singleton] at hu; rw [hu]; rfl
          · unfold maxLen; omega
          · omega
          · have := hww.size; simp; omega
          · intro v' w' hown hgrow hne hob
            have n0 : Below w.heap.size w w' := (hww.alloc hww.size _).grown hgrow (by have := hww.size; simp; omega) (fun c hc => (v3'.lt c hc).1)
            have n1 : Answer w' w.heap.size v' (Q.take (k + 1)) := by
              rw [Htk.out]
              refine ⟨vs ++ [.slice ga5 r.length cap5], by simp [v1, hkl], ?_, ?_, ?_⟩
              · intro u hu
                rcases List.mem_append.1 hu with h | h
                · exact Hv2.out u h
                · rw [List.mem_singleton.1 h]; rfl
              · have : (Q.take k ++ [r.map ptOf]).length = k + 1 := by simp [hkl]
                rw [this]; exact hown
              · have hal : Below wr.heap.size wr (wr.alloc (.cells #[.slice ga5 r.length cap5] 132)) := (Below.refl _ _).alloc (Nat.le_refl _) _
                intro i h h'
                have hi' : i < k + 1 := by simpa [hkl] using h
                by_cases hik : i < k
                · have e1 : (vs ++ [Value.slice ga5 r.length cap5])[i] = vs[i]'(by omega) := List.getElem_append_left (by omega)
                  have e2 : (Q.take k ++ [r.map ptOf])[i] = (Q.take k)[i]'(by omega) := List.getElem_append_left (by omega)
                  rw [e1, e2]
                  exact ((Hv4.out i (by omega) (by omega)).below hal).append hgrow hob (by simp)
                · obtain rfl : i = k := by omega
                  have e1 : (vs ++ [Value.slice ga5 r.length cap5])[i] = Value.slice ga5 r.length cap5 := by
                    rw [List.getElem_append_right (by omega)]; simp [v1]
                  have e2 : (Q.take i ++ [r.map ptOf])[i] = r.map ptOf := by
                    rw [List.getElem_append_right (by omega)]; simp [hkl]
                  rw [e1, e2]
                  exact (Hnew.out.below hal).append hgrow hob (by simp)
            have NN : Hid (Answer w' w.heap.size v' (Q.take (k + 1)) ∧ Below w.heap.size w w') := ⟨n1, n0⟩
            clear n0 n1 hown hgrow
            go_wp2
            go_roundw
            case rel => exact ⟨k + 1, by go_num, by omega, NN⟩
            case measure => simp [intOf]; omega
    · obtain rfl : k = R.length := by omega
      obtain ⟨o1, hw⟩ := hr.out
      rw [List.take_of_length_le (by omega)] at o1
      go_wp2
      go_ret
      exact ⟨_, rfl, o1, hw⟩

end Go.Proofs.YtkjlkbgdkdcboaaGreatDoor

namespace Go.Proofs.YtkjlkbgdkdcboaaGreatDoor
open Go.RowKit
attribute [local go_sem ↓] Go.wp_at_zero Go.wp_at_succ

structure PInv (N : Nat) (f : Nat) (st : PS) : Prop where
  a : st.acc.length + f ≤ N
  b : st.accs.length + f ≤ N
  c : ∀ r ∈ st.accs, r ≠ [] ∧ r.length ≤ N
theorem PInv.take {N f : Nat} {s s' : PS} {a c : Int} (h : PInv N (f + 1) s) (ht : takeP s a c = some s') : PInv N f s' := by
  obtain ⟨h1, h2, h3⟩ := h
  unfold takeP at ht
  split at ht
  · obtain rfl := Option.some.inj ht; exact ⟨by simp; omega, by simp; omega, h3⟩
  · split at ht
    · obtain rfl := Option.some.inj ht; exact ⟨by simp; omega, by simp; omega, h3⟩
    · split at ht
      · obtain rfl := Option.some.inj ht; exact ⟨by simp; omega, by simp; omega, h3⟩
      · split at ht
        · obtain rfl := Option.some.inj ht; exact ⟨by simp; omega, by simp; omega, h3⟩
        · split at ht
          · obtain rfl := Option.some.inj ht
            refine ⟨by simp; omega, by simp; omega, fun r hr => ?_⟩
            rcases List.mem_append.1 hr with hr | hr
            · exact h3 r hr
            · rw [List.mem_singleton.1 hr]; exact ⟨by simp, by simp; omega⟩
          · cases ht
theorem scanF_inv (s : ByteArray) (N : Nat) : ∀ (f pos : Nat) (st st' : PS) (k : Int), PInv N f st → scanF s f pos st = (some st', k) → ∃ g, PInv N g st'
  | 0, pos, st, st', k, h, hs => by
    obtain rfl : st = st' := by simpa [scanF] using congrArg Prod.fst hs
    exact ⟨0, h⟩
  | f + 1, pos, st, st', k, h, hs => by
    rw [scanF] at hs
    split at hs
    · cases ht : takeP st pos (Utf8.decode s pos).1 with
      | none => rw [ht] at hs; simp at hs
      | some st2 =>
        rw [ht] at hs
        exact scanF_inv s N f _ st2 st' k (h.take ht) hs
    · obtain rfl : st = st' := by simpa using congrArg Prod.fst hs
      exact ⟨_, h⟩
theorem scanP_inv {s : ByteArray} {R : List (List Sp)} (h : (scanP s).1 = some R) : R.length ≤ s.size + 1 ∧ ∀ r ∈ R, r ≠ [] ∧ r.length ≤ s.size + 1 := by
  unfold scanP at h
  split at h
  · obtain rfl := Option.some.inj h; simp
  · obtain ⟨F, hF⟩ : ∃ F, scanF s s.size 0 init = F := ⟨_, rfl⟩
    rw [hF] at h
    obtain ⟨F1, F2⟩ := F
    cases F1 with
    | none => simp [finP] at h
    | some st =>
      obtain ⟨g, p⟩ := scanF_inv s s.size s.size 0 init st F2 ⟨by simp [init], by simp [init], fun r hr => by simp [init] at hr⟩ hF
      simp only [finP] at h
      split at h
      · obtain rfl := Option.some.inj h
        obtain ⟨p1, p2, p3⟩ := p
        refine ⟨by simp; omega, fun r hr => ?_⟩
        rcases List.mem_append.1 hr with hr | hr
        · have := p3 r hr; exact ⟨this.1, by omega⟩
        · rw [List.mem_singleton.1 hr]; exact ⟨by simp, by simp; omega⟩
      · cases h

/-- what Read answers: the rings, the error, the place -/
def readP (s : ByteArray) : List (List Acre.Pt) × Int × Int :=
  if 120 < s.size then ([], 1, 0)
  else match (scanP s).1 with
    | none => ([], 2, (scanP s).2)
    | some R => if (firstP R).1 = 0 then (R.map (fun r => r.map ptOf), 0, 0) else ([], (firstP R).1, (firstP R).2)

def ReadPost (s : ByteArray) (w : World) (e : Ending) (w' : World) : Prop :=
  ∃ u, e = .returned (.tuple #[u, .int .i64 (readP s).2.1, .int .i64 (readP s).2.2]) ∧ Answer w' w.heap.size u (readP s).1 ∧ Below w.heap.size w w'

theorem answer_nil (w : World) (base : Nat) : Answer w base (.slice none 0 0) [] := ⟨[], rfl, by simp, World.ownsRow_nil _ _ _ _, fun i h _ => by simp at h⟩

theorem Answer.base {w : World} {a b : Nat} {l : Value} {R : List (List Acre.Pt)} (h : Answer w b l R) (hab : a ≤ b) : Answer w a l R := by
  obtain ⟨vs, h1, h2, h3, h4⟩ := h
  refine ⟨vs, h1, h2, ⟨h3.1, ?_⟩, fun i hi hi' => ?_⟩
  · rcases h3.2 with e | ⟨g, cap, cur, q1, q2, q3⟩
    · exact Or.inl e
    · exact Or.inr ⟨g, cap, cur, q1, by omega, q3⟩
  · obtain ⟨ga, b', off, cap, q1, q2, q3⟩ := h4 i hi hi'
    exact ⟨ga, b', off, cap, q1, fun k => ⟨(q2 k).1, (q2 k).2.1, by have := (q2 k).2.2.1; omega, (q2 k).2.2.2⟩, q3⟩

theorem RSpots.later {w w' : World} {v : Value} {R : List (List Sp)} (h : RSpots w v R) (hb : Below w.heap.size w w') : RSpots w' v R := by
  obtain ⟨ga, b, off, cap, h1, h2, h3⟩ := h
  refine ⟨ga, b, off, cap, h1, h2, fun i hi => ?_⟩
  obtain ⟨u, q1, ga', b', off', cap', q2, q3, q4⟩ := h3 i hi
  exact ⟨u, cell_later hb q1, ga', b', off', cap', q2, fun k => ⟨(q3 k).1, Nat.lt_of_lt_of_le (q3 k).2 hb.size⟩, q4.later hb⟩

set_option maxHeartbeats 1000000 in
theorem read_any (s : ByteArray) (w : World) : Calls Tryz.prog 23 #[.string s] w (ReadPost s w) := by
  by_cases hl : 120 < s.size
  · have HP := hide (show readP s = ([], 1, 0) by rw [readP, if_pos hl])
    have hl' : (120 : Int) < (s.size : Int) := by omega
    go_enter Tryz.func23, Tryz.ntmps23
    go_wp2
    refine bodyPost_ret (v := .tuple #[.slice none 0 0, .int .i64 1, .int .i64 0]) (by simp [results, Tryz.results23, go_sem]) rfl ⟨.slice none 0 0, ?_, ?_, Below.refl _ _⟩
    · rw [HP.out]
    · rw [HP.out]; exact answer_nil _ _
  · have hl' : ¬ (120 : Int) < (s.size : Int) := by omega
    have ks := scan_any s w (by omega)
    cases hS : (scanP s).1 with
    | none =>
      have HP := hide (show readP s = ([], 2, (scanP s).2) by rw [readP, if_neg hl, hS])
      have ks' : Calls Tryz.prog 50 #[.string s] w fun e w' => ∃ v, e = .returned (.tuple #[v, .int .i64 (scanP s).2, .bool false]) ∧ Below w.heap.size w w' := ks.mono fun e w' h => by
        obtain ⟨v, h1, h2, _⟩ := h
        rw [hS] at h1
        exact ⟨v, h1, h2⟩
      have Ks := hide ks'
      clear ks ks' hS
      generalize (scanP s).2 = at' at *
      go_enter Tryz.func23, Tryz.ntmps23
      go_wp2_with fail
      refine Ks.out.mono ?_
      rintro e w1 ⟨v, rfl, hb1⟩
      go_wp2
      refine bodyPost_ret (v := .tuple #[.slice none 0 0, .int .i64 2, .int .i64 at']) (by simp [results, Tryz.results23, go_sem]) rfl ⟨.slice none 0 0, ?_, ?_, hb1⟩
      · rw [HP.out]
      · rw [HP.out]; exact answer_nil _ _
    | some R =>
      obtain ⟨hR1, hR2⟩ := scanP_inv hS
      have ks' : Calls Tryz.prog 50 #[.string s] w fun e w' => ∃ v, e = .returned (.tuple #[v, .int .i64 (scanP s).2, .bool true]) ∧ Below w.heap.size w w' ∧ RSpots w' v R := ks.mono fun e w' h => by
        obtain ⟨v, h1, h2, h3⟩ := h
        rw [hS] at h1
        exact ⟨v, h1, h2, h3 R hS⟩
      have Ks := hide ks'
      have hne : ∀ r ∈ R, r ≠ [] := fun r hr => (hR2 r hr).1
      have hlen : ∀ r ∈ R, r.length ≤ 1000 := fun r hr => by have := (hR2 r hr).2; omega
      have hRl : R.length ≤ 1000 := by omega
      by_cases hf : (firstP R).1 = 0
      · have HP := hide (show readP s = (R.map (fun r => r.map ptOf), 0, 0) by rw [readP, if_neg hl, hS]; simp only; rw [if_pos hf])
        have Kf := hide (fun W v hv => firstFault_any R v W hv hne hRl hlen)
        rw [hf] at Kf
        have Kp := hide (fun W v hv => pointsOf_any R v W hv hRl hlen)
        clear ks ks' hS hf hne hlen hR2
        generalize (firstP R).2 = fa at *
        generalize (scanP s).2 = at' at *
        go_enter Tryz.func23, Tryz.ntmps23
        go_wp2_with fail
        refine Ks.out.mono ?_
        rintro e w1 ⟨v, rfl, hb1, hv1⟩
        have Hv := hide hv1
        go_wp2_with fail
        refine (Kf.out w1 v Hv.out).mono ?_
        rintro e w2 ⟨rfl, hb2⟩
        have hv2 := hide (hv1.later hb2)
        clear hv1 Hv
        go_wp2_with fail
        refine (Kp.out w2 v hv2.out).mono ?_
        rintro e w3 ⟨u, rfl, hA, hb3⟩
        have hA' := hide (hA.base (Nat.le_trans hb1.size hb2.size))
        have hB := hide (below_call hb3 (below_call hb2 hb1))
        have hform : ∃ ga n cap, u = .slice ga n cap := by
          obtain ⟨vs, h1, h2, h3, h4⟩ := hA
          rcases h3.2 with ⟨rfl, _⟩ | ⟨g, cap, cur, rfl, _⟩ <;> exact ⟨_, _, _, rfl⟩
        obtain ⟨ga, n, cap, rfl⟩ := hform
        clear hA hv2 hb1 hb2 hb3
        go_wp2
        refine bodyPost_ret (v := .tuple #[.slice ga n cap, .int .i64 0, .int .i64 0]) (by simp [results, Tryz.results23, go_sem]) rfl ⟨.slice ga n cap, ?_, ?_, hB.out⟩
        · rw [HP.out]
        · rw [HP.out]; exact hA'.out
      · have HP := hide (show readP s = ([], (firstP R).1, (firstP R).2) by rw [readP, if_neg hl, hS]; simp only; rw [if_neg hf])
        have Kf := hide (fun W v hv => firstFault_any R v W hv hne hRl hlen)
        clear ks ks' hS hne hlen hR2
        generalize (firstP R).1 = fe at *
        generalize (firstP R).2 = fa at *
        generalize (scanP s).2 = at' at *
        have hfb : (fe == 0) = false := by simpa using hf
        clear hf
        go_enter Tryz.func23, Tryz.ntmps23
        go_wp2_with fail
        refine Ks.out.mono ?_
        rintro e w1 ⟨v, rfl, hb1, hv1⟩
        have Hv := hide hv1
        clear hv1
        go_wp2_with fail
        refine (Kf.out w1 v Hv.out).mono ?_
        rintro e w2 ⟨rfl, hb2⟩
        go_wp2
        refine bodyPost_ret (v := .tuple #[.slice none 0 0, .int .i64 fe, .int .i64 fa]) (by simp [results, Tryz.results23, go_sem]) rfl ⟨.slice none 0 0, ?_, ?_, below_call hb2 hb1⟩
        · rw [HP.out]
        · rw [HP.out]; exact answer_nil _ _

end Go.Proofs.YtkjlkbgdkdcboaaGreatDoor

