import Derived.Test.YtkjlkbgdkdcboaaWalksW
namespace Go.Proofs.Ytkjlkbgdkdcboaa
open Go.RowKit
attribute [local go_sem ↓] Go.wp_at_zero Go.wp_at_succ

/-- a ring in memory -/
def Ring (w : World) (s : Value) (ps : List Acre.Pt) : Prop :=
  ∃ ga b off cap, s = .slice ga ps.length cap ∧ (0 < ps.length → ga = some ⟨b, off, none⟩ ∧ b < w.heap.size) ∧ PtsAt w b off ps
/-- a list of rings in memory -/
def Rings (w : World) (v : Value) (R : List (List Acre.Pt)) : Prop :=
  ∃ ga b off cap, v = .slice ga R.length cap ∧ (0 < R.length → ga = some ⟨b, off, none⟩) ∧ ∀ i (h : i < R.length), ∃ s, w.cell? ⟨b, off + i, none⟩ = some s ∧ Ring w s R[i]

theorem PtsAt.later {w w' : World} {b off : Nat} {ps : List Acre.Pt} (h : PtsAt w b off ps) (hb : Below w.heap.size w w') : PtsAt w' b off ps :=
  fun k hk => ⟨cell_later hb (h k hk).1, cell_later hb (h k hk).2⟩
theorem Ring.later {w w' : World} {s : Value} {ps : List Acre.Pt} (h : Ring w s ps) (hb : Below w.heap.size w w') : Ring w' s ps := by
  obtain ⟨ga, b, off, cap, h1, h2, h3⟩ := h
  exact ⟨ga, b, off, cap, h1, fun h => ⟨(h2 h).1, Nat.lt_of_lt_of_le (h2 h).2 hb.size⟩, h3.later hb⟩
theorem Rings.later {w w' : World} {v : Value} {R : List (List Acre.Pt)} (h : Rings w v R) (hb : Below w.heap.size w w') : Rings w' v R := by
  obtain ⟨ga, b, off, cap, h1, h2, h3⟩ := h
  refine ⟨ga, b, off, cap, h1, h2, fun i hi => ?_⟩
  obtain ⟨s, k1, k2⟩ := h3 i hi
  exact ⟨s, cell_later hb k1, k2.later hb⟩

theorem fieldOk_long {R : List (List Acre.Pt)} (h : 2 < R.length) : Acre.fieldOk R = false := by
  unfold Acre.fieldOk; rw [decide_eq_false (by omega)]; rfl
theorem fieldOk_no {R : List (List Acre.Pt)} (k : Nat) (hk : k < R.length) (h : Acre.ringOk R[k] = false) : Acre.fieldOk R = false := by
  unfold Acre.fieldOk
  have : R.all Acre.ringOk = false := by rw [List.all_eq_false]; exact ⟨R[k], List.getElem_mem hk, by simp [h]⟩
  rw [this]; simp
theorem fieldOk_yes {R : List (List Acre.Pt)} (h0 : R.length ≤ 2) (h : ∀ k (hk : k < R.length), Acre.ringOk R[k] = true) : Acre.fieldOk R = true := by
  unfold Acre.fieldOk
  rw [decide_eq_true h0, Bool.true_and, List.all_eq_true]
  intro x hx
  obtain ⟨j, hj, rfl⟩ := List.getElem_of_mem hx
  exact h j hj

set_option maxHeartbeats 1000000 in
theorem isField_any (R : List (List Acre.Pt)) (v : Value) (w : World) (hR : Rings w v R) (hn : R.length ≤ maxLen) (hm : ∀ r ∈ R, r.length ≤ maxLen) :
    Calls Try.prog 23 #[v] w fun e w' => e = .returned (.bool (Acre.fieldOk R)) ∧ Below w.heap.size w w' := by
  obtain ⟨ga, b, off, cap, rfl, hga, hcs⟩ := hR
  unfold maxLen at hn hm
  by_cases h2 : 2 < R.length
  · have hf : Hid _ := fieldOk_long h2
    have h2' : (2 : Int) < (R.length : Int) := by omega
    go_enter Try.func23, Try.ntmps23
    go_wp2
    go_ret
    exact ⟨ret_bool hf.out.symm, Below.refl _ _⟩
  · have h2' : ¬ (2 : Int) < (R.length : Int) := by omega
    go_enter Try.func23, Try.ntmps23
    go_wp2
    go_loopw [10] (fun i wr => ∃ k : Nat, i = .int .i64 k ∧ k ≤ R.length ∧ Hid (∀ j (hj : j < R.length), j < k → Acre.ringOk R[j] = true) ∧ Below w.heap.size w wr) (fun i _ => R.length - (intOf i).toNat)
    case atStart => exact ⟨0, rfl, Nat.zero_le _, fun j _ h => absurd h (by omega), Below.refl _ _⟩
    case round =>
      obtain ⟨k, rfl, hk, ha, hw⟩ := hrel
      by_cases hlt : k < R.length
      · obtain rfl := hga (by omega)
        obtain ⟨s, hs, hring⟩ := hcs k hlt
        have hs' := cell_later hw hs
        have hml := hm R[k] (List.getElem_mem hlt)
        obtain ⟨ra, rb, roff, rcap, rfl, hra, hpts⟩ := hring.later hw
        have hno := fieldOk_no k hlt
        generalize hr : R[k] = r at *
        have hno' : Acre.ringOk r = false → Acre.fieldOk R = false := hno
        have Hno : Hid _ := hno'
        have Hr : Hid _ := hr
        clear hno hno' hs hr
        by_cases hl3 : r.length < 3
        · have hx : Acre.ringOk r = false := by unfold Acre.ringOk; rw [decide_eq_false (show ¬ 3 ≤ r.length by omega)]; rfl
          have Hx : Hid _ := Hno.out hx
          have hl3' : ((r.length : Int)) < 3 := by omega
          clear hx
          go_wp2
          go_ret
          exact ⟨ret_bool Hx.out.symm, hw⟩
        · have hl3' : ¬ ((r.length : Int)) < 3 := by omega
          by_cases hl6 : 6 < r.length
          · have hx : Acre.ringOk r = false := by unfold Acre.ringOk; rw [decide_eq_false (show ¬ r.length ≤ 6 by omega)]; simp
            have Hx : Hid _ := Hno.out hx
            have hl6' : (6 : Int) < ((r.length : Int)) := by omega
            clear hx
            go_wp2
            go_ret
            exact ⟨ret_bool Hx.out.symm, hw⟩
          · have hl6' : ¬ (6 : Int) < ((r.length : Int)) := by omega
            obtain ⟨rfl, hrb⟩ := hra (by omega)
            cases hG : r.all Acre.onGrid
            · have hx : Acre.ringOk r = false := by unfold Acre.ringOk; rw [hG]; simp
              have Hx : Hid _ := Hno.out hx
              have HG : Hid _ := hG
              clear hx hG
              go_wp2_with fail
              refine (areOnGrid_any r rb roff rcap _ (by omega) hpts hrb).mono ?_
              rintro e w1 ⟨rfl, hb1⟩
              rw [HG.out]
              go_wp2
              go_ret
              exact ⟨ret_bool Hx.out.symm, below_call hb1 hw⟩
            · have hx : Acre.ringOk r = true := by
                unfold Acre.ringOk; rw [hG, decide_eq_true (show 3 ≤ r.length by omega), decide_eq_true (show r.length ≤ 6 by omega)]; rfl
              have Hx : Hid _ := hx
              have HG : Hid _ := hG
              clear hx hG
              go_wp2_with fail
              refine (areOnGrid_any r rb roff rcap _ (by omega) hpts hrb).mono ?_
              rintro e w1 ⟨rfl, hb1⟩
              rw [HG.out]
              go_wp2
              go_roundw
              case rel =>
                exact ⟨k + 1, by go_num, by omega, fun j hj hjk => by
                  rcases Nat.lt_succ_iff_lt_or_eq.1 hjk with h | h
                  · exact ha.out j hj h
                  · subst h; rw [Hr.out]; exact Hx.out, below_call hb1 hw⟩
              case measure => simp [intOf]; omega
      · go_wp2
        go_ret
        exact ⟨ret_bool (fieldOk_yes (by omega) (fun j hj => ha.out j hj (by omega))).symm, hw⟩

end Go.Proofs.Ytkjlkbgdkdcboaa
