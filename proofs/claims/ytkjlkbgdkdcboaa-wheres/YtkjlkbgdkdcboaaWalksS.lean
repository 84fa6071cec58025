import Derived.Test.YtkjlkbgdkdcboaaWalksX
namespace Go.Proofs.Ytkjlkbgdkdcboaa
open Go.RowKit
attribute [local go_sem ↓] Go.wp_at_zero Go.wp_at_succ

theorem ringOk_no {r : List Acre.Pt} (k : Nat) (hk : k < r.length) (h : Acre.onGrid r[k] = false) : Acre.ringOk r = false := by
  unfold Acre.ringOk; rw [Acre.all_no r k hk h]; simp
theorem ringOk_yes {r : List Acre.Pt} (h3 : 3 ≤ r.length) (h6 : r.length ≤ 6) (h : ∀ j (hj : j < r.length), Acre.onGrid r[j] = true) : Acre.ringOk r = true := by
  unfold Acre.ringOk
  rw [decide_eq_true h3, decide_eq_true h6, Bool.and_self, Bool.true_and, List.all_eq_true]
  intro x hx
  obtain ⟨j, hj, rfl⟩ := List.getElem_of_mem hx
  exact h j hj

set_option maxHeartbeats 2000000 in
theorem rField_any (R : List (List Acre.Pt)) (v : Value) (w : World) (hR : Rings w v R) (hn : R.length ≤ maxLen) (hm : ∀ r ∈ R, r.length ≤ maxLen) :
    Calls Try.prog 29 #[v] w fun e w' => e = .returned (.bool (Acre.fieldOk R)) ∧ Below w.heap.size w w' := by
  obtain ⟨ga, b, off, cap, rfl, hga, hcs⟩ := hR
  unfold maxLen at hn hm
  by_cases h2 : 2 < R.length
  · have hf : Hid _ := fieldOk_long h2
    have h2' : (2 : Int) < (R.length : Int) := by omega
    go_enter Try.func29, Try.ntmps29
    go_wp2
    go_ret
    exact ⟨ret_bool hf.out.symm, Below.refl _ _⟩
  · have h2' : ¬ (2 : Int) < (R.length : Int) := by omega
    go_enter Try.func29, Try.ntmps29
    go_wp2
    go_loopw [3] (fun i wr => ∃ k : Nat, i = .int .i64 k ∧ k ≤ R.length ∧ Hid (∀ j (hj : j < R.length), j < k → Acre.ringOk R[j] = true) ∧ Below w.heap.size w wr) (fun i _ => R.length - (intOf i).toNat)
    case atStart => exact ⟨0, rfl, Nat.zero_le _, fun j _ h => absurd h (by omega), Below.refl _ _⟩
    case round =>
      obtain ⟨k, rfl, hk, ha, hw⟩ := hrel
      by_cases hlt : k < R.length
      · obtain rfl := hga (by omega)
        obtain ⟨s, hs, hring⟩ := hcs k hlt
        have hs' := cell_later hw hs
        have hml := hm R[k] (List.getElem_mem hlt)
        obtain ⟨ra, rb, roff, rcap, rfl, hra, hpts0⟩ := hring
        have hno := fieldOk_no k hlt
        have hnok := ringOk_no (r := R[k])
        generalize hr : R[k] = r at *
        have Hno : Hid (Acre.ringOk r = false → Acre.fieldOk R = false) := hno
        have Hnok : Hid (∀ (k : Nat) (hk : k < r.length), Acre.onGrid r[k] = false → Acre.ringOk r = false) := hnok
        have Hr : Hid _ := hr
        clear hno hnok hr
        by_cases hl3 : r.length < 3
        · have hx : Acre.ringOk r = false := by unfold Acre.ringOk; rw [decide_eq_false (show ¬ 3 ≤ r.length by omega)]; rfl
          have Hx : Hid _ := Hno.out hx
          have hl3' : ((r.length : Int)) < 3 := by omega
          clear hx
          go_wp2
          go_ret
          exact ⟨ret_bool Hx.out.symm, hw⟩
        · have hl3' : ¬ ((r.length : Int)) < 3 := by omega
          by_cases hl6 : 6 < r.length
          · have hx : Acre.ringOk r = false := by unfold Acre.ringOk; rw [decide_eq_false (show ¬ r.length ≤ 6 by omega)]; simp
            have Hx : Hid _ := Hno.out hx
            have hl6' : (6 : Int) < ((r.length : Int)) := by omega
            clear hx
            go_wp2
            go_ret
            exact ⟨ret_bool Hx.out.symm, hw⟩
          · have hl6' : ¬ (6 : Int) < ((r.length : Int)) := by omega
            obtain ⟨rfl, hrb⟩ := hra (by omega)
            go_wp2
            go_loopw [4] (fun i w2 => ∃ j : Nat, i = .int .i64 j ∧ j ≤ r.length ∧ Hid (∀ t (ht : t < r.length), t < j → Acre.onGrid r[t] = true) ∧ Below w.heap.size w w2) (fun i _ => r.length - (intOf i).toNat)
            case atStart => exact ⟨0, rfl, Nat.zero_le _, fun j _ h => absurd h (by omega), hw⟩
            case round =>
              obtain ⟨j, rfl, hj, hb, hw2⟩ := hrel
              have hs2 := cell_later hw2 hs
              by_cases hjl : j < r.length
              · obtain ⟨p0, p1⟩ := (hpts0.later hw2) j hjl
                have hgr : Hid _ := Hnok.out j hjl
                obtain ⟨p, hp⟩ : ∃ p, r[j] = p := ⟨_, rfl⟩
                rw [hp] at p0 p1 hgr
                have Hp : Hid _ := hp
                clear hp
                have hon : Acre.onGrid p = (decide (-12 ≤ p.1 ∧ p.1 ≤ 12) && decide (-12 ≤ p.2 ∧ p.2 ≤ 12)) := rfl
                have Hon : Hid _ := hon
                clear hon
                by_cases g1 : p.1 < -12
                · have Hx : Hid _ := Hno.out (hgr.out (by rw [Hon.out, decide_eq_false (by omega)]; rfl))
                  go_wp2
                  go_ret
                  exact ⟨ret_bool Hx.out.symm, hw2.alloc hw2.size _⟩
                · by_cases g2 : 12 < p.1
                  · have Hx : Hid _ := Hno.out (hgr.out (by rw [Hon.out, decide_eq_false (by omega)]; rfl))
                    go_wp2
                    go_ret
                    exact ⟨ret_bool Hx.out.symm, hw2.alloc hw2.size _⟩
                  · by_cases g3 : p.2 < -12
                    · have Hx : Hid _ := Hno.out (hgr.out (by rw [Hon.out, decide_eq_false (p := -12 ≤ p.2 ∧ p.2 ≤ 12) (by omega)]; simp))
                      go_wp2
                      go_ret
                      exact ⟨ret_bool Hx.out.symm, hw2.alloc hw2.size _⟩
                    · by_cases g4 : 12 < p.2
                      · have Hx : Hid _ := Hno.out (hgr.out (by rw [Hon.out, decide_eq_false (p := -12 ≤ p.2 ∧ p.2 ≤ 12) (by omega)]; simp))
                        go_wp2
                        go_ret
                        exact ⟨ret_bool Hx.out.symm, hw2.alloc hw2.size _⟩
                      · have Hx : Hid (Acre.onGrid p = true) := by show _ = _; rw [Hon.out, decide_eq_true (by omega), decide_eq_true (by omega)]; rfl
                        go_wp2
                        go_roundw
                        case rel =>
                          exact ⟨j + 1, by go_num, by omega, fun t ht htj => by
                            rcases Nat.lt_succ_iff_lt_or_eq.1 htj with h | h
                            · exact hb.out t ht h
                            · subst h; rw [Hp.out]; exact Hx.out, hw2.alloc hw2.size _⟩
                        case measure => simp [intOf]; omega
              · have Hx : Hid _ := ringOk_yes (by omega) (by omega) (fun t ht => hb.out t ht (by omega))
                go_wp2
                go_roundw
                case rel =>
                  exact ⟨k + 1, by go_num, by omega, fun t ht htk => by
                    rcases Nat.lt_succ_iff_lt_or_eq.1 htk with h | h
                    · exact ha.out t ht h
                    · subst h; rw [Hr.out]; exact Hx.out, hw2⟩
                case measure => simp [intOf]; omega
      · go_wp2
        go_ret
        exact ⟨ret_bool (fieldOk_yes (by omega) (fun j hj => ha.out j hj (by omega))).symm, hw⟩

end Go.Proofs.Ytkjlkbgdkdcboaa
