import Derived.Test.YtkjlkbgdkdcboaaCopy
import Derived.Deep.QuietTactic
import Derived.BigQuiet
import Derived.WalkSmall
namespace Go.Proofs.Ytkjlkbgdkdcboaa
open Go.RowKit
attribute [local go_sem ↓] Go.wp_at_zero Go.wp_at_succ

set_option maxRecDepth 100000 in
theorem neq51 (u v x y : Int) (w' : World) : (binOp .neq 51 (.agg #[.int .i64 u, .int .i64 v]) (.agg #[.int .i64 x, .int .i64 y])).run Try.prog w' = .ok (.bool (!(u == x && v == y))) w' := by
  go_simp
  by_cases h1 : u = x <;> by_cases h2 : v = y <;> simp [h1, h2]

set_option maxRecDepth 100000 in
set_option maxHeartbeats 4000000 in
theorem same_eq (R : List (List Acre.Pt)) (a c : Value) (w : World) (hA : Rings w a R) (hC : Rings w c R) (hn : R.length ≤ maxLen) (hm : ∀ r ∈ R, r.length ≤ maxLen) :
    Calls Try.prog 9 #[a, c] w fun e w' => e = .returned (.bool true) ∧ Below w.heap.size w w' := by
  obtain ⟨ga, b, off, cap, rfl, hga, hcs⟩ := hA
  obtain ⟨ga2, b2, off2, cap2, rfl, hga2, hcs2⟩ := hC
  have hlen : ((R.length : Int) != (R.length : Int)) = false := by simp
  unfold maxLen at hn
  go_enter Try.func9, Try.ntmps9
  go_wp2
  go_loopw [5] (fun i wr => ∃ k : Nat, i = .int .i64 k ∧ k ≤ R.length ∧ Hid (Below w.heap.size w wr)) (fun i _ => R.length - (intOf i).toNat)
  case atStart => exact ⟨0, rfl, Nat.zero_le _, Below.refl _ _⟩
  case round =>
    obtain ⟨k, rfl, hk, hw⟩ := hrel
    by_cases hlt : k < R.length
    · obtain rfl := hga (by omega)
      obtain rfl := hga2 (by omega)
      obtain ⟨s, hs, hring⟩ := hcs k hlt
      obtain ⟨s2, hs2, hring2⟩ := hcs2 k hlt
      have hml := hm R[k] (List.getElem_mem hlt)
      unfold maxLen at hml
      obtain ⟨ra, rb, roff, rcap, rfl, hra, hpts⟩ := hring
      obtain ⟨ra2, rb2, roff2, rcap2, rfl, hra2, hpts2⟩ := hring2
      generalize R[k] = r at *
      have hs' := cell_later hw.out hs
      have hs2' := cell_later hw.out hs2
      have hrl : ((r.length : Int) != (r.length : Int)) = false := by simp
      have hk0 : (0 : Int) ≤ (k : Int) := Int.natCast_nonneg _
      have hk1 : (k : Int) < (R.length : Int) := by omega
      obtain ⟨WO, hWO⟩ : ∃ WO, WO = wr := ⟨_, rfl⟩
      subst hWO
      go_wp2
      go_quiet (fail)
      go_wp2
      go_loopw [6] (fun i w2 => ∃ j : Nat, i = .int .i64 j ∧ j ≤ r.length ∧ Hid (Below w.heap.size w w2)) (fun i _ => r.length - (intOf i).toNat)
      case atStart => exact ⟨0, rfl, Nat.zero_le _, below_drewN hw.out _⟩
      case round =>
        obtain ⟨j, rfl, hj, hw2⟩ := hrel
        have ts := cell_later hw2.out hs
        have ts2 := cell_later hw2.out hs2
        by_cases hjl : j < r.length
        · obtain ⟨rfl, hrb⟩ := hra (by omega)
          obtain ⟨rfl, hrb2⟩ := hra2 (by omega)
          obtain ⟨p0, p1⟩ := (hpts.later hw2.out) j hjl
          obtain ⟨p2, p3⟩ := (hpts2.later hw2.out) j hjl
          have hj0 : (0 : Int) ≤ (j : Int) := Int.natCast_nonneg _
          have hj1 : (j : Int) < (r.length : Int) := by omega
          generalize r[j] = pj at *
          have hne := neq51
          have hpp : (pj.1 == pj.1 && pj.2 == pj.2) = true := by simp
          go_wp2
          go_quiet (fail)
          go_wp2
          go_roundw
          case rel => exact ⟨j + 1, by go_num, by omega, below_drewN hw2.out _⟩
          case measure => simp [intOf]; omega
        · go_wp2
          go_roundw
          case rel => exact ⟨k + 1, by go_num, by omega, hw2⟩
          case measure => simp [intOf]; omega
    · go_wp2
      go_ret
      exact ⟨rfl, hw.out⟩

end Go.Proofs.Ytkjlkbgdkdcboaa
