import Derived.Test.YtkjlkbgdkdcboaaDoorA
import Derived.Lib.ItoaNum
import Derived.Lib.Join
import Derived.Laws.BytesArg
namespace Go.Proofs.YtkjlkbgdkdcboaaDoor
open Go.RowKit
attribute [local go_sem ↓] Go.wp_at_zero Go.wp_at_succ

/-- a string of bytes -/
def str (l : List UInt8) : Value := .string ⟨l.toArray⟩

/-- a numeral of one or two digits -/
def nmD (u : Nat) : List UInt8 := if u < 10 then [UInt8.ofNat (48 + u)] else [UInt8.ofNat (48 + u / 10), UInt8.ofNat (48 + u % 10)]
def nm (n : Int) : List UInt8 := if n < 0 then 45 :: nmD n.natAbs else nmD n.toNat
theorem dec_nm (u : Nat) (h : u < 100) : Lib.decDigits u = nmD u := by
  rw [Lib.decDigits, nmD]
  by_cases h1 : u < 10
  · rw [dif_pos h1, if_pos h1]
  · rw [dif_neg h1, if_neg h1, Lib.decDigits, dif_pos (by omega)]; rfl
theorem itoa_nm (n : Int) (h : -99 ≤ n ∧ n ≤ 99) : Lib.itoa n = nm n := by
  unfold Lib.itoa nm
  split
  · rw [dec_nm _ (by omega)]
  · rw [dec_nm _ (by omega)]

theorem nm_len (n : Int) : (nm n).length ≤ 3 ∧ 1 ≤ (nm n).length := by
  unfold nm nmD
  split <;> split <;> simp

theorem conv1 (w : World) (c : Int) : (convert 53 9 (.slice (some ⟨w.heap.size, 0, none⟩) 1 1)).run Tryd.prog (w.alloc (.cells #[.int .u8 c] 5)) = .ok (.string (strOfNums [c])) (w.alloc (.cells #[.int .u8 c] 5)) := by
  refine run_convert_bytes_arg _ 53 5 Tryd.underlying53 Tryd.underlying5 w.heap.size 0 1 1 [c] rfl (fun i hi => ?_) 9 Tryd.underlying9
  have : i = 0 := by omega
  subst this
  simp [go_sem]

set_option maxRecDepth 100000 in
set_option maxHeartbeats 1000000 in
theorem dec1_any (n : Int) (h : 0 ≤ n ∧ n ≤ 9) (w : World) :
    Calls Tryd.prog 14 #[.int .i64 n] w fun e w' => e = .returned (str (nm n)) ∧ Below w.heap.size w w' := by
  have hc := conv1 w (48 + n)
  have hs := hide (show str (nm n) = .string (strOfNums [48 + n]) by
    have e : n = 0 ∨ n = 1 ∨ n = 2 ∨ n = 3 ∨ n = 4 ∨ n = 5 ∨ n = 6 ∨ n = 7 ∨ n = 8 ∨ n = 9 := by omega
    rcases e with rfl | rfl | rfl | rfl | rfl | rfl | rfl | rfl | rfl | rfl <;> rfl)
  have hn : ¬ n < 0 := by omega
  have hn2 : n < 10 := by omega
  have hu : IntKind.u8.wrap (48 + n) = 48 + n := by rw [IntKind.wrap_u8]; omega
  go_enter Tryd.func14, Tryd.ntmps14
  go_wp2
  go_ret
  exact ⟨by rw [hs.out]; rfl, below1 _ _⟩

set_option maxRecDepth 100000 in
set_option maxHeartbeats 1000000 in
theorem dec2_any (n : Int) (h : 10 ≤ n ∧ n ≤ 12) (w : World) :
    Calls Tryd.prog 14 #[.int .i64 n] w fun e w' => e = .returned (str (nm n)) ∧ Below w.heap.size w w' := by
  have hs := hide (show str (nm n) = .string (⟨(nm (n / 10)).toArray⟩ ++ ⟨(nm (n % 10)).toArray⟩) by
    have e : n = 10 ∨ n = 11 ∨ n = 12 := by omega
    rcases e with rfl | rfl | rfl <;> rfl)
  have hn : ¬ n < 0 := by omega
  have hn2 : ¬ n < 10 := by omega
  have k1 := hide (dec1_any 1 (by omega))
  have k2 := hide (fun m hm W => dec1_any m hm W)
  have e : n = 10 ∨ n = 11 ∨ n = 12 := by omega
  unfold str at k1 k2
  rcases e with rfl | rfl | rfl
  all_goals
    go_enter Tryd.func14, Tryd.ntmps14
    go_wp2_with fail
    refine (k1.out _).mono ?_
    rintro e w1 ⟨rfl, hb1⟩
    go_wp2_with fail
    refine (k2.out _ (by omega) _).mono ?_
    rintro e w2 ⟨rfl, hb2⟩
    go_wp2
    go_ret
    exact ⟨by rw [hs.out]; rfl, below_call hb2 hb1⟩

theorem dec_pos (n : Int) (h : 0 ≤ n ∧ n ≤ 12) (w : World) :
    Calls Tryd.prog 14 #[.int .i64 n] w fun e w' => e = .returned (str (nm n)) ∧ Below w.heap.size w w' := by
  by_cases h9 : n ≤ 9
  · exact dec1_any n (by omega) w
  · exact dec2_any n (by omega) w

set_option maxRecDepth 100000 in
set_option maxHeartbeats 1000000 in
theorem decimal_any (n : Int) (h : -12 ≤ n ∧ n ≤ 12) (w : World) :
    Calls Tryd.prog 14 #[.int .i64 n] w fun e w' => e = .returned (str (nm n)) ∧ Below w.heap.size w w' := by
  by_cases hn : n < 0
  · have hs := hide (show str (nm n) = .string (⟨#[45]⟩ ++ ⟨(nm (-n)).toArray⟩) by
      have e : n = -12 ∨ n = -11 ∨ n = -10 ∨ n = -9 ∨ n = -8 ∨ n = -7 ∨ n = -6 ∨ n = -5 ∨ n = -4 ∨ n = -3 ∨ n = -2 ∨ n = -1 := by omega
      rcases e with rfl | rfl | rfl | rfl | rfl | rfl | rfl | rfl | rfl | rfl | rfl | rfl <;> rfl)
    have k := hide (fun W => dec_pos (-n) (by omega) W)
    unfold str at k
    have hl := (nm_len (-n)).1
    generalize nm (-n) = L at *
    go_enter Tryd.func14, Tryd.ntmps14
    go_wp2_with fail
    refine (k.out _).mono ?_
    rintro e w1 ⟨rfl, hb1⟩
    go_wp2
    go_ret
    exact ⟨by rw [hs.out]; rfl, hb1⟩
  · exact dec_pos n (by omega) w

end Go.Proofs.YtkjlkbgdkdcboaaDoor
