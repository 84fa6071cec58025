import Derived.Test.YtkjlkbgdkdcboaaGreatDoorBsA
import Derived.Test.YtkjlkbgdkdcboaaGreatDoorShelf
import Derived.Test.YtkjlkbgdkdcboaaGreatDoorWt0
import Derived.Lib.AppendIntMem
import Derived.Deep.RegionLaw
set_option linter.unusedSimpArgs false
set_option linter.unusedVariables false
namespace Go.Proofs.YtkjlkbgdkdcboaaGreatDoor
open Go.RowKit
attribute [local go_sem ↓] Go.wp_at_zero Go.wp_at_succ

/-- the library's table is as it is laid -/
abbrev Tab (w : World) : Prop := Lib.TabIs Tryz.prog w "internal/strconv.uint64pow10" .u64 Lib.pow10Tab
theorem tab_later {w w' : World} (h : Tab w) (hb : Below w.heap.size w w') : Tab w' := Lib.tabBelow_of_tabIs h w' hb

theorem itoa_any (n : Int) (h : -1000000 ≤ n ∧ n ≤ 1000000) (w : World) (ht : Tab w) :
    Calls Tryz.prog 27 #[.int .i64 n] w fun e w' => e = .returned (.string ⟨(Lib.itoa n).toArray⟩) ∧ Below w.heap.size w w' := by
  refine (Tryz.strconv_Itoa n (by omega) (by omega) w ht).mono ?_
  rintro e w' ⟨rfl, k, os, rfl⟩
  exact ⟨rfl, Lib.below_grow _ _ (Nat.le_refl _) _ _⟩

/-- a text of bytes -/
def tx (l : List UInt8) : ByteArray := ⟨l.toArray⟩
theorem tx_list (l : List UInt8) : (tx l).data.toList = l := by simp [tx]
theorem tx_size (l : List UInt8) : (tx l).size = l.length := by
  show (tx l).data.size = _
  simp [tx]
theorem tx_eq {a : ByteArray} {l : List UInt8} (h : a.data.toList = l) : a = tx l := by
  apply ByteArray.ext
  apply Array.ext'
  rw [h, tx_list]
theorem cat47 (a b : List UInt8) : ((⟨a.toArray⟩ : ByteArray) ++ (⟨#[47]⟩ : ByteArray) ++ (⟨b.toArray⟩ : ByteArray)) = tx (a ++ 47 :: b) := tx_eq (by simp)
theorem nDig_le (m : Nat) : ∀ u : Nat, u < 10 ^ (m + 1) → Lib.nDigits u ≤ m + 1 := by
  induction m with
  | zero => intro u hu; rw [Lib.nDigits_small (by simpa using hu)]; omega
  | succ m ih =>
    intro u hu
    by_cases h : u < 10
    · rw [Lib.nDigits_small h]; omega
    · rw [Lib.nDigits_big h]
      have := ih (u / 10) (by
        rw [Nat.div_lt_iff_lt_mul (by omega)]
        rw [Nat.pow_succ] at hu
        exact hu)
      omega
theorem dec_len7 (u : Nat) (hu : u < 10000000) : (Lib.decDigits u).length ≤ 7 := by
  rw [Lib.decDigits_length]
  exact nDig_le 6 u (by omega)
theorem itoa_len8 {n : Int} (h : -1000000 ≤ n ∧ n ≤ 1000000) : (Lib.itoa n).length ≤ 8 := by
  have h1 := dec_len7 n.natAbs (by omega)
  have h2 := dec_len7 n.toNat (by omega)
  unfold Lib.itoa
  split
  · rw [List.length_cons]; omega
  · omega

/-- a fraction in a box, and the world below -/
def PS2 (w : World) (P : Nat) (x y : Int) (W : World) : Prop := W.cell? ⟨P, 0, none⟩ = some (.int .i64 x) ∧ W.cell? ⟨P, 1, none⟩ = some (.int .i64 y) ∧ Below w.heap.size w W
theorem PS2.call {w V W : World} {P : Nat} {x y : Int} (hb : Below V.heap.size V W) (h : PS2 w P x y V) : PS2 w P x y W := by
  obtain ⟨h1, h2, h3⟩ := h
  exact ⟨cell_later hb h1, cell_later hb h2, below_call hb h3⟩
theorem PS2.drew {w V : World} {P : Nat} {x y : Int} (h : PS2 w P x y V) : PS2 w P x y V.drew := PS2.call (Below.drew (Below.refl _ _)) h

set_option maxRecDepth 100000 in
set_option maxHeartbeats 4000000 in
theorem writeFrac_any (x y : Int) (w : World) (h1 : -1000000 ≤ x ∧ x ≤ 1000000) (h2 : -1000000 ≤ y ∧ y ≤ 1000000) (ht : Tab w) :
    Calls Tryz.prog 26 #[.agg #[.int .i64 x, .int .i64 y]] w fun e w' => e = .returned (.string (tx (frT (x, y)))) ∧ Below w.heap.size w w' := by
  have l1 := itoa_len8 h1
  have l2 := itoa_len8 h2
  have c0 : (w.alloc (.cells #[.int .i64 x, .int .i64 y] 38)).cell? ⟨w.heap.size, 0, none⟩ = some (.int .i64 x) := by simp [go_sem]
  have c1 : (w.alloc (.cells #[.int .i64 x, .int .i64 y] 38)).cell? ⟨w.heap.size, 1, none⟩ = some (.int .i64 y) := by simp [go_sem]
  have hS : PS2 w w.heap.size x y (w.alloc (.cells #[.int .i64 x, .int .i64 y] 38)) := ⟨c0, c1, below1 _ _⟩
  have htW : Tab (w.alloc (.cells #[.int .i64 x, .int .i64 y] 38)).drew := tab_later ht (Below.drew (below1 _ _))
  have z1 : ¬ (9223372036854775807 < (Lib.itoa x).length + 1) := by omega
  have z2 : ¬ (9223372036854775807 < (Lib.itoa x).length + 1 + (Lib.itoa y).length) := by omega
  go_enter Tryz.func26, Tryz.ntmps26
  go_wp2_with fail
  go_region_held3 (fun w'' => w''.cell? ⟨w.heap.size, 0, none⟩ = some (.int .i64 x) ∧ w''.cell? ⟨w.heap.size, 1, none⟩ = some (.int .i64 y) ∧ Below w.heap.size w w'')
    ((show PS2 w w.heap.size x y _
      first
        | exact hS
        | exact hS.drew
        | assumption
        | exact PS2.call (by assumption) (by assumption)
        | (refine ⟨?_, ?_, ?_⟩ <;> assumption)
        | exact PS2.call (by assumption) ⟨by assumption, by assumption, by assumption⟩))
    ((go_at_call 27
      refine (itoa_any _ ?_ _ htW).mono ?_
      omega
      rintro e w'' ⟨rfl, hb'⟩
      have htW := tab_later htW hb'))
  go_split_ands
  have hwf : Below w.heap.size w w'' := by assumption
  go_wp2
  go_ret
  exact ⟨by rw [cat47]; rfl, hwf⟩

end Go.Proofs.YtkjlkbgdkdcboaaGreatDoor
