import Derived.Test.YtkjlkbgdkdcboaaGreatDoorWaA
import Derived.Laws.AppendOwn
import Derived.Deep.QuietTactic
import Derived.BigQuiet
import Derived.WalkSmall

set_option linter.unusedSimpArgs false
set_option linter.unusedVariables false

set_option linter.unusedSimpArgs false
set_option linter.unusedVariables false

namespace Go.Proofs.YtkjlkbgdkdcboaaGreatDoor
open Go.RowKit
attribute [local go_sem ↓] Go.wp_at_zero Go.wp_at_succ

/-- a pen in memory -/
structure PenAt (w : World) (b : Nat) (s : ByteArray) (i bad : Int) : Prop where
  c0 : w.cell? ⟨b, 0, none⟩ = some (.string s)
  c1 : w.cell? ⟨b, 1, none⟩ = some (.int .i64 i)
  c2 : w.cell? ⟨b, 2, none⟩ = some (.int .i64 bad)
  f1 : w.frozen? ⟨b, 1, none⟩ = false
  f2 : w.frozen? ⟨b, 2, none⟩ = false

theorem gb_refl (w : World) (r : Option Nat) : w.grownBy w r := ⟨rfl, rfl, rfl, Nat.le_refl _, fun _ _ _ => rfl⟩
theorem gb_trans {a b c : World} {r : Option Nat} (h : a.grownBy b r) (k : b.grownBy c r) : a.grownBy c r :=
  ⟨k.os.trans h.os, k.tape.trans h.tape, k.output.trans h.output, Nat.le_trans h.size k.size, fun i hi hn => (k.block i (Nat.lt_of_lt_of_le hi h.size) hn).trans (h.block i hi hn)⟩
theorem gb_set (w : World) (b o : Nat) (v : Value) : w.grownBy (w.setCell ⟨b, o, none⟩ v) (some b) :=
  ⟨rfl, rfl, rfl, by simp [World.setCell], fun k hk hn => Below.heap_setCell _ _ _ _ (fun e => hn (by rw [e]))⟩
theorem gb_drewN (w : World) (n : Nat) (r : Option Nat) : w.grownBy (w.drewN n) r := ⟨rfl, rfl, rfl, Nat.le_refl _, fun _ _ _ => rfl⟩
theorem PenAt.drewN {w : World} {b : Nat} {s : ByteArray} {i bad : Int} (h : PenAt w b s i bad) (n : Nat) : PenAt (w.drewN n) b s i bad := ⟨h.c0, h.c1, h.c2, h.f1, h.f2⟩

theorem frozen_set (w : World) (p q : Addr) (v : Value) : (w.setCell p v).frozen? q = w.frozen? q := by
  go_simp

theorem PenAt.setBad {w : World} {b : Nat} {s : ByteArray} {i bad : Int} (h : PenAt w b s i bad) (n : Int) : PenAt (w.setCell ⟨b, 2, none⟩ (.int .i64 n)) b s i n := by
  obtain ⟨c0, c1, c2, f1, f2⟩ := id h
  constructor <;> simp [go_sem, *]
theorem PenAt.setI {w : World} {b : Nat} {s : ByteArray} {i bad : Int} (h : PenAt w b s i bad) (n : Int) : PenAt (w.setCell ⟨b, 1, none⟩ (.int .i64 n)) b s n bad := by
  obtain ⟨c0, c1, c2, f1, f2⟩ := id h
  constructor <;> simp [go_sem, *]

def failed (i bad : Int) : Int := if bad < 0 then i else bad

set_option maxHeartbeats 400000 in
theorem fail_any (b : Nat) (s : ByteArray) (i bad : Int) (w : World) (h : PenAt w b s i bad) :
    Calls Tryz.prog 62 #[.pointer (some ⟨b, 0, none⟩)] w fun e w' => e = .returned (.tuple #[]) ∧ PenAt w' b s i (failed i bad) ∧ w.grownBy w' (some b) := by
  obtain ⟨c0, c1, c2, f1, f2⟩ := id h
  by_cases hb : bad < 0
  · have h2 := h.setBad i
    have hf : failed i bad = i := if_pos hb
    rw [hf]
    go_enter Tryz.func62, Tryz.ntmps62
    go_wp2
    go_end0
    exact ⟨rfl, h2, gb_set _ _ _ _⟩
  · have hf : failed i bad = bad := if_neg hb
    rw [hf]
    go_enter Tryz.func62, Tryz.ntmps62
    go_wp2
    go_end0
    exact ⟨rfl, h, gb_refl _ _⟩

/-- the byte there, or -1 behind the end -/
def bt (s : ByteArray) (k : Nat) : Int := if h : k < s.size then (s[k].toNat : Int) else -1
theorem bt_in {s : ByteArray} {k : Nat} (h : k < s.size) : bt s k = (s[k].toNat : Int) := dif_pos h
theorem bt_out {s : ByteArray} {k : Nat} (h : ¬ k < s.size) : bt s k = -1 := dif_neg h
theorem bt_pos {s : ByteArray} {k : Nat} (h : 0 ≤ bt s k) : k < s.size := by
  by_cases hk : k < s.size
  · exact hk
  · rw [bt_out hk] at h; omega
theorem bt_lt (s : ByteArray) (k : Nat) : bt s k < 256 := by
  by_cases hk : k < s.size
  · rw [bt_in hk]; have := s[k].toNat_lt; omega
  · rw [bt_out hk]; omega

def onP (s : ByteArray) (i : Nat) (bad : Int) (c : Int) : Bool := decide (bad < 0) && decide (bt s i = c)
def digP (s : ByteArray) (i : Nat) (bad : Int) : Bool := decide (bad < 0) && (decide (48 ≤ bt s i) && decide (bt s i ≤ 57))

set_option maxHeartbeats 400000 in
theorem on_any (b : Nat) (s : ByteArray) (i : Nat) (bad c : Int) (w : World) (h : PenAt w b s i bad) (hc : 0 ≤ c) :
    Calls Tryz.prog 114 #[.pointer (some ⟨b, 0, none⟩), .int .u8 c] w fun e w' => e = .returned (.bool (onP s i bad c)) ∧ PenAt w' b s i bad ∧ w.grownBy w' (some b) := by
  obtain ⟨c0, c1, c2, f1, f2⟩ := id h
  by_cases hb : bad < 0
  · have hb' : decide (bad < 0) = true := decide_eq_true hb
    by_cases hi2 : i < s.size
    · have ht := bt_in hi2
      have hr : onP s i bad c = (bt s i == c) := by simp [onP, hb]; rfl
      rw [hr, ht]
      clear ht hr
      have hi3 : (i : Int) < (s.size : Int) := by omega
      go_enter Tryz.func114, Tryz.ntmps114
      go_wp2
      go_quiet (fail)
      go_wp2
      go_ret
      exact ⟨rfl, h.drewN _, gb_drewN _ _ _⟩
    · have ht := bt_out hi2
      have hr : onP s i bad c = false := by simp [onP, ht]; omega
      rw [hr]
      clear ht hr
      have hi3 : decide ((i : Int) < (s.size : Int)) = false := decide_eq_false (by omega)
      have hi4 : decide (i < s.size) = false := decide_eq_false (by omega)
      go_enter Tryz.func114, Tryz.ntmps114
      go_wp2
      go_quiet (fail)
      go_wp2
      go_ret
      exact ⟨rfl, h.drewN _, gb_drewN _ _ _⟩
  · have hb' : decide (bad < 0) = false := decide_eq_false hb
    have hr : onP s i bad c = false := by simp only [onP, hb', Bool.false_and]
    rw [hr]
    clear hr
    go_enter Tryz.func114, Tryz.ntmps114
    go_wp2
    go_quiet (fail)
    go_wp2
    go_ret
    exact ⟨rfl, h.drewN _, gb_drewN _ _ _⟩

set_option maxHeartbeats 400000 in
theorem dig_any (b : Nat) (s : ByteArray) (i : Nat) (bad : Int) (w : World) (h : PenAt w b s i bad) :
    Calls Tryz.prog 155 #[.pointer (some ⟨b, 0, none⟩)] w fun e w' => e = .returned (.bool (digP s i bad)) ∧ PenAt w' b s i bad ∧ w.grownBy w' (some b) := by
  obtain ⟨c0, c1, c2, f1, f2⟩ := id h
  by_cases hb : bad < 0
  · have hb' : decide (bad < 0) = true := decide_eq_true hb
    by_cases hi2 : i < s.size
    · have ht := bt_in hi2
      have hi3 : (i : Int) < (s.size : Int) := by omega
      by_cases h48 : (48 : Int) ≤ (s[i].toNat : Int)
      · have h48' : decide ((48 : Int) ≤ (s[i].toNat : Int)) = true := decide_eq_true h48
        have hr : digP s i bad = decide ((s[i].toNat : Int) ≤ 57) := by rw [digP, ht, hb', h48']; simp
        rw [hr]
        clear ht hr
        go_enter Tryz.func155, Tryz.ntmps155
        go_wp2
        go_quiet (fail)
        go_wp2
        go_ret
        exact ⟨rfl, h.drewN _, gb_drewN _ _ _⟩
      · have h48' : decide ((48 : Int) ≤ (s[i].toNat : Int)) = false := decide_eq_false h48
        have hr : digP s i bad = false := by rw [digP, ht, hb', h48']; simp
        rw [hr]
        clear ht hr
        go_enter Tryz.func155, Tryz.ntmps155
        go_wp2
        go_quiet (fail)
        go_wp2
        go_ret
        exact ⟨rfl, h.drewN _, gb_drewN _ _ _⟩
    · have ht := bt_out hi2
      have hr : digP s i bad = false := by rw [digP, ht]; simp
      rw [hr]
      clear ht hr
      have hi3 : decide ((i : Int) < (s.size : Int)) = false := decide_eq_false (by omega)
      have hi4 : decide (i < s.size) = false := decide_eq_false (by omega)
      go_enter Tryz.func155, Tryz.ntmps155
      go_wp2
      go_quiet (fail)
      go_wp2
      go_ret
      exact ⟨rfl, h.drewN _, gb_drewN _ _ _⟩
  · have hb' : decide (bad < 0) = false := decide_eq_false hb
    have hr : digP s i bad = false := by simp only [digP, hb', Bool.false_and]
    rw [hr]
    clear hr
    go_enter Tryz.func155, Tryz.ntmps155
    go_wp2
    go_quiet (fail)
    go_wp2
    go_ret
    exact ⟨rfl, h.drewN _, gb_drewN _ _ _⟩

end Go.Proofs.YtkjlkbgdkdcboaaGreatDoor

namespace Go.Proofs.YtkjlkbgdkdcboaaGreatDoor
open Go.RowKit
attribute [local go_sem ↓] Go.wp_at_zero Go.wp_at_succ

theorem hide {p : Prop} (h : p) : Hid p := h

theorem onP_in {s : ByteArray} {i : Nat} {bad c : Int} (h : onP s i bad c = true) (hc : 0 ≤ c) : i < s.size := by
  simp [onP] at h
  exact bt_pos (by omega)

def gotI (s : ByteArray) (i : Nat) (bad c : Int) : Nat := if onP s i bad c then i + 1 else i
def mustB (s : ByteArray) (i : Nat) (bad c : Int) : Int := if onP s i bad c then bad else failed i bad

set_option maxHeartbeats 400000 in
theorem got_any (b : Nat) (s : ByteArray) (i : Nat) (bad c : Int) (w : World) (h : PenAt w b s i bad) (hc : 0 ≤ c) (hs : s.size < 9223372036854775807) :
    Calls Tryz.prog 61 #[.pointer (some ⟨b, 0, none⟩), .int .u8 c] w fun e w' => e = .returned (.bool (onP s i bad c)) ∧ PenAt w' b s (gotI s i bad c) bad ∧ w.grownBy w' (some b) := by
  have hon := on_any b s i bad c w h hc
  cases ho : onP s i bad c with
  | true =>
    rw [ho] at hon
    have hin := onP_in ho hc
    have hI : gotI s i bad c = i + 1 := by rw [gotI, ho]; rfl
    rw [hI]
    clear ho hI
    have Hon := hide hon
    clear hon
    go_enter Tryz.func61, Tryz.ntmps61
    go_wp2_with fail
    refine Hon.out.mono ?_
    rintro e w1 ⟨rfl, h1, g1⟩
    have h2 := h1.setI ((i : Int) + 1)
    obtain ⟨c0, c1, c2, f1, f2⟩ := id h1
    have hi3 : (i : Int) + 1 ≤ 9223372036854775807 := by omega
    go_wp2
    go_ret
    exact ⟨rfl, by simpa using h2, gb_trans g1 (gb_set _ _ _ _)⟩
  | false =>
    rw [ho] at hon
    have hI : gotI s i bad c = i := by rw [gotI, ho]; rfl
    rw [hI]
    clear ho hI
    have Hon := hide hon
    clear hon
    go_enter Tryz.func61, Tryz.ntmps61
    go_wp2_with fail
    refine Hon.out.mono ?_
    rintro e w1 ⟨rfl, h1, g1⟩
    go_wp2
    go_ret
    exact ⟨rfl, h1, g1⟩

set_option maxHeartbeats 400000 in
theorem must_any (b : Nat) (s : ByteArray) (i : Nat) (bad c : Int) (w : World) (h : PenAt w b s i bad) (hc : 0 ≤ c) (hs : s.size < 9223372036854775807) :
    Calls Tryz.prog 113 #[.pointer (some ⟨b, 0, none⟩), .int .u8 c] w fun e w' => e = .returned (.tuple #[]) ∧ PenAt w' b s (gotI s i bad c) (mustB s i bad c) ∧ w.grownBy w' (some b) := by
  have hon := got_any b s i bad c w h hc hs
  cases ho : onP s i bad c with
  | true =>
    rw [ho] at hon
    have hB : mustB s i bad c = bad := by rw [mustB, ho]; rfl
    rw [hB]
    clear ho hB
    have Hon := hide hon
    clear hon
    go_enter Tryz.func113, Tryz.ntmps113
    go_wp2_with fail
    refine Hon.out.mono ?_
    rintro e w1 ⟨rfl, h1, g1⟩
    go_wp2
    go_end0
    exact ⟨rfl, h1, g1⟩
  | false =>
    have hI : gotI s i bad c = i := by rw [gotI, ho]; rfl
    have hB : mustB s i bad c = failed i bad := by rw [mustB, ho]; rfl
    rw [ho, hI] at hon
    rw [hI, hB]
    clear ho hI hB
    have Hon := hide hon
    clear hon
    go_enter Tryz.func113, Tryz.ntmps113
    go_wp2_with fail
    refine Hon.out.mono ?_
    rintro e w1 ⟨rfl, h1, g1⟩
    go_wp2_with fail
    refine (fail_any b s i bad w1 h1).mono ?_
    rintro e w2 ⟨rfl, h2, g2⟩
    go_wp2
    go_end0
    exact ⟨rfl, h2, gb_trans g1 g2⟩

end Go.Proofs.YtkjlkbgdkdcboaaGreatDoor

