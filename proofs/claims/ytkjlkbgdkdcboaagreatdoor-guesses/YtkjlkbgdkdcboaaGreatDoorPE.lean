import Derived.Test.YtkjlkbgdkdcboaaGreatDoorWaA
import Derived.Laws.AppendOwn
import Derived.Deep.QuietTactic
import Derived.BigQuiet
import Derived.WalkSmall

set_option linter.unusedSimpArgs false
set_option linter.unusedVariables false

set_option linter.unusedSimpArgs false
set_option linter.unusedVariables false
namespace Go.Proofs.YtkjlkbgdkdcboaaGreatDoor
open Go.RowKit
attribute [local go_sem ↓] Go.wp_at_zero Go.wp_at_succ
structure PenAt (w : World) (b : Nat) (s : ByteArray) (i bad : Int) : Prop where
  c0 : w.cell? ⟨b, 0, none⟩ = some (.string s)
  c1 : w.cell? ⟨b, 1, none⟩ = some (.int .i64 i)
  c2 : w.cell? ⟨b, 2, none⟩ = some (.int .i64 bad)
  f1 : w.frozen? ⟨b, 1, none⟩ = false
  f2 : w.frozen? ⟨b, 2, none⟩ = false
theorem gb_refl (w : World) (r : Option Nat) : w.grownBy w r := ⟨rfl, rfl, rfl, Nat.le_refl _, fun _ _ _ => rfl⟩
theorem gb_trans {a b c : World} {r : Option Nat} (h : a.grownBy b r) (k : b.grownBy c r) : a.grownBy c r :=
  ⟨k.os.trans h.os, k.tape.trans h.tape, k.output.trans h.output, Nat.le_trans h.size k.size, fun i hi hn => (k.block i (Nat.lt_of_lt_of_le hi h.size) hn).trans (h.block i hi hn)⟩
theorem gb_set (w : World) (b o : Nat) (v : Value) : w.grownBy (w.setCell ⟨b, o, none⟩ v) (some b) :=
  ⟨rfl, rfl, rfl, by simp [World.setCell], fun k hk hn => Below.heap_setCell _ _ _ _ (fun e => hn (by rw [e]))⟩
theorem gb_drewN (w : World) (n : Nat) (r : Option Nat) : w.grownBy (w.drewN n) r := ⟨rfl, rfl, rfl, Nat.le_refl _, fun _ _ _ => rfl⟩
theorem PenAt.drewN {w : World} {b : Nat} {s : ByteArray} {i bad : Int} (h : PenAt w b s i bad) (n : Nat) : PenAt (w.drewN n) b s i bad := ⟨h.c0, h.c1, h.c2, h.f1, h.f2⟩
theorem frozen_set (w : World) (p q : Addr) (v : Value) : (w.setCell p v).frozen? q = w.frozen? q := by
  go_simp
theorem PenAt.setBad {w : World} {b : Nat} {s : ByteArray} {i bad : Int} (h : PenAt w b s i bad) (n : Int) : PenAt (w.setCell ⟨b, 2, none⟩ (.int .i64 n)) b s i n := by
  obtain ⟨c0, c1, c2, f1, f2⟩ := id h
  constructor <;> simp [go_sem, *]
theorem PenAt.setI {w : World} {b : Nat} {s : ByteArray} {i bad : Int} (h : PenAt w b s i bad) (n : Int) : PenAt (w.setCell ⟨b, 1, none⟩ (.int .i64 n)) b s n bad := by
  obtain ⟨c0, c1, c2, f1, f2⟩ := id h
  constructor <;> simp [go_sem, *]
def failed (i bad : Int) : Int := if bad < 0 then i else bad
set_option maxHeartbeats 400000 in
theorem fail_any (b : Nat) (s : ByteArray) (i bad : Int) (w : World) (h : PenAt w b s i bad) :
    Calls Tryz.prog 62 #[.pointer (some ⟨b, 0, none⟩)] w fun e w' => e = .returned (.tuple #[]) ∧ PenAt w' b s i (failed i bad) ∧ w.grownBy w' (some b) := by
  obtain ⟨c0, c1, c2, f1, f2⟩ := id h
  by_cases hb : bad < 0
  · have h2 := h.setBad i
    have hf : failed i bad = i := if_pos hb
    rw [hf]
    go_enter Tryz.func62, Tryz.ntmps62
    go_wp2
    go_end0
    exact ⟨rfl, h2, gb_set _ _ _ _⟩
  · have hf : failed i bad = bad := if_neg hb
    rw [hf]
    go_enter Tryz.func62, Tryz.ntmps62
    go_wp2
    go_end0
    exact ⟨rfl, h, gb_refl _ _⟩
def bt (s : ByteArray) (k : Nat) : Int := if h : k < s.size then (s[k].toNat : Int) else -1
theorem bt_in {s : ByteArray} {k : Nat} (h : k < s.size) : bt s k = (s[k].toNat : Int) := dif_pos h
theorem bt_out {s : ByteArray} {k : Nat} (h : ¬ k < s.size) : bt s k = -1 := dif_neg h
theorem bt_pos {s : ByteArray} {k : Nat} (h : 0 ≤ bt s k) : k < s.size := by
  by_cases hk : k < s.size
  · exact hk
  · rw [bt_out hk] at h; omega
def onP (s : ByteArray) (i : Nat) (bad : Int) (c : Int) : Bool := decide (bad < 0) && decide (bt s i = c)
def digP (s : ByteArray) (i : Nat) (bad : Int) : Bool := decide (bad < 0) && (decide (48 ≤ bt s i) && decide (bt s i ≤ 57))
set_option maxHeartbeats 400000 in
theorem on_any (b : Nat) (s : ByteArray) (i : Nat) (bad c : Int) (w : World) (h : PenAt w b s i bad) (hc : 0 ≤ c) :
    Calls Tryz.prog 114 #[.pointer (some ⟨b, 0, none⟩), .int .u8 c] w fun e w' => e = .returned (.bool (onP s i bad c)) ∧ PenAt w' b s i bad ∧ w.grownBy w' (some b) := by
  obtain ⟨c0, c1, c2, f1, f2⟩ := id h
  by_cases hb : bad < 0
  · have hb' : decide (bad < 0) = true := decide_eq_true hb
    by_cases hi2 : i < s.size
    · have ht := bt_in hi2
      have hr : onP s i bad c = (bt s i == c) := by simp [onP, hb]; rfl
      rw [hr, ht]
      clear ht hr
      have hi3 : (i : Int) < (s.size : Int) := by omega
      go_enter Tryz.func114, Tryz.ntmps114
      go_wp2
      go_quiet (fail)
      go_wp2
      go_ret
      exact ⟨rfl, h.drewN _, gb_drewN _ _ _⟩
    · have ht := bt_out hi2
      have hr : onP s i bad c = false := by simp [onP, ht]; omega
      rw [hr]
      clear ht hr
      have hi3 : decide ((i : Int) < (s.size : Int)) = false := decide_eq_false (by omega)
      have hi4 : decide (i < s.size) = false := decide_eq_false (by omega)
      go_enter Tryz.func114, Tryz.ntmps114
      go_wp2
      go_quiet (fail)
      go_wp2
      go_ret
      exact ⟨rfl, h.drewN _, gb_drewN _ _ _⟩
  · have hb' : decide (bad < 0) = false := decide_eq_false hb
    have hr : onP s i bad c = false := by simp only [onP, hb', Bool.false_and]
    rw [hr]
    clear hr
    go_enter Tryz.func114, Tryz.ntmps114
    go_wp2
    go_quiet (fail)
    go_wp2
    go_ret
    exact ⟨rfl, h.drewN _, gb_drewN _ _ _⟩
set_option maxHeartbeats 400000 in
theorem dig_any (b : Nat) (s : ByteArray) (i : Nat) (bad : Int) (w : World) (h : PenAt w b s i bad) :
    Calls Tryz.prog 155 #[.pointer (some ⟨b, 0, none⟩)] w fun e w' => e = .returned (.bool (digP s i bad)) ∧ PenAt w' b s i bad ∧ w.grownBy w' (some b) := by
  obtain ⟨c0, c1, c2, f1, f2⟩ := id h
  by_cases hb : bad < 0
  · have hb' : decide (bad < 0) = true := decide_eq_true hb
    by_cases hi2 : i < s.size
    · have ht := bt_in hi2
      have hi3 : (i : Int) < (s.size : Int) := by omega
      by_cases h48 : (48 : Int) ≤ (s[i].toNat : Int)
      · have h48' : decide ((48 : Int) ≤ (s[i].toNat : Int)) = true := decide_eq_true h48
        have hr : digP s i bad = decide ((s[i].toNat : Int) ≤ 57) := by rw [digP, ht, hb', h48']; simp
        rw [hr]
        clear ht hr
        go_enter Tryz.func155, Tryz.ntmps155
        go_wp2
        go_quiet (fail)
        go_wp2
        go_ret
        exact ⟨rfl, h.drewN _, gb_drewN _ _ _⟩
      · have h48' : decide ((48 : Int) ≤ (s[i].toNat : Int)) = false := decide_eq_false h48
        have hr : digP s i bad = false := by rw [digP, ht, hb', h48']; simp
        rw [hr]
        clear ht hr
        go_enter Tryz.func155, Tryz.ntmps155
        go_wp2
        go_quiet (fail)
        go_wp2
        go_ret
        exact ⟨rfl, h.drewN _, gb_drewN _ _ _⟩
    · have ht := bt_out hi2
      have hr : digP s i bad = false := by rw [digP, ht]; simp
      rw [hr]
      clear ht hr
      have hi3 : decide ((i : Int) < (s.size : Int)) = false := decide_eq_false (by omega)
      have hi4 : decide (i < s.size) = false := decide_eq_false (by omega)
      go_enter Tryz.func155, Tryz.ntmps155
      go_wp2
      go_quiet (fail)
      go_wp2
      go_ret
      exact ⟨rfl, h.drewN _, gb_drewN _ _ _⟩
  · have hb' : decide (bad < 0) = false := decide_eq_false hb
    have hr : digP s i bad = false := by simp only [digP, hb', Bool.false_and]
    rw [hr]
    clear hr
    go_enter Tryz.func155, Tryz.ntmps155
    go_wp2
    go_quiet (fail)
    go_wp2
    go_ret
    exact ⟨rfl, h.drewN _, gb_drewN _ _ _⟩
end Go.Proofs.YtkjlkbgdkdcboaaGreatDoor
namespace Go.Proofs.YtkjlkbgdkdcboaaGreatDoor
open Go.RowKit
attribute [local go_sem ↓] Go.wp_at_zero Go.wp_at_succ
theorem hide {p : Prop} (h : p) : Hid p := h
theorem onP_in {s : ByteArray} {i : Nat} {bad c : Int} (h : onP s i bad c = true) (hc : 0 ≤ c) : i < s.size := by
  simp [onP] at h
  exact bt_pos (by omega)
def gotI (s : ByteArray) (i : Nat) (bad c : Int) : Nat := if onP s i bad c then i + 1 else i
def mustB (s : ByteArray) (i : Nat) (bad c : Int) : Int := if onP s i bad c then bad else failed i bad
set_option maxHeartbeats 400000 in
theorem got_any (b : Nat) (s : ByteArray) (i : Nat) (bad c : Int) (w : World) (h : PenAt w b s i bad) (hc : 0 ≤ c) (hs : s.size < 9223372036854775807) :
    Calls Tryz.prog 61 #[.pointer (some ⟨b, 0, none⟩), .int .u8 c] w fun e w' => e = .returned (.bool (onP s i bad c)) ∧ PenAt w' b s (gotI s i bad c) bad ∧ w.grownBy w' (some b) := by
  have hon := on_any b s i bad c w h hc
  cases ho : onP s i bad c with
  | true =>
    rw [ho] at hon
    have hin := onP_in ho hc
    have hI : gotI s i bad c = i + 1 := by rw [gotI, ho]; rfl
    rw [hI]
    clear ho hI
    have Hon := hide hon
    clear hon
    go_enter Tryz.func61, Tryz.ntmps61
    go_wp2_with fail
    refine Hon.out.mono ?_
    rintro e w1 ⟨rfl, h1, g1⟩
    have h2 := h1.setI ((i : Int) + 1)
    obtain ⟨c0, c1, c2, f1, f2⟩ := id h1
    have hi3 : (i : Int) + 1 ≤ 9223372036854775807 := by omega
    go_wp2
    go_ret
    exact ⟨rfl, by simpa using h2, gb_trans g1 (gb_set _ _ _ _)⟩
  | false =>
    rw [ho] at hon
    have hI : gotI s i bad c = i := by rw [gotI, ho]; rfl
    rw [hI]
    clear ho hI
    have Hon := hide hon
    clear hon
    go_enter Tryz.func61, Tryz.ntmps61
    go_wp2_with fail
    refine Hon.out.mono ?_
    rintro e w1 ⟨rfl, h1, g1⟩
    go_wp2
    go_ret
    exact ⟨rfl, h1, g1⟩
set_option maxHeartbeats 400000 in
theorem must_any (b : Nat) (s : ByteArray) (i : Nat) (bad c : Int) (w : World) (h : PenAt w b s i bad) (hc : 0 ≤ c) (hs : s.size < 9223372036854775807) :
    Calls Tryz.prog 113 #[.pointer (some ⟨b, 0, none⟩), .int .u8 c] w fun e w' => e = .returned (.tuple #[]) ∧ PenAt w' b s (gotI s i bad c) (mustB s i bad c) ∧ w.grownBy w' (some b) := by
  have hon := got_any b s i bad c w h hc hs
  cases ho : onP s i bad c with
  | true =>
    rw [ho] at hon
    have hB : mustB s i bad c = bad := by rw [mustB, ho]; rfl
    rw [hB]
    clear ho hB
    have Hon := hide hon
    clear hon
    go_enter Tryz.func113, Tryz.ntmps113
    go_wp2_with fail
    refine Hon.out.mono ?_
    rintro e w1 ⟨rfl, h1, g1⟩
    go_wp2
    go_end0
    exact ⟨rfl, h1, g1⟩
  | false =>
    have hI : gotI s i bad c = i := by rw [gotI, ho]; rfl
    have hB : mustB s i bad c = failed i bad := by rw [mustB, ho]; rfl
    rw [ho, hI] at hon
    rw [hI, hB]
    clear ho hI hB
    have Hon := hide hon
    clear hon
    go_enter Tryz.func113, Tryz.ntmps113
    go_wp2_with fail
    refine Hon.out.mono ?_
    rintro e w1 ⟨rfl, h1, g1⟩
    go_wp2_with fail
    refine (fail_any b s i bad w1 h1).mono ?_
    rintro e w2 ⟨rfl, h2, g2⟩
    go_wp2
    go_end0
    exact ⟨rfl, h2, gb_trans g1 g2⟩
end Go.Proofs.YtkjlkbgdkdcboaaGreatDoor

set_option linter.unusedSimpArgs false
set_option linter.unusedVariables false
namespace Go.Proofs.YtkjlkbgdkdcboaaGreatDoor
open Go.RowKit
attribute [local go_sem ↓] Go.wp_at_zero Go.wp_at_succ
def mustS (s : ByteArray) (p : Nat × Int) (c : Int) : Nat × Int := (gotI s p.1 p.2 c, mustB s p.1 p.2 c)
def signM (s : ByteArray) (i : Nat) (bad : Int) : Bool := onP s i bad 45 || onP s (gotI s i bad 45) bad 226
def signS (s : ByteArray) (i : Nat) (bad : Int) : Nat × Int :=
  if (!onP s i bad 45 && onP s (gotI s i bad 45) bad 226) = true then mustS s (mustS s (mustS s (gotI s i bad 45, bad) 226) 136) 146 else (gotI s i bad 45, bad)
theorem PenAt.kept {w w' : World} {b : Nat} {s : ByteArray} {i bad : Int} {r : Option Nat} (h : PenAt w b s i bad) (hg : w.grownBy w' r) (hr : r ≠ some b) : PenAt w' b s i bad := by
  have hb : w'.heap[b]? = w.heap[b]? := hg.block b (World.block_lt_of_cell? _ _ h.c0) (fun e => hr e.symm)
  exact ⟨hg.cell h.c0 (fun e => hr e.symm), hg.cell h.c1 (fun e => hr e.symm), hg.cell h.c2 (fun e => hr e.symm), (World.frozen?_of_block (w := w) hb).trans h.f1, (World.frozen?_of_block (w := w) hb).trans h.f2⟩
theorem PenAt.lt {w : World} {b : Nat} {s : ByteArray} {i bad : Int} (h : PenAt w b s i bad) : b < w.heap.size := World.block_lt_of_cell? _ _ h.c0
theorem gb_alloc (w : World) (o : Obj) (r : Option Nat) : w.grownBy (w.alloc o) r := ⟨rfl, rfl, rfl, by simp, fun k hk _ => Below.heap_alloc _ _ _ hk⟩
theorem PenAt.alloc {w : World} {b : Nat} {s : ByteArray} {i bad : Int} (h : PenAt w b s i bad) (o : Obj) : PenAt (w.alloc o) b s i bad := h.kept (gb_alloc w o none) (by simp)
structure BoxN (w : World) (n : Nat) (v a : Int) : Prop where
  c0 : w.cell? ⟨n, 0, none⟩ = some (.int .i64 v)
  c1 : w.cell? ⟨n, 1, none⟩ = some (.int .i64 a)
  f0 : w.frozen? ⟨n, 0, none⟩ = false
  f1 : w.frozen? ⟨n, 1, none⟩ = false
theorem BoxN.kept {w w' : World} {n : Nat} {v a : Int} {r : Option Nat} (h : BoxN w n v a) (hg : w.grownBy w' r) (hr : r ≠ some n) : BoxN w' n v a := by
  have hb : w'.heap[n]? = w.heap[n]? := hg.block n (World.block_lt_of_cell? _ _ h.c0) (fun e => hr e.symm)
  exact ⟨hg.cell h.c0 (fun e => hr e.symm), hg.cell h.c1 (fun e => hr e.symm), (World.frozen?_of_block (w := w) hb).trans h.f0, (World.frozen?_of_block (w := w) hb).trans h.f1⟩
theorem BoxN.setV {w : World} {n : Nat} {v a : Int} (h : BoxN w n v a) (u : Int) : BoxN (w.setCell ⟨n, 0, none⟩ (.int .i64 u)) n u a := by
  obtain ⟨c0, c1, f0, f1⟩ := id h
  constructor <;> simp [go_sem, *]
def digV (s : ByteArray) (j : Nat) : Nat → Int
  | 0 => 0
  | k + 1 => 10 * digV s j k + (bt s (j + k) - 48)
def tailN (s : ByteArray) (m : Bool) (p : Nat × Int) : Int × Nat × Int :=
  if digP s p.1 p.2 = true then
    if digP s (p.1 + 1) p.2 = true then (if m then - digV s p.1 2 else digV s p.1 2, p.1 + 2, p.2)
    else (if m then - digV s p.1 1 else digV s p.1 1, p.1 + 1, p.2)
  else (0, p.1, failed p.1 p.2)
def numP (s : ByteArray) (i : Nat) (bad : Int) : Int × Nat × Int := tailN s (signM s i bad) (signS s i bad)
structure NumAt (w W : World) (b : Nat) (s : ByteArray) (j : Nat) (bad v a : Int) : Prop where
  pen : PenAt W b s j bad
  box : BoxN W (w.heap.size + 1) v a
  res : BoxN W w.heap.size 0 0
  gb : w.grownBy W (some b)
theorem NumAt.call {w W W' : World} {b : Nat} {s : ByteArray} {j j' : Nat} {bad bad' v a : Int} (h : NumAt w W b s j bad v a) (hb : b < w.heap.size) (hp : PenAt W' b s j' bad') (hg : W.grownBy W' (some b)) : NumAt w W' b s j' bad' v a :=
  ⟨hp, h.box.kept hg (by simp; omega), h.res.kept hg (by simp; omega), gb_trans h.gb hg⟩
theorem NumAt.start {w : World} {b : Nat} {s : ByteArray} {i : Nat} {bad : Int} (h : PenAt w b s i bad) : NumAt w ((w.alloc (.cells #[.int .i64 0, .int .i64 0] 83)).alloc (.cells #[.int .i64 0, .int .i64 i] 83)) b s i bad 0 i :=
  ⟨(h.alloc _).alloc _, by constructor <;> simp [go_sem], by constructor <;> simp [go_sem], gb_trans (gb_alloc _ _ _) (gb_alloc _ _ _)⟩
theorem gb_new {w W : World} {b n o : Nat} {v : Value} (h : w.grownBy W (some b)) (hn : w.heap.size ≤ n) : w.grownBy (W.setCell ⟨n, o, none⟩ v) (some b) :=
  ⟨h.os, h.tape, h.output, Nat.le_trans h.size (gb_set W n o v).size, fun k hk hne => ((gb_set W n o v).block k (Nat.lt_of_lt_of_le hk h.size) (by simp; omega)).trans (h.block k hk hne)⟩
theorem NumAt.setV {w W : World} {b : Nat} {s : ByteArray} {j : Nat} {bad v a : Int} (h : NumAt w W b s j bad v a) (hb : b < w.heap.size) (u : Int) :
    NumAt w (W.setCell ⟨w.heap.size + 1, 0, none⟩ (.int .i64 u)) b s j bad u a :=
  ⟨h.pen.kept (gb_set _ _ _ _) (by simp; omega), h.box.setV u, h.res.kept (gb_set _ _ _ _) (by simp), gb_new h.gb (by omega)⟩
theorem NumAt.drew {w W : World} {b : Nat} {s : ByteArray} {j : Nat} {bad v a : Int} (h : NumAt w W b s j bad v a) : NumAt w W.drew b s j bad v a :=
  ⟨⟨h.pen.c0, h.pen.c1, h.pen.c2, h.pen.f1, h.pen.f2⟩, ⟨h.box.c0, h.box.c1, h.box.f0, h.box.f1⟩, ⟨h.res.c0, h.res.c1, h.res.f0, h.res.f1⟩, ⟨h.gb.os, h.gb.tape, h.gb.output, h.gb.size, h.gb.block⟩⟩
theorem NumAt.step {w W : World} {b : Nat} {s : ByteArray} {j : Nat} {bad v a : Int} (h : NumAt w W b s j bad v a) (hb : b < w.heap.size) (u t : Int) (ht : t = ((j + 1 : Nat) : Int)) :
    NumAt w ((W.setCell ⟨w.heap.size + 1, 0, none⟩ (.int .i64 u)).setCell ⟨b, 1, none⟩ (.int .i64 t)).drew b s (j + 1) bad u a := by
  have k := h.setV hb u
  subst ht
  exact (k.call hb (k.pen.setI _) (gb_set _ _ _ _)).drew
theorem NumAt.done {w W : World} {b : Nat} {s : ByteArray} {j : Nat} {bad v a : Int} (h : NumAt w W b s j bad v a) (hb : b < w.heap.size) (v' a' : Int) :
    BoxN ((W.setCell ⟨w.heap.size, 0, none⟩ (.int .i64 v')).setCell ⟨w.heap.size, 1, none⟩ (.int .i64 a')) w.heap.size v' a' ∧ PenAt ((W.setCell ⟨w.heap.size, 0, none⟩ (.int .i64 v')).setCell ⟨w.heap.size, 1, none⟩ (.int .i64 a')) b s j bad ∧ w.grownBy ((W.setCell ⟨w.heap.size, 0, none⟩ (.int .i64 v')).setCell ⟨w.heap.size, 1, none⟩ (.int .i64 a')) (some b) := by
  refine ⟨?_, (h.pen.kept (gb_set _ _ _ _) (by simp; omega)).kept (gb_set _ _ _ _) (by simp; omega), gb_new (gb_new h.gb (Nat.le_refl _)) (Nat.le_refl _)⟩
  obtain ⟨c0, c1, f0, f1⟩ := h.res
  constructor <;> simp [go_sem, *]
set_option maxRecDepth 100000 in
set_option maxHeartbeats 4000000 in
theorem number_any (b : Nat) (s : ByteArray) (i : Nat) (bad : Int) (w : World) (h : PenAt w b s i bad) (hs : s.size < 9223372036854775800) :
    Calls Tryz.prog 112 #[.pointer (some ⟨b, 0, none⟩)] w fun e w' => e = .returned (.agg #[.int .i64 (numP s i bad).1, .int .i64 i]) ∧ PenAt w' b s (numP s i bad).2.1 (numP s i bad).2.2 ∧ w.grownBy w' (some b) := by
  obtain ⟨c0, c1, c2, f1, f2⟩ := id h
  have lb := h.lt
  have n0 := NumAt.start h
  have hgot := fun W hp => got_any b s i bad 45 W hp (by decide) (by omega)
  have hon := fun W hp => on_any b s (gotI s i bad 45) bad 226 W hp (by decide)
  obtain ⟨P, hP⟩ : ∃ P, signS s i bad = P := ⟨_, rfl⟩
  obtain ⟨M, hM⟩ : ∃ M, signM s i bad = M := ⟨_, rfl⟩
  have hnum : numP s i bad = tailN s M P := by rw [numP, hP, hM]
  rw [hnum]
  clear hnum
  cases hm : onP s i bad 45 with
  | true =>
    obtain rfl : M = true := by rw [← hM, signM, hm]; rfl
    obtain rfl : P = (gotI s i bad 45, bad) := by rw [← hP, signS, hm]; rfl
    rw [hm] at hgot
    have Hgot := hide hgot
    have Hon := hide hon
    clear hgot hon hM hP hm
    generalize gotI s i bad 45 = j at *
    obtain ⟨bd, hbd⟩ : ∃ bd, bd = bad := ⟨_, rfl⟩
    subst hbd
    go_enter Tryz.func112, Tryz.ntmps112
    go_wp2_with fail
    refine (Hgot.out _ n0.pen).mono ?_
    rintro e w1 ⟨rfl, h1, g1⟩
    have n1 := n0.call lb h1 g1
    clear n0 h1 g1 c0 c1 c2 f1 f2
    go_wp2_with fail
    refine (Hon.out _ n1.pen).mono ?_
    rintro e W ⟨rfl, h1, g1⟩
    have nn := n1.call lb h1 g1
    clear n1 h1 g1
    generalize onP s j bd 226 = L at *
    clear Hgot Hon h
    cases hd : digP s j bd with
    | false =>
      have ht : tailN s true (j, bd) = (0, j, failed j bd) := by simp [tailN, hd]
      have Ht := hide ht
      have hdig := dig_any b s j bd W nn.pen
      rw [hd] at hdig
      have Hdig := hide hdig
      clear ht hdig hd
      go_wp2_with fail
      refine Hdig.out.mono ?_
      rintro e w4 ⟨rfl, h4, g4⟩
      have n4 := nn.call lb h4 g4
      go_wp2_with fail
      refine (fail_any b s j bd w4 h4).mono ?_
      rintro e w5 ⟨rfl, h5, g5⟩
      have n5 := n4.call lb h5 g5
      obtain ⟨z1, z2, z3⟩ := n5.done lb 0 i
      obtain ⟨zc0, zc1, _, _⟩ := id z1
      obtain ⟨⟨pc0, pc1, pc2, pf1, pf2⟩, ⟨bc0, bc1, bf0, bf1⟩, ⟨rc0, rc1, rf0, rf1⟩, gg⟩ := id n5
      go_wp2
      exact bodyPost_ret (v := .agg #[.int .i64 0, .int .i64 i]) (by simp [results, Tryz.results112, go_sem, zc0, zc1]) rfl ⟨by rw [Ht.out], by rw [Ht.out]; exact z2, z3⟩
    | true =>
      have Hd := hide hd
      have hdig := dig_any b s j bd W nn.pen
      rw [hd] at hdig
      have Hdig := hide hdig
      clear hdig hd
      go_wp2_with fail
      refine Hdig.out.mono ?_
      rintro e w4 ⟨rfl, h4, g4⟩
      have n4 := nn.call lb h4 g4
      clear nn h4 g4 Hdig
      go_wp2
      go_loopw [6, 7] (fun d k wr => ∃ q : Nat, k = .int .i64 q ∧ q ≤ 2 ∧ d = .bool (digP s (j + q) bd) ∧ Hid (NumAt w wr b s (j + q) bd (digV s j q) i ∧ (2 ≤ q → digP s (j + 1) bd = true) ∧ 0 ≤ digV s j q ∧ digV s j q ≤ 99 ∧ (q ≤ 1 → digV s j q ≤ 9))) (fun _ k _ => 2 - (intOf k).toNat)
      case atStart => exact ⟨0, rfl, by omega, by rw [Nat.add_zero, Hd.out], n4, fun h => by omega, by simp [digV], by simp [digV], by simp [digV]⟩
      case round =>
        obtain ⟨q, rfl, hq, rfl, hr⟩ := hrel
        cases hdq : digP s (j + q) bd with
        | true =>
          by_cases hq2 : q < 2
          · obtain ⟨nq, nq2, nq3, nq4, nq5⟩ := hr.out
            have hb : bd < 0 ∧ 48 ≤ bt s (j + q) ∧ bt s (j + q) ≤ 57 := by simpa [digP, Bool.and_eq_true] using hdq
            have hv : digV s j (q + 1) = 10 * digV s j q + (bt s (j + q) - 48) := rfl
            have hbound : 0 ≤ digV s j (q + 1) ∧ digV s j (q + 1) ≤ 99 ∧ (q + 1 ≤ 1 → digV s j (q + 1) ≤ 9) := by
              have := nq5 (by omega)
              refine ⟨by omega, by omega, fun hh => ?_⟩
              obtain rfl : q = 0 := by omega
              simp [digV] at *
              omega
            have H1 := hide hbound
            have H2 : Hid (2 ≤ q + 1 → digP s (j + 1) bd = true) := fun hh => by
              obtain rfl : q = 1 := by omega
              exact hdq
            obtain ⟨t, ht⟩ : ∃ t, t = j + q := ⟨_, rfl⟩
            obtain ⟨V, hV⟩ : ∃ V, V = digV s j q := ⟨_, rfl⟩
            have Hv := hide hv
            have Hnq5 := nq5 (by omega)
            rw [← hV] at nq nq3 Hnq5 Hv
            rw [← ht] at nq Hv hb
            have hlt : t < s.size := bt_pos (by omega)
            have hbt := bt_in hlt
            rw [hbt] at Hv hb
            have Ht := hide ht
            have HV := hide hV
            clear hbt hv hbound nq2 nq4 nq5 hr ht hV hdq
            obtain ⟨hb0, hb1, hb2⟩ := hb
            obtain ⟨⟨pc0, pc1, pc2, pf1, pf2⟩, ⟨bc0, bc1, bf0, bf1⟩, ⟨rc0, rc1, rf0, rf1⟩, gg⟩ := id nq
            have hq3 : (q : Int) < 2 := by omega
            have hlt2 : (t : Int) < (s.size : Int) := by omega
            go_wp2
            go_region
            go_wp2_with fail
            have n6 := nq.step lb (10 * V + ((s[t].toNat : Int) - 48)) ((t : Int) + 1) (by simp)
            refine (dig_any b s (t + 1) bd _ n6.pen).mono ?_
            rintro e w6 ⟨rfl, h6, g6⟩
            have n7 := n6.call lb h6 g6
            have N7 : Hid (NumAt w w6 b s (j + (q + 1)) bd (digV s j (q + 1)) i ∧ (2 ≤ q + 1 → digP s (j + 1) bd = true) ∧ 0 ≤ digV s j (q + 1) ∧ digV s j (q + 1) ≤ 99 ∧ (q + 1 ≤ 1 → digV s j (q + 1) ≤ 9)) := by
              have e1 : j + (q + 1) = t + 1 := by have := Ht.out; omega
              refine ⟨?_, H2.out, H1.out⟩
              rw [e1, Hv.out]
              exact n7
            have e2 : Hid (digP s (j + (q + 1)) bd = digP s (t + 1) bd) := by
              have e1 : j + (q + 1) = t + 1 := by have := Ht.out; omega
              show _ = _
              rw [e1]
            clear n6 n7 h6 g6 nq pc0 pc1 pc2 pf1 pf2 bc0 bc1 bf0 bf1 rc0 rc1 rf0 rf1 gg n4
            generalize digP s (t + 1) bd = D at *
            go_wp2
            go_roundw
            case rel => exact ⟨q + 1, by go_num, by omega, by rw [e2.out], N7⟩
            case measure => simp [intOf]; omega
          · obtain ⟨nq, nq2, nq3, nq4, nq5⟩ := hr.out
            obtain rfl : q = 2 := by omega
            have ht : tailN s true (j, bd) = (if true then - digV s j 2 else digV s j 2, j + 2, bd) := by simp [tailN, Hd.out, nq2 (by omega)]
            obtain ⟨V, hV⟩ : ∃ V, V = digV s j 2 := ⟨_, rfl⟩
            rw [← hV] at nq nq3 nq4 ht
            have Ht := hide ht
            clear ht hV nq2 nq5 hr n4
            have nz := nq.setV lb (-V)
            obtain ⟨z1, z2, z3⟩ := nz.done lb (-V) i
            obtain ⟨zc0, zc1, _, _⟩ := id z1
            obtain ⟨⟨pc0, pc1, pc2, pf1, pf2⟩, ⟨bc0, bc1, bf0, bf1⟩, ⟨rc0, rc1, rf0, rf1⟩, gg⟩ := id nq
            go_wp2
            exact bodyPost_ret (v := .agg #[.int .i64 (-V), .int .i64 i]) (by simp [results, Tryz.results112, go_sem, zc0, zc1]) rfl ⟨by rw [Ht.out]; rfl, by rw [Ht.out]; exact z2, z3⟩
        | false =>
          obtain ⟨nq, nq2, nq3, nq4, nq5⟩ := hr.out
          have hq12 : q = 1 ∨ q = 2 := by
            have hq0 : q ≠ 0 := fun e => by
              subst e
              have := Hd.out
              rw [Nat.add_zero] at hdq
              rw [hdq] at this
              cases this
            omega
          rcases hq12 with rfl | rfl
          · have ht : tailN s true (j, bd) = (if true then - digV s j 1 else digV s j 1, j + 1, bd) := by simp [tailN, Hd.out, hdq]
            obtain ⟨V, hV⟩ : ∃ V, V = digV s j 1 := ⟨_, rfl⟩
            rw [← hV] at nq nq3 nq4 ht
            have Ht := hide ht
            clear ht hV nq2 nq5 hr n4
            have nz := nq.setV lb (-V)
            obtain ⟨z1, z2, z3⟩ := nz.done lb (-V) i
            obtain ⟨zc0, zc1, _, _⟩ := id z1
            obtain ⟨⟨pc0, pc1, pc2, pf1, pf2⟩, ⟨bc0, bc1, bf0, bf1⟩, ⟨rc0, rc1, rf0, rf1⟩, gg⟩ := id nq
            go_wp2
            exact bodyPost_ret (v := .agg #[.int .i64 (-V), .int .i64 i]) (by simp [results, Tryz.results112, go_sem, zc0, zc1]) rfl ⟨by rw [Ht.out]; rfl, by rw [Ht.out]; exact z2, z3⟩
          · have ht : tailN s true (j, bd) = (if true then - digV s j 2 else digV s j 2, j + 2, bd) := by simp [tailN, Hd.out, nq2 (by omega)]
            obtain ⟨V, hV⟩ : ∃ V, V = digV s j 2 := ⟨_, rfl⟩
            rw [← hV] at nq nq3 nq4 ht
            have Ht := hide ht
            clear ht hV nq2 nq5 hr n4
            have nz := nq.setV lb (-V)
            obtain ⟨z1, z2, z3⟩ := nz.done lb (-V) i
            obtain ⟨zc0, zc1, _, _⟩ := id z1
            obtain ⟨⟨pc0, pc1, pc2, pf1, pf2⟩, ⟨bc0, bc1, bf0, bf1⟩, ⟨rc0, rc1, rf0, rf1⟩, gg⟩ := id nq
            go_wp2
            exact bodyPost_ret (v := .agg #[.int .i64 (-V), .int .i64 i]) (by simp [results, Tryz.results112, go_sem, zc0, zc1]) rfl ⟨by rw [Ht.out]; rfl, by rw [Ht.out]; exact z2, z3⟩
  | false =>
    have hI : gotI s i bad 45 = i := by rw [gotI, hm]; rfl
    cases hl : onP s i bad 226 with
    | false =>
      obtain rfl : M = false := by rw [← hM, signM, hm, hI, hl]; rfl
      obtain rfl : P = (i, bad) := by rw [← hP, signS, hm, hI, hl]; rfl
      obtain ⟨j, hj⟩ : ∃ j : Nat, j = i := ⟨_, rfl⟩
      obtain ⟨bd, hbd⟩ : ∃ bd, bd = bad := ⟨_, rfl⟩
      subst hbd
      have hgot2 : ∀ W : World, PenAt W b s i bd → Calls Tryz.prog 61 #[.pointer (some ⟨b, 0, none⟩), .int .u8 45] W fun e w' => e = .returned (.bool false) ∧ PenAt w' b s j bd ∧ W.grownBy w' (some b) := by
        rw [hm, hI] at hgot
        rw [hj]
        exact hgot
      have hon2 : ∀ W : World, PenAt W b s j bd → Calls Tryz.prog 114 #[.pointer (some ⟨b, 0, none⟩), .int .u8 226] W fun e w' => e = .returned (.bool false) ∧ PenAt w' b s j bd ∧ W.grownBy w' (some b) := by
        rw [hI, hl] at hon
        rw [hj]
        exact hon
      have hPj : (i, bd) = (j, bd) := by rw [hj]
      rw [hPj]
      have Hgot := hide hgot2
      have Hon := hide hon2
      clear hgot hon hgot2 hon2 hM hP hm hl hI hPj hj
      go_enter Tryz.func112, Tryz.ntmps112
      go_wp2_with fail
      refine (Hgot.out _ n0.pen).mono ?_
      rintro e w1 ⟨rfl, h1, g1⟩
      have n1 := n0.call lb h1 g1
      clear n0 h1 g1 c0 c1 c2 f1 f2
      go_wp2_with fail
      refine (Hon.out _ n1.pen).mono ?_
      rintro e W ⟨rfl, h1, g1⟩
      have nn := n1.call lb h1 g1
      clear n1 h1 g1
      clear Hgot Hon h
      cases hd : digP s j bd with
      | false =>
        have ht : tailN s false (j, bd) = (0, j, failed j bd) := by simp [tailN, hd]
        have Ht := hide ht
        have hdig := dig_any b s j bd W nn.pen
        rw [hd] at hdig
        have Hdig := hide hdig
        clear ht hdig hd
        go_wp2_with fail
        refine Hdig.out.mono ?_
        rintro e w4 ⟨rfl, h4, g4⟩
        have n4 := nn.call lb h4 g4
        go_wp2_with fail
        refine (fail_any b s j bd w4 h4).mono ?_
        rintro e w5 ⟨rfl, h5, g5⟩
        have n5 := n4.call lb h5 g5
        obtain ⟨z1, z2, z3⟩ := n5.done lb 0 i
        obtain ⟨zc0, zc1, _, _⟩ := id z1
        obtain ⟨⟨pc0, pc1, pc2, pf1, pf2⟩, ⟨bc0, bc1, bf0, bf1⟩, ⟨rc0, rc1, rf0, rf1⟩, gg⟩ := id n5
        go_wp2
        exact bodyPost_ret (v := .agg #[.int .i64 0, .int .i64 i]) (by simp [results, Tryz.results112, go_sem, zc0, zc1]) rfl ⟨by rw [Ht.out], by rw [Ht.out]; exact z2, z3⟩
      | true =>
        have Hd := hide hd
        have hdig := dig_any b s j bd W nn.pen
        rw [hd] at hdig
        have Hdig := hide hdig
        clear hdig hd
        go_wp2_with fail
        refine Hdig.out.mono ?_
        rintro e w4 ⟨rfl, h4, g4⟩
        have n4 := nn.call lb h4 g4
        clear nn h4 g4 Hdig
        go_wp2
        go_loopw [6, 7] (fun d k wr => ∃ q : Nat, k = .int .i64 q ∧ q ≤ 2 ∧ d = .bool (digP s (j + q) bd) ∧ Hid (NumAt w wr b s (j + q) bd (digV s j q) i ∧ (2 ≤ q → digP s (j + 1) bd = true) ∧ 0 ≤ digV s j q ∧ digV s j q ≤ 99 ∧ (q ≤ 1 → digV s j q ≤ 9))) (fun _ k _ => 2 - (intOf k).toNat)
        case atStart => exact ⟨0, rfl, by omega, by rw [Nat.add_zero, Hd.out], n4, fun h => by omega, by simp [digV], by simp [digV], by simp [digV]⟩
        case round =>
          obtain ⟨q, rfl, hq, rfl, hr⟩ := hrel
          cases hdq : digP s (j + q) bd with
          | true =>
            by_cases hq2 : q < 2
            · obtain ⟨nq, nq2, nq3, nq4, nq5⟩ := hr.out
              have hb : bd < 0 ∧ 48 ≤ bt s (j + q) ∧ bt s (j + q) ≤ 57 := by simpa [digP, Bool.and_eq_true] using hdq
              have hv : digV s j (q + 1) = 10 * digV s j q + (bt s (j + q) - 48) := rfl
              have hbound : 0 ≤ digV s j (q + 1) ∧ digV s j (q + 1) ≤ 99 ∧ (q + 1 ≤ 1 → digV s j (q + 1) ≤ 9) := by
                have := nq5 (by omega)
                refine ⟨by omega, by omega, fun hh => ?_⟩
                obtain rfl : q = 0 := by omega
                simp [digV] at *
                omega
              have H1 := hide hbound
              have H2 : Hid (2 ≤ q + 1 → digP s (j + 1) bd = true) := fun hh => by
                obtain rfl : q = 1 := by omega
                exact hdq
              obtain ⟨t, ht⟩ : ∃ t, t = j + q := ⟨_, rfl⟩
              obtain ⟨V, hV⟩ : ∃ V, V = digV s j q := ⟨_, rfl⟩
              have Hv := hide hv
              have Hnq5 := nq5 (by omega)
              rw [← hV] at nq nq3 Hnq5 Hv
              rw [← ht] at nq Hv hb
              have hlt : t < s.size := bt_pos (by omega)
              have hbt := bt_in hlt
              rw [hbt] at Hv hb
              have Ht := hide ht
              have HV := hide hV
              clear hbt hv hbound nq2 nq4 nq5 hr ht hV hdq
              obtain ⟨hb0, hb1, hb2⟩ := hb
              obtain ⟨⟨pc0, pc1, pc2, pf1, pf2⟩, ⟨bc0, bc1, bf0, bf1⟩, ⟨rc0, rc1, rf0, rf1⟩, gg⟩ := id nq
              have hq3 : (q : Int) < 2 := by omega
              have hlt2 : (t : Int) < (s.size : Int) := by omega
              go_wp2
              go_region
              go_wp2_with fail
              have n6 := nq.step lb (10 * V + ((s[t].toNat : Int) - 48)) ((t : Int) + 1) (by simp)
              refine (dig_any b s (t + 1) bd _ n6.pen).mono ?_
              rintro e w6 ⟨rfl, h6, g6⟩
              have n7 := n6.call lb h6 g6
              have N7 : Hid (NumAt w w6 b s (j + (q + 1)) bd (digV s j (q + 1)) i ∧ (2 ≤ q + 1 → digP s (j + 1) bd = true) ∧ 0 ≤ digV s j (q + 1) ∧ digV s j (q + 1) ≤ 99 ∧ (q + 1 ≤ 1 → digV s j (q + 1) ≤ 9)) := by
                have e1 : j + (q + 1) = t + 1 := by have := Ht.out; omega
                refine ⟨?_, H2.out, H1.out⟩
                rw [e1, Hv.out]
                exact n7
              have e2 : Hid (digP s (j + (q + 1)) bd = digP s (t + 1) bd) := by
                have e1 : j + (q + 1) = t + 1 := by have := Ht.out; omega
                show _ = _
                rw [e1]
              clear n6 n7 h6 g6 nq pc0 pc1 pc2 pf1 pf2 bc0 bc1 bf0 bf1 rc0 rc1 rf0 rf1 gg n4
              generalize digP s (t + 1) bd = D at *
              go_wp2
              go_roundw
              case rel => exact ⟨q + 1, by go_num, by omega, by rw [e2.out], N7⟩
              case measure => simp [intOf]; omega
            · obtain ⟨nq, nq2, nq3, nq4, nq5⟩ := hr.out
              obtain rfl : q = 2 := by omega
              have ht : tailN s false (j, bd) = (if false then - digV s j 2 else digV s j 2, j + 2, bd) := by simp [tailN, Hd.out, nq2 (by omega)]
              obtain ⟨V, hV⟩ : ∃ V, V = digV s j 2 := ⟨_, rfl⟩
              rw [← hV] at nq nq3 nq4 ht
              have Ht := hide ht
              clear ht hV nq2 nq5 hr n4
              obtain ⟨z1, z2, z3⟩ := nq.done lb V i
              obtain ⟨zc0, zc1, _, _⟩ := id z1
              obtain ⟨⟨pc0, pc1, pc2, pf1, pf2⟩, ⟨bc0, bc1, bf0, bf1⟩, ⟨rc0, rc1, rf0, rf1⟩, gg⟩ := id nq
              go_wp2
              exact bodyPost_ret (v := .agg #[.int .i64 (V), .int .i64 i]) (by simp [results, Tryz.results112, go_sem, zc0, zc1]) rfl ⟨by rw [Ht.out]; rfl, by rw [Ht.out]; exact z2, z3⟩
          | false =>
            obtain ⟨nq, nq2, nq3, nq4, nq5⟩ := hr.out
            have hq12 : q = 1 ∨ q = 2 := by
              have hq0 : q ≠ 0 := fun e => by
                subst e
                have := Hd.out
                rw [Nat.add_zero] at hdq
                rw [hdq] at this
                cases this
              omega
            rcases hq12 with rfl | rfl
            · have ht : tailN s false (j, bd) = (if false then - digV s j 1 else digV s j 1, j + 1, bd) := by simp [tailN, Hd.out, hdq]
              obtain ⟨V, hV⟩ : ∃ V, V = digV s j 1 := ⟨_, rfl⟩
              rw [← hV] at nq nq3 nq4 ht
              have Ht := hide ht
              clear ht hV nq2 nq5 hr n4
              obtain ⟨z1, z2, z3⟩ := nq.done lb V i
              obtain ⟨zc0, zc1, _, _⟩ := id z1
              obtain ⟨⟨pc0, pc1, pc2, pf1, pf2⟩, ⟨bc0, bc1, bf0, bf1⟩, ⟨rc0, rc1, rf0, rf1⟩, gg⟩ := id nq
              go_wp2
              exact bodyPost_ret (v := .agg #[.int .i64 (V), .int .i64 i]) (by simp [results, Tryz.results112, go_sem, zc0, zc1]) rfl ⟨by rw [Ht.out]; rfl, by rw [Ht.out]; exact z2, z3⟩
            · have ht : tailN s false (j, bd) = (if false then - digV s j 2 else digV s j 2, j + 2, bd) := by simp [tailN, Hd.out, nq2 (by omega)]
              obtain ⟨V, hV⟩ : ∃ V, V = digV s j 2 := ⟨_, rfl⟩
              rw [← hV] at nq nq3 nq4 ht
              have Ht := hide ht
              clear ht hV nq2 nq5 hr n4
              obtain ⟨z1, z2, z3⟩ := nq.done lb V i
              obtain ⟨zc0, zc1, _, _⟩ := id z1
              obtain ⟨⟨pc0, pc1, pc2, pf1, pf2⟩, ⟨bc0, bc1, bf0, bf1⟩, ⟨rc0, rc1, rf0, rf1⟩, gg⟩ := id nq
              go_wp2
              exact bodyPost_ret (v := .agg #[.int .i64 (V), .int .i64 i]) (by simp [results, Tryz.results112, go_sem, zc0, zc1]) rfl ⟨by rw [Ht.out]; rfl, by rw [Ht.out]; exact z2, z3⟩
    | true =>
      obtain rfl : M = true := by rw [← hM, signM, hm, hI, hl]; rfl
      obtain rfl : P = mustS s (mustS s (mustS s (i, bad) 226) 136) 146 := by rw [← hP, signS, hm, hI, hl]; rfl
      have hm1 := fun W hp => must_any b s i bad 226 W hp (by decide) (by omega)
      have hm2 := fun W hp => must_any b s (mustS s (i, bad) 226).1 (mustS s (i, bad) 226).2 136 W hp (by decide) (by omega)
      have hm3 := fun W hp => must_any b s (mustS s (mustS s (i, bad) 226) 136).1 (mustS s (mustS s (i, bad) 226) 136).2 146 W hp (by decide) (by omega)
      rw [hm, hI] at hgot
      rw [hI, hl] at hon
      have Hgot := hide hgot
      have Hon := hide hon
      have Hm1 := hide hm1
      have Hm2 := hide hm2
      have Hm3 := hide hm3
      clear hgot hon hM hP hm hl hI hm1 hm2 hm3
      obtain ⟨j, hj⟩ : ∃ j : Nat, (mustS s (mustS s (mustS s (i, bad) 226) 136) 146).1 = j := ⟨_, rfl⟩
      obtain ⟨bd, hbd⟩ : ∃ bd : Int, (mustS s (mustS s (mustS s (i, bad) 226) 136) 146).2 = bd := ⟨_, rfl⟩
      have hPj : mustS s (mustS s (mustS s (i, bad) 226) 136) 146 = (j, bd) := by rw [← hj, ← hbd]
      rw [hPj]
      have Hj := hide hj
      have Hbd := hide hbd
      clear hPj hj hbd
      go_enter Tryz.func112, Tryz.ntmps112
      go_wp2_with fail
      refine (Hgot.out _ n0.pen).mono ?_
      rintro e w1 ⟨rfl, h1, g1⟩
      have n1 := n0.call lb h1 g1
      clear n0 h1 g1 c0 c1 c2 f1 f2
      go_wp2_with fail
      refine (Hon.out _ n1.pen).mono ?_
      rintro e w2 ⟨rfl, h1, g1⟩
      have n2 := n1.call lb h1 g1
      clear n1 h1 g1
      go_wp2_with fail
      refine (Hm1.out _ n2.pen).mono ?_
      rintro e w3 ⟨rfl, h1, g1⟩
      have n3 := n2.call lb h1 g1
      clear n2 h1 g1
      go_wp2_with fail
      refine (Hm2.out _ n3.pen).mono ?_
      rintro e w5 ⟨rfl, h1, g1⟩
      have n5 := n3.call lb h1 g1
      clear n3 h1 g1
      go_wp2_with fail
      refine (Hm3.out _ n5.pen).mono ?_
      rintro e W ⟨rfl, h1, g1⟩
      have nn' := n5.call lb h1 g1
      have nn : NumAt w W b s j bd 0 i := by
        rw [← Hj.out, ← Hbd.out]
        exact nn'
      clear n5 h1 g1 nn' Hgot Hon Hm1 Hm2 Hm3 Hj Hbd h
      cases hd : digP s j bd with
      | false =>
        have ht : tailN s true (j, bd) = (0, j, failed j bd) := by simp [tailN, hd]
        have Ht := hide ht
        have hdig := dig_any b s j bd W nn.pen
        rw [hd] at hdig
        have Hdig := hide hdig
        clear ht hdig hd
        go_wp2_with fail
        refine Hdig.out.mono ?_
        rintro e w4 ⟨rfl, h4, g4⟩
        have n4 := nn.call lb h4 g4
        go_wp2_with fail
        refine (fail_any b s j bd w4 h4).mono ?_
        rintro e w5 ⟨rfl, h5, g5⟩
        have n5 := n4.call lb h5 g5
        obtain ⟨z1, z2, z3⟩ := n5.done lb 0 i
        obtain ⟨zc0, zc1, _, _⟩ := id z1
        obtain ⟨⟨pc0, pc1, pc2, pf1, pf2⟩, ⟨bc0, bc1, bf0, bf1⟩, ⟨rc0, rc1, rf0, rf1⟩, gg⟩ := id n5
        go_wp2
        exact bodyPost_ret (v := .agg #[.int .i64 0, .int .i64 i]) (by simp [results, Tryz.results112, go_sem, zc0, zc1]) rfl ⟨by rw [Ht.out], by rw [Ht.out]; exact z2, z3⟩
      | true =>
        have Hd := hide hd
        have hdig := dig_any b s j bd W nn.pen
        rw [hd] at hdig
        have Hdig := hide hdig
        clear hdig hd
        go_wp2_with fail
        refine Hdig.out.mono ?_
        rintro e w4 ⟨rfl, h4, g4⟩
        have n4 := nn.call lb h4 g4
        clear nn h4 g4 Hdig
        go_wp2
        go_loopw [6, 7] (fun d k wr => ∃ q : Nat, k = .int .i64 q ∧ q ≤ 2 ∧ d = .bool (digP s (j + q) bd) ∧ Hid (NumAt w wr b s (j + q) bd (digV s j q) i ∧ (2 ≤ q → digP s (j + 1) bd = true) ∧ 0 ≤ digV s j q ∧ digV s j q ≤ 99 ∧ (q ≤ 1 → digV s j q ≤ 9))) (fun _ k _ => 2 - (intOf k).toNat)
        case atStart => exact ⟨0, rfl, by omega, by rw [Nat.add_zero, Hd.out], n4, fun h => by omega, by simp [digV], by simp [digV], by simp [digV]⟩
        case round =>
          obtain ⟨q, rfl, hq, rfl, hr⟩ := hrel
          cases hdq : digP s (j + q) bd with
          | true =>
            by_cases hq2 : q < 2
            · obtain ⟨nq, nq2, nq3, nq4, nq5⟩ := hr.out
              have hb : bd < 0 ∧ 48 ≤ bt s (j + q) ∧ bt s (j + q) ≤ 57 := by simpa [digP, Bool.and_eq_true] using hdq
              have hv : digV s j (q + 1) = 10 * digV s j q + (bt s (j + q) - 48) := rfl
              have hbound : 0 ≤ digV s j (q + 1) ∧ digV s j (q + 1) ≤ 99 ∧ (q + 1 ≤ 1 → digV s j (q + 1) ≤ 9) := by
                have := nq5 (by omega)
                refine ⟨by omega, by omega, fun hh => ?_⟩
                obtain rfl : q = 0 := by omega
                simp [digV] at *
                omega
              have H1 := hide hbound
              have H2 : Hid (2 ≤ q + 1 → digP s (j + 1) bd = true) := fun hh => by
                obtain rfl : q = 1 := by omega
                exact hdq
              obtain ⟨t, ht⟩ : ∃ t, t = j + q := ⟨_, rfl⟩
              obtain ⟨V, hV⟩ : ∃ V, V = digV s j q := ⟨_, rfl⟩
              have Hv := hide hv
              have Hnq5 := nq5 (by omega)
              rw [← hV] at nq nq3 Hnq5 Hv
              rw [← ht] at nq Hv hb
              have hlt : t < s.size := bt_pos (by omega)
              have hbt := bt_in hlt
              rw [hbt] at Hv hb
              have Ht := hide ht
              have HV := hide hV
              clear hbt hv hbound nq2 nq4 nq5 hr ht hV hdq
              obtain ⟨hb0, hb1, hb2⟩ := hb
              obtain ⟨⟨pc0, pc1, pc2, pf1, pf2⟩, ⟨bc0, bc1, bf0, bf1⟩, ⟨rc0, rc1, rf0, rf1⟩, gg⟩ := id nq
              have hq3 : (q : Int) < 2 := by omega
              have hlt2 : (t : Int) < (s.size : Int) := by omega
              go_wp2
              go_region
              go_wp2_with fail
              have n6 := nq.step lb (10 * V + ((s[t].toNat : Int) - 48)) ((t : Int) + 1) (by simp)
              refine (dig_any b s (t + 1) bd _ n6.pen).mono ?_
              rintro e w6 ⟨rfl, h6, g6⟩
              have n7 := n6.call lb h6 g6
              have N7 : Hid (NumAt w w6 b s (j + (q + 1)) bd (digV s j (q + 1)) i ∧ (2 ≤ q + 1 → digP s (j + 1) bd = true) ∧ 0 ≤ digV s j (q + 1) ∧ digV s j (q + 1) ≤ 99 ∧ (q + 1 ≤ 1 → digV s j (q + 1) ≤ 9)) := by
                have e1 : j + (q + 1) = t + 1 := by have := Ht.out; omega
                refine ⟨?_, H2.out, H1.out⟩
                rw [e1, Hv.out]
                exact n7
              have e2 : Hid (digP s (j + (q + 1)) bd = digP s (t + 1) bd) := by
                have e1 : j + (q + 1) = t + 1 := by have := Ht.out; omega
                show _ = _
                rw [e1]
              clear n6 n7 h6 g6 nq pc0 pc1 pc2 pf1 pf2 bc0 bc1 bf0 bf1 rc0 rc1 rf0 rf1 gg n4
              generalize digP s (t + 1) bd = D at *
              go_wp2
              go_roundw
              case rel => exact ⟨q + 1, by go_num, by omega, by rw [e2.out], N7⟩
              case measure => simp [intOf]; omega
            · obtain ⟨nq, nq2, nq3, nq4, nq5⟩ := hr.out
              obtain rfl : q = 2 := by omega
              have ht : tailN s true (j, bd) = (if true then - digV s j 2 else digV s j 2, j + 2, bd) := by simp [tailN, Hd.out, nq2 (by omega)]
              obtain ⟨V, hV⟩ : ∃ V, V = digV s j 2 := ⟨_, rfl⟩
              rw [← hV] at nq nq3 nq4 ht
              have Ht := hide ht
              clear ht hV nq2 nq5 hr n4
              have nz := nq.setV lb (-V)
              obtain ⟨z1, z2, z3⟩ := nz.done lb (-V) i
              obtain ⟨zc0, zc1, _, _⟩ := id z1
              obtain ⟨⟨pc0, pc1, pc2, pf1, pf2⟩, ⟨bc0, bc1, bf0, bf1⟩, ⟨rc0, rc1, rf0, rf1⟩, gg⟩ := id nq
              go_wp2
              exact bodyPost_ret (v := .agg #[.int .i64 (-V), .int .i64 i]) (by simp [results, Tryz.results112, go_sem, zc0, zc1]) rfl ⟨by rw [Ht.out]; rfl, by rw [Ht.out]; exact z2, z3⟩
          | false =>
            obtain ⟨nq, nq2, nq3, nq4, nq5⟩ := hr.out
            have hq12 : q = 1 ∨ q = 2 := by
              have hq0 : q ≠ 0 := fun e => by
                subst e
                have := Hd.out
                rw [Nat.add_zero] at hdq
                rw [hdq] at this
                cases this
              omega
            rcases hq12 with rfl | rfl
            · have ht : tailN s true (j, bd) = (if true then - digV s j 1 else digV s j 1, j + 1, bd) := by simp [tailN, Hd.out, hdq]
              obtain ⟨V, hV⟩ : ∃ V, V = digV s j 1 := ⟨_, rfl⟩
              rw [← hV] at nq nq3 nq4 ht
              have Ht := hide ht
              clear ht hV nq2 nq5 hr n4
              have nz := nq.setV lb (-V)
              obtain ⟨z1, z2, z3⟩ := nz.done lb (-V) i
              obtain ⟨zc0, zc1, _, _⟩ := id z1
              obtain ⟨⟨pc0, pc1, pc2, pf1, pf2⟩, ⟨bc0, bc1, bf0, bf1⟩, ⟨rc0, rc1, rf0, rf1⟩, gg⟩ := id nq
              go_wp2
              exact bodyPost_ret (v := .agg #[.int .i64 (-V), .int .i64 i]) (by simp [results, Tryz.results112, go_sem, zc0, zc1]) rfl ⟨by rw [Ht.out]; rfl, by rw [Ht.out]; exact z2, z3⟩
            · have ht : tailN s true (j, bd) = (if true then - digV s j 2 else digV s j 2, j + 2, bd) := by simp [tailN, Hd.out, nq2 (by omega)]
              obtain ⟨V, hV⟩ : ∃ V, V = digV s j 2 := ⟨_, rfl⟩
              rw [← hV] at nq nq3 nq4 ht
              have Ht := hide ht
              clear ht hV nq2 nq5 hr n4
              have nz := nq.setV lb (-V)
              obtain ⟨z1, z2, z3⟩ := nz.done lb (-V) i
              obtain ⟨zc0, zc1, _, _⟩ := id z1
              obtain ⟨⟨pc0, pc1, pc2, pf1, pf2⟩, ⟨bc0, bc1, bf0, bf1⟩, ⟨rc0, rc1, rf0, rf1⟩, gg⟩ := id nq
              go_wp2
              exact bodyPost_ret (v := .agg #[.int .i64 (-V), .int .i64 i]) (by simp [results, Tryz.results112, go_sem, zc0, zc1]) rfl ⟨by rw [Ht.out]; rfl, by rw [Ht.out]; exact z2, z3⟩
end Go.Proofs.YtkjlkbgdkdcboaaGreatDoor
