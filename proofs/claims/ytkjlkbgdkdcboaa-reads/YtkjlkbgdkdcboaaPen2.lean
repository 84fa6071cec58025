import Derived.Test.YtkjlkbgdkdcboaaPen
namespace Go.Proofs.Ytkjlkbgdkdcboaa
open Go.RowKit
attribute [local go_sem ↓] Go.wp_at_zero Go.wp_at_succ

theorem hide {p : Prop} (h : p) : Hid p := h

theorem onP_in {s : ByteArray} {i : Nat} {bad c : Int} (h : onP s i bad c = true) (hc : 0 ≤ c) : i < s.size := by
  simp [onP] at h
  exact bt_pos (by omega)

def gotI (s : ByteArray) (i : Nat) (bad c : Int) : Nat := if onP s i bad c then i + 1 else i
def mustB (s : ByteArray) (i : Nat) (bad c : Int) : Int := if onP s i bad c then bad else failed i bad

set_option maxHeartbeats 400000 in
theorem got_any (b : Nat) (s : ByteArray) (i : Nat) (bad c : Int) (w : World) (h : PenAt w b s i bad) (hc : 0 ≤ c) (hs : s.size < 9223372036854775807) :
    Calls Try.prog 50 #[.pointer (some ⟨b, 0, none⟩), .int .u8 c] w fun e w' => e = .returned (.bool (onP s i bad c)) ∧ PenAt w' b s (gotI s i bad c) bad ∧ w.grownBy w' (some b) := by
  have hon := on_any b s i bad c w h hc
  cases ho : onP s i bad c with
  | true =>
    rw [ho] at hon
    have hin := onP_in ho hc
    have hI : gotI s i bad c = i + 1 := by rw [gotI, ho]; rfl
    rw [hI]
    clear ho hI
    have Hon := hide hon
    clear hon
    go_enter Try.func50, Try.ntmps50
    go_wp2_with fail
    refine Hon.out.mono ?_
    rintro e w1 ⟨rfl, h1, g1⟩
    have h2 := h1.setI ((i : Int) + 1)
    obtain ⟨c0, c1, c2, f1, f2⟩ := id h1
    have hi3 : (i : Int) + 1 ≤ 9223372036854775807 := by omega
    go_wp2
    go_ret
    exact ⟨rfl, by simpa using h2, gb_trans g1 (gb_set _ _ _ _)⟩
  | false =>
    rw [ho] at hon
    have hI : gotI s i bad c = i := by rw [gotI, ho]; rfl
    rw [hI]
    clear ho hI
    have Hon := hide hon
    clear hon
    go_enter Try.func50, Try.ntmps50
    go_wp2_with fail
    refine Hon.out.mono ?_
    rintro e w1 ⟨rfl, h1, g1⟩
    go_wp2
    go_ret
    exact ⟨rfl, h1, g1⟩

set_option maxHeartbeats 400000 in
theorem must_any (b : Nat) (s : ByteArray) (i : Nat) (bad c : Int) (w : World) (h : PenAt w b s i bad) (hc : 0 ≤ c) (hs : s.size < 9223372036854775807) :
    Calls Try.prog 70 #[.pointer (some ⟨b, 0, none⟩), .int .u8 c] w fun e w' => e = .returned (.tuple #[]) ∧ PenAt w' b s (gotI s i bad c) (mustB s i bad c) ∧ w.grownBy w' (some b) := by
  have hon := got_any b s i bad c w h hc hs
  cases ho : onP s i bad c with
  | true =>
    rw [ho] at hon
    have hB : mustB s i bad c = bad := by rw [mustB, ho]; rfl
    rw [hB]
    clear ho hB
    have Hon := hide hon
    clear hon
    go_enter Try.func70, Try.ntmps70
    go_wp2_with fail
    refine Hon.out.mono ?_
    rintro e w1 ⟨rfl, h1, g1⟩
    go_wp2
    go_end0
    exact ⟨rfl, h1, g1⟩
  | false =>
    have hI : gotI s i bad c = i := by rw [gotI, ho]; rfl
    have hB : mustB s i bad c = failed i bad := by rw [mustB, ho]; rfl
    rw [ho, hI] at hon
    rw [hI, hB]
    clear ho hI hB
    have Hon := hide hon
    clear hon
    go_enter Try.func70, Try.ntmps70
    go_wp2_with fail
    refine Hon.out.mono ?_
    rintro e w1 ⟨rfl, h1, g1⟩
    go_wp2_with fail
    refine (fail_any b s i bad w1 h1).mono ?_
    rintro e w2 ⟨rfl, h2, g2⟩
    go_wp2
    go_end0
    exact ⟨rfl, h2, gb_trans g1 g2⟩

end Go.Proofs.Ytkjlkbgdkdcboaa
