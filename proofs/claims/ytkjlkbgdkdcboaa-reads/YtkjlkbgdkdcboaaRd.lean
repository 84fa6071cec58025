import Derived.Test.YtkjlkbgdkdcboaaPen2
namespace Go.Proofs.Ytkjlkbgdkdcboaa
open Go.RowKit
attribute [local go_sem ↓] Go.wp_at_zero Go.wp_at_succ

/-- how far the program has read: the step, the minus, which half of the point, its two marks (place, value) -/
structure RS where
  step : Int
  minus : Bool
  half : Bool
  a0 : Int
  v0 : Int
  a1 : Int
  v1 : Int
def hI : Bool → Int | false => 0 | true => 1

/-- the reader in memory -/
structure RdAt (w : World) (b : Nat) (r : RS) (ring rings : Value) : Prop where
  c0 : w.cell? ⟨b, 0, none⟩ = some (.int .i64 r.step)
  c1 : w.cell? ⟨b, 1, none⟩ = some (.bool r.minus)
  c2 : w.cell? ⟨b, 2, none⟩ = some (.int .i64 (hI r.half))
  c3 : w.cell? ⟨b, 3, none⟩ = some (.int .i64 r.a0)
  c4 : w.cell? ⟨b, 4, none⟩ = some (.int .i64 r.v0)
  c5 : w.cell? ⟨b, 5, none⟩ = some (.int .i64 r.a1)
  c6 : w.cell? ⟨b, 6, none⟩ = some (.int .i64 r.v1)
  c7 : w.cell? ⟨b, 7, none⟩ = some ring
  c8 : w.cell? ⟨b, 8, none⟩ = some rings
  f0 : w.frozen? ⟨b, 0, none⟩ = false
  f1 : w.frozen? ⟨b, 1, none⟩ = false
  f2 : w.frozen? ⟨b, 2, none⟩ = false
  f3 : w.frozen? ⟨b, 3, none⟩ = false
  f4 : w.frozen? ⟨b, 4, none⟩ = false
  f5 : w.frozen? ⟨b, 5, none⟩ = false
  f6 : w.frozen? ⟨b, 6, none⟩ = false
  f7 : w.frozen? ⟨b, 7, none⟩ = false
  f8 : w.frozen? ⟨b, 8, none⟩ = false

theorem RdAt.lt {w : World} {b : Nat} {r : RS} {x y : Value} (h : RdAt w b r x y) : b < w.heap.size := World.block_lt_of_cell? _ _ h.c0
theorem RdAt.kept {w w' : World} {b : Nat} {r : RS} {x y : Value} {k : Option Nat} (h : RdAt w b r x y) (hg : w.grownBy w' k) (hr : k ≠ some b) : RdAt w' b r x y := by
  have hb : w'.heap[b]? = w.heap[b]? := hg.block b h.lt (fun e => hr e.symm)
  have hc : ∀ o v, w.cell? ⟨b, o, none⟩ = some v → w'.cell? ⟨b, o, none⟩ = some v := fun o v c => hg.cell c (fun e => hr e.symm)
  have hf : ∀ o, w.frozen? ⟨b, o, none⟩ = false → w'.frozen? ⟨b, o, none⟩ = false := fun o f => (World.frozen?_of_block (w := w) hb).trans f
  exact ⟨hc _ _ h.c0, hc _ _ h.c1, hc _ _ h.c2, hc _ _ h.c3, hc _ _ h.c4, hc _ _ h.c5, hc _ _ h.c6, hc _ _ h.c7, hc _ _ h.c8, hf _ h.f0, hf _ h.f1, hf _ h.f2, hf _ h.f3, hf _ h.f4, hf _ h.f5, hf _ h.f6, hf _ h.f7, hf _ h.f8⟩

theorem RdAt.drew {w : World} {b : Nat} {r : RS} {x y : Value} (h : RdAt w b r x y) : RdAt w.drew b r x y :=
  h.kept (k := none) ⟨rfl, rfl, rfl, Nat.le_refl _, fun _ _ _ => rfl⟩ (by simp)
theorem RdAt.s0 {w : World} {b : Nat} {r : RS} {x y : Value} (h : RdAt w b r x y) (n : Int) : RdAt (w.setCell ⟨b, 0, none⟩ (.int .i64 n)) b { r with step := n } x y := by
  obtain ⟨c0, c1, c2, c3, c4, c5, c6, c7, c8, f0, f1, f2, f3, f4, f5, f6, f7, f8⟩ := id h
  clear h
  constructor <;> simp [go_sem, *]
theorem RdAt.s1 {w : World} {b : Nat} {r : RS} {x y : Value} (h : RdAt w b r x y) (n : Bool) : RdAt (w.setCell ⟨b, 1, none⟩ (.bool n)) b { r with minus := n } x y := by
  obtain ⟨c0, c1, c2, c3, c4, c5, c6, c7, c8, f0, f1, f2, f3, f4, f5, f6, f7, f8⟩ := id h
  clear h
  constructor <;> simp [go_sem, *]
theorem RdAt.s2 {w : World} {b : Nat} {r : RS} {x y : Value} (h : RdAt w b r x y) (n : Bool) : RdAt (w.setCell ⟨b, 2, none⟩ (.int .i64 (hI n))) b { r with half := n } x y := by
  obtain ⟨c0, c1, c2, c3, c4, c5, c6, c7, c8, f0, f1, f2, f3, f4, f5, f6, f7, f8⟩ := id h
  clear h
  constructor <;> simp [go_sem, *]
theorem RdAt.s3 {w : World} {b : Nat} {r : RS} {x y : Value} (h : RdAt w b r x y) (n : Int) : RdAt (w.setCell ⟨b, 3, none⟩ (.int .i64 n)) b { r with a0 := n } x y := by
  obtain ⟨c0, c1, c2, c3, c4, c5, c6, c7, c8, f0, f1, f2, f3, f4, f5, f6, f7, f8⟩ := id h
  clear h
  constructor <;> simp [go_sem, *]
theorem RdAt.s4 {w : World} {b : Nat} {r : RS} {x y : Value} (h : RdAt w b r x y) (n : Int) : RdAt (w.setCell ⟨b, 4, none⟩ (.int .i64 n)) b { r with v0 := n } x y := by
  obtain ⟨c0, c1, c2, c3, c4, c5, c6, c7, c8, f0, f1, f2, f3, f4, f5, f6, f7, f8⟩ := id h
  clear h
  constructor <;> simp [go_sem, *]
theorem RdAt.s5 {w : World} {b : Nat} {r : RS} {x y : Value} (h : RdAt w b r x y) (n : Int) : RdAt (w.setCell ⟨b, 5, none⟩ (.int .i64 n)) b { r with a1 := n } x y := by
  obtain ⟨c0, c1, c2, c3, c4, c5, c6, c7, c8, f0, f1, f2, f3, f4, f5, f6, f7, f8⟩ := id h
  clear h
  constructor <;> simp [go_sem, *]
theorem RdAt.s6 {w : World} {b : Nat} {r : RS} {x y : Value} (h : RdAt w b r x y) (n : Int) : RdAt (w.setCell ⟨b, 6, none⟩ (.int .i64 n)) b { r with v1 := n } x y := by
  obtain ⟨c0, c1, c2, c3, c4, c5, c6, c7, c8, f0, f1, f2, f3, f4, f5, f6, f7, f8⟩ := id h
  clear h
  constructor <;> simp [go_sem, *]
theorem RdAt.s7 {w : World} {b : Nat} {r : RS} {x y : Value} (h : RdAt w b r x y) (n : Value) : RdAt (w.setCell ⟨b, 7, none⟩ n) b r n y := by
  obtain ⟨c0, c1, c2, c3, c4, c5, c6, c7, c8, f0, f1, f2, f3, f4, f5, f6, f7, f8⟩ := id h
  clear h
  constructor <;> simp [go_sem, *]
theorem RdAt.s8 {w : World} {b : Nat} {r : RS} {x y : Value} (h : RdAt w b r x y) (n : Value) : RdAt (w.setCell ⟨b, 8, none⟩ n) b r x n := by
  obtain ⟨c0, c1, c2, c3, c4, c5, c6, c7, c8, f0, f1, f2, f3, f4, f5, f6, f7, f8⟩ := id h
  clear h
  constructor <;> simp [go_sem, *]
theorem gb_drew1 {w W : World} {r : Option Nat} (h : w.grownBy W r) : w.grownBy W.drew r := gb_trans h ⟨rfl, rfl, rfl, Nat.le_refl _, fun _ _ _ => rfl⟩

def mayE (r : RS) (h : Bool) : Bool := (hI r.half == hI h) && ((r.step == 2) || (r.step == 3))

set_option maxHeartbeats 400000 in
theorem mayEnd_any (b : Nat) (r : RS) (x y : Value) (h : Bool) (w : World) (hr : RdAt w b r x y) :
    Calls Try.prog 44 #[.pointer (some ⟨b, 0, none⟩), .int .i64 (hI h)] w fun e w' => e = .returned (.bool (mayE r h)) ∧ w' = w := by
  obtain ⟨c0, c1, c2, c3, c4, c5, c6, c7, c8, f0, f1, f2, f3, f4, f5, f6, f7, f8⟩ := id hr
  have hm : mayE r h = if (hI r.half == hI h) = true then (if (r.step == 2) = true then true else (r.step == 3)) else false := by
    unfold mayE
    cases (hI r.half == hI h) <;> cases (r.step == 2) <;> rfl
  rw [hm]
  clear hm
  obtain ⟨st, mi, ha, a0, v0, a1, v1⟩ := r
  dsimp only at *
  go_enter Try.func44, Try.ntmps44
  go_wp2
  all_goals (go_ret; refine ⟨ret_bool ?_, rfl⟩; simp [*])

def RS.begin (r : RS) (a : Int) (m : Bool) : RS :=
  match r.half with
  | false => { r with a0 := a, v0 := 0, minus := m, step := 1 }
  | true => { r with a1 := a, v1 := 0, minus := m, step := 1 }

theorem gb_set2 {w W : World} {b o : Nat} {v : Value} (h : w.grownBy W (some b)) : w.grownBy (W.setCell ⟨b, o, none⟩ v) (some b) := gb_trans h (gb_set _ _ _ _)

set_option maxHeartbeats 1000000 in
theorem begin_any (b : Nat) (r : RS) (x y : Value) (a : Int) (m : Bool) (w : World) (hr : RdAt w b r x y) :
    Calls Try.prog 65 #[.pointer (some ⟨b, 0, none⟩), .int .i64 a, .bool m] w fun e w' => e = .returned (.tuple #[]) ∧ RdAt w' b (r.begin a m) x y ∧ w.grownBy w' (some b) := by
  obtain ⟨st, mi, ha, a0, v0, a1, v1⟩ := r
  obtain ⟨c0, c1, c2, c3, c4, c5, c6, c7, c8, f0, f1, f2, f3, f4, f5, f6, f7, f8⟩ := id hr
  dsimp only at *
  cases ha with
  | false =>
    dsimp only [hI] at c2
    go_enter Try.func65, Try.ntmps65
    go_wp2
    go_region
    go_wp2
    go_end0
    exact ⟨rfl, ((((hr.s3 a).s4 0).s1 m).s0 1).drew, gb_drew1 (gb_set2 (gb_set2 (gb_set2 (gb_set _ _ _ _))))⟩
  | true =>
    dsimp only [hI] at c2
    go_enter Try.func65, Try.ntmps65
    go_wp2
    go_region
    go_wp2
    go_end0
    exact ⟨rfl, ((((hr.s5 a).s6 0).s1 m).s0 1).drew, gb_drew1 (gb_set2 (gb_set2 (gb_set2 (gb_set _ _ _ _))))⟩

/-- one digit more -/
def RS.more (r : RS) (d : Int) : RS :=
  match r.half with
  | false => { r with v0 := 10 * r.v0 + d, step := r.step + 1 }
  | true => { r with v1 := 10 * r.v1 + d, step := r.step + 1 }
def RS.digit (r : RS) (a d : Int) : RS := if r.step = 0 then (r.begin a false).more d else r.more d
/-- numbers of at most two digits -/
def Few (r : RS) : Prop := (-100 ≤ r.v0 ∧ r.v0 ≤ 100) ∧ (-100 ≤ r.v1 ∧ r.v1 ≤ 100) ∧ 0 ≤ r.step ∧ r.step ≤ 3

set_option maxHeartbeats 2000000 in
theorem digit_any (b : Nat) (r : RS) (x y : Value) (a d : Int) (w : World) (hr : RdAt w b r x y) (hd : 0 ≤ d ∧ d ≤ 9) (hf : Few r) :
    Calls Try.prog 66 #[.pointer (some ⟨b, 0, none⟩), .int .i64 a, .int .i64 d] w fun e w' => e = .returned (.tuple #[]) ∧ RdAt w' b (r.digit a d) x y ∧ w.grownBy w' (some b) := by
  have kb := hide (begin_any b r x y a false w hr)
  obtain ⟨st, mi, ha, a0, v0, a1, v1⟩ := r
  obtain ⟨hf1, hf2, hf3, hf4⟩ := hf
  dsimp only at *
  by_cases h0 : st = 0
  · subst h0
    obtain ⟨c0, c1, c2, c3, c4, c5, c6, c7, c8, f0, f1, f2, f3, f4, f5, f6, f7, f8⟩ := id hr
    dsimp only at *
    cases ha with
    | false =>
      go_enter Try.func66, Try.ntmps66
      go_wp2_with fail
      refine kb.out.mono ?_
      rintro e w1 ⟨rfl, h1, g1⟩
      clear c0 c1 c2 c3 c4 c5 c6 c7 c8 f0 f1 f2 f3 f4 f5 f6 f7 f8
      obtain ⟨c0, c1, c2, c3, c4, c5, c6, c7, c8, f0, f1, f2, f3, f4, f5, f6, f7, f8⟩ := id h1
      dsimp only [RS.begin, hI] at *
      go_wp2
      go_region
      go_wp2
      go_end0
      refine ⟨rfl, ?_, ?_⟩
      · have := ((h1.s4 (10 * 0 + d)).s0 (1 + 1)).drew
        simpa [RS.digit, RS.more, RS.begin] using this
      · exact gb_drew1 (gb_set2 (gb_set2 g1))
    | true =>
      go_enter Try.func66, Try.ntmps66
      go_wp2_with fail
      refine kb.out.mono ?_
      rintro e w1 ⟨rfl, h1, g1⟩
      clear c0 c1 c2 c3 c4 c5 c6 c7 c8 f0 f1 f2 f3 f4 f5 f6 f7 f8
      obtain ⟨c0, c1, c2, c3, c4, c5, c6, c7, c8, f0, f1, f2, f3, f4, f5, f6, f7, f8⟩ := id h1
      dsimp only [RS.begin, hI] at *
      go_wp2
      go_region
      go_wp2
      go_end0
      refine ⟨rfl, ?_, ?_⟩
      · have := ((h1.s6 (10 * 0 + d)).s0 (1 + 1)).drew
        simpa [RS.digit, RS.more, RS.begin] using this
      · exact gb_drew1 (gb_set2 (gb_set2 g1))
  · obtain ⟨c0, c1, c2, c3, c4, c5, c6, c7, c8, f0, f1, f2, f3, f4, f5, f6, f7, f8⟩ := id hr
    have h0b : (st == 0) = false := by simpa using h0
    dsimp only at *
    clear kb
    cases ha with
    | false =>
      dsimp only [hI] at c2
      go_enter Try.func66, Try.ntmps66
      go_wp2
      go_region
      go_wp2
      go_end0
      refine ⟨rfl, ?_, ?_⟩
      · have := ((hr.s4 (10 * v0 + d)).s0 (st + 1)).drew
        simpa [RS.digit, RS.more, RS.begin, h0] using this
      · exact gb_drew1 (gb_set2 (gb_set _ _ _ _))
    | true =>
      dsimp only [hI] at c2
      go_enter Try.func66, Try.ntmps66
      go_wp2
      go_region
      go_wp2
      go_end0
      refine ⟨rfl, ?_, ?_⟩
      · have := ((hr.s6 (10 * v1 + d)).s0 (st + 1)).drew
        simpa [RS.digit, RS.more, RS.begin, h0] using this
      · exact gb_drew1 (gb_set2 (gb_set _ _ _ _))

/-- behind a number -/
def RS.endN (r : RS) : RS :=
  match r.half with
  | false => { r with v0 := if r.minus then r.v0 * -1 else r.v0, step := 0 }
  | true => { r with v1 := if r.minus then r.v1 * -1 else r.v1, step := 0 }

set_option maxHeartbeats 2000000 in
theorem endNumber_any (b : Nat) (r : RS) (x y : Value) (w : World) (hr : RdAt w b r x y) (hf : Few r) :
    Calls Try.prog 67 #[.pointer (some ⟨b, 0, none⟩)] w fun e w' => e = .returned (.tuple #[]) ∧ RdAt w' b r.endN x y ∧ w.grownBy w' (some b) := by
  obtain ⟨st, mi, ha, a0, v0, a1, v1⟩ := r
  obtain ⟨hf1, hf2, hf3, hf4⟩ := hf
  obtain ⟨c0, c1, c2, c3, c4, c5, c6, c7, c8, f0, f1, f2, f3, f4, f5, f6, f7, f8⟩ := id hr
  dsimp only at *
  cases mi with
  | false =>
    go_enter Try.func67, Try.ntmps67
    go_wp2
    go_end0
    refine ⟨rfl, ?_, gb_set _ _ _ _⟩
    have := hr.s0 0
    cases ha <;> simpa [RS.endN] using this
  | true =>
    cases ha with
    | false =>
      dsimp only [hI] at c2
      go_enter Try.func67, Try.ntmps67
      go_wp2
      go_region
      go_wp2
      go_end0
      refine ⟨rfl, ?_, ?_⟩
      · have := ((hr.s4 (v0 * -1)).s0 0).drew
        simpa [RS.endN] using this
      · exact gb_drew1 (gb_set2 (gb_set _ _ _ _))
    | true =>
      dsimp only [hI] at c2
      go_enter Try.func67, Try.ntmps67
      go_wp2
      go_region
      go_wp2
      go_end0
      refine ⟨rfl, ?_, ?_⟩
      · have := ((hr.s6 (v1 * -1)).s0 0).drew
        simpa [RS.endN] using this
      · exact gb_drew1 (gb_set2 (gb_set _ _ _ _))

end Go.Proofs.Ytkjlkbgdkdcboaa
