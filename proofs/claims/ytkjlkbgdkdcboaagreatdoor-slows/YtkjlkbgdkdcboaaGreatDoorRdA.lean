import Derived.Test.YtkjlkbgdkdcboaaGreatDoorPeA
import Derived.Test.YtkjlkbgdkdcboaaGreatDoorPen3
import Derived.Deep.AppendLies
import Derived.Deep.RegionHeld3
import Derived.Deep.RegionLaw
import Derived.OwnWalk

set_option linter.unusedSimpArgs false
set_option linter.unusedVariables false

set_option linter.unusedSimpArgs false
set_option linter.unusedVariables false

namespace Go.Proofs.YtkjlkbgdkdcboaaGreatDoor
open Go.RowKit
attribute [local go_sem ↓] Go.wp_at_zero Go.wp_at_succ

/-- how far the program has read: the step, the minus, which half of the point, its two marks (place, value) -/
structure RS where
  step : Int
  minus : Bool
  half : Bool
  a0 : Int
  v0 : Int
  a1 : Int
  v1 : Int
def hI : Bool → Int | false => 0 | true => 1

/-- the reader in memory -/
structure RdAt (w : World) (b : Nat) (r : RS) (ring rings : Value) : Prop where
  c0 : w.cell? ⟨b, 0, none⟩ = some (.int .i64 r.step)
  c1 : w.cell? ⟨b, 1, none⟩ = some (.bool r.minus)
  c2 : w.cell? ⟨b, 2, none⟩ = some (.int .i64 (hI r.half))
  c3 : w.cell? ⟨b, 3, none⟩ = some (.int .i64 r.a0)
  c4 : w.cell? ⟨b, 4, none⟩ = some (.int .i64 r.v0)
  c5 : w.cell? ⟨b, 5, none⟩ = some (.int .i64 r.a1)
  c6 : w.cell? ⟨b, 6, none⟩ = some (.int .i64 r.v1)
  c7 : w.cell? ⟨b, 7, none⟩ = some ring
  c8 : w.cell? ⟨b, 8, none⟩ = some rings
  f0 : w.frozen? ⟨b, 0, none⟩ = false
  f1 : w.frozen? ⟨b, 1, none⟩ = false
  f2 : w.frozen? ⟨b, 2, none⟩ = false
  f3 : w.frozen? ⟨b, 3, none⟩ = false
  f4 : w.frozen? ⟨b, 4, none⟩ = false
  f5 : w.frozen? ⟨b, 5, none⟩ = false
  f6 : w.frozen? ⟨b, 6, none⟩ = false
  f7 : w.frozen? ⟨b, 7, none⟩ = false
  f8 : w.frozen? ⟨b, 8, none⟩ = false

theorem RdAt.lt {w : World} {b : Nat} {r : RS} {x y : Value} (h : RdAt w b r x y) : b < w.heap.size := World.block_lt_of_cell? _ _ h.c0
theorem RdAt.kept {w w' : World} {b : Nat} {r : RS} {x y : Value} {k : Option Nat} (h : RdAt w b r x y) (hg : w.grownBy w' k) (hr : k ≠ some b) : RdAt w' b r x y := by
  have hb : w'.heap[b]? = w.heap[b]? := hg.block b h.lt (fun e => hr e.symm)
  have hc : ∀ o v, w.cell? ⟨b, o, none⟩ = some v → w'.cell? ⟨b, o, none⟩ = some v := fun o v c => hg.cell c (fun e => hr e.symm)
  have hf : ∀ o, w.frozen? ⟨b, o, none⟩ = false → w'.frozen? ⟨b, o, none⟩ = false := fun o f => (World.frozen?_of_block (w := w) hb).trans f
  exact ⟨hc _ _ h.c0, hc _ _ h.c1, hc _ _ h.c2, hc _ _ h.c3, hc _ _ h.c4, hc _ _ h.c5, hc _ _ h.c6, hc _ _ h.c7, hc _ _ h.c8, hf _ h.f0, hf _ h.f1, hf _ h.f2, hf _ h.f3, hf _ h.f4, hf _ h.f5, hf _ h.f6, hf _ h.f7, hf _ h.f8⟩

theorem RdAt.drew {w : World} {b : Nat} {r : RS} {x y : Value} (h : RdAt w b r x y) : RdAt w.drew b r x y :=
  h.kept (k := none) ⟨rfl, rfl, rfl, Nat.le_refl _, fun _ _ _ => rfl⟩ (by simp)
theorem RdAt.s0 {w : World} {b : Nat} {r : RS} {x y : Value} (h : RdAt w b r x y) (n : Int) : RdAt (w.setCell ⟨b, 0, none⟩ (.int .i64 n)) b { r with step := n } x y := by
  obtain ⟨c0, c1, c2, c3, c4, c5, c6, c7, c8, f0, f1, f2, f3, f4, f5, f6, f7, f8⟩ := id h
  clear h
  constructor <;> simp [go_sem, *]
theorem RdAt.s1 {w : World} {b : Nat} {r : RS} {x y : Value} (h : RdAt w b r x y) (n : Bool) : RdAt (w.setCell ⟨b, 1, none⟩ (.bool n)) b { r with minus := n } x y := by
  obtain ⟨c0, c1, c2, c3, c4, c5, c6, c7, c8, f0, f1, f2, f3, f4, f5, f6, f7, f8⟩ := id h
  clear h
  constructor <;> simp [go_sem, *]
theorem RdAt.s2 {w : World} {b : Nat} {r : RS} {x y : Value} (h : RdAt w b r x y) (n : Bool) : RdAt (w.setCell ⟨b, 2, none⟩ (.int .i64 (hI n))) b { r with half := n } x y := by
  obtain ⟨c0, c1, c2, c3, c4, c5, c6, c7, c8, f0, f1, f2, f3, f4, f5, f6, f7, f8⟩ := id h
  clear h
  constructor <;> simp [go_sem, *]
theorem RdAt.s3 {w : World} {b : Nat} {r : RS} {x y : Value} (h : RdAt w b r x y) (n : Int) : RdAt (w.setCell ⟨b, 3, none⟩ (.int .i64 n)) b { r with a0 := n } x y := by
  obtain ⟨c0, c1, c2, c3, c4, c5, c6, c7, c8, f0, f1, f2, f3, f4, f5, f6, f7, f8⟩ := id h
  clear h
  constructor <;> simp [go_sem, *]
theorem RdAt.s4 {w : World} {b : Nat} {r : RS} {x y : Value} (h : RdAt w b r x y) (n : Int) : RdAt (w.setCell ⟨b, 4, none⟩ (.int .i64 n)) b { r with v0 := n } x y := by
  obtain ⟨c0, c1, c2, c3, c4, c5, c6, c7, c8, f0, f1, f2, f3, f4, f5, f6, f7, f8⟩ := id h
  clear h
  constructor <;> simp [go_sem, *]
theorem RdAt.s5 {w : World} {b : Nat} {r : RS} {x y : Value} (h : RdAt w b r x y) (n : Int) : RdAt (w.setCell ⟨b, 5, none⟩ (.int .i64 n)) b { r with a1 := n } x y := by
  obtain ⟨c0, c1, c2, c3, c4, c5, c6, c7, c8, f0, f1, f2, f3, f4, f5, f6, f7, f8⟩ := id h
  clear h
  constructor <;> simp [go_sem, *]
theorem RdAt.s6 {w : World} {b : Nat} {r : RS} {x y : Value} (h : RdAt w b r x y) (n : Int) : RdAt (w.setCell ⟨b, 6, none⟩ (.int .i64 n)) b { r with v1 := n } x y := by
  obtain ⟨c0, c1, c2, c3, c4, c5, c6, c7, c8, f0, f1, f2, f3, f4, f5, f6, f7, f8⟩ := id h
  clear h
  constructor <;> simp [go_sem, *]
theorem RdAt.s7 {w : World} {b : Nat} {r : RS} {x y : Value} (h : RdAt w b r x y) (n : Value) : RdAt (w.setCell ⟨b, 7, none⟩ n) b r n y := by
  obtain ⟨c0, c1, c2, c3, c4, c5, c6, c7, c8, f0, f1, f2, f3, f4, f5, f6, f7, f8⟩ := id h
  clear h
  constructor <;> simp [go_sem, *]
theorem RdAt.s8 {w : World} {b : Nat} {r : RS} {x y : Value} (h : RdAt w b r x y) (n : Value) : RdAt (w.setCell ⟨b, 8, none⟩ n) b r x n := by
  obtain ⟨c0, c1, c2, c3, c4, c5, c6, c7, c8, f0, f1, f2, f3, f4, f5, f6, f7, f8⟩ := id h
  clear h
  constructor <;> simp [go_sem, *]
theorem gb_drew1 {w W : World} {r : Option Nat} (h : w.grownBy W r) : w.grownBy W.drew r := gb_trans h ⟨rfl, rfl, rfl, Nat.le_refl _, fun _ _ _ => rfl⟩

def mayE (r : RS) (h : Bool) : Bool := (hI r.half == hI h) && ((r.step == 2) || (r.step == 3))

set_option maxHeartbeats 400000 in
theorem mayEnd_any (b : Nat) (r : RS) (x y : Value) (h : Bool) (w : World) (hr : RdAt w b r x y) :
    Calls Tryz.prog 93 #[.pointer (some ⟨b, 0, none⟩), .int .i64 (hI h)] w fun e w' => e = .returned (.bool (mayE r h)) ∧ w' = w := by
  obtain ⟨c0, c1, c2, c3, c4, c5, c6, c7, c8, f0, f1, f2, f3, f4, f5, f6, f7, f8⟩ := id hr
  have hm : mayE r h = if (hI r.half == hI h) = true then (if (r.step == 2) = true then true else (r.step == 3)) else false := by
    unfold mayE
    cases (hI r.half == hI h) <;> cases (r.step == 2) <;> rfl
  rw [hm]
  clear hm
  obtain ⟨st, mi, ha, a0, v0, a1, v1⟩ := r
  dsimp only at *
  go_enter Tryz.func93, Tryz.ntmps93
  go_wp2
  all_goals (go_ret; refine ⟨ret_bool ?_, rfl⟩; simp [*])

def RS.begin (r : RS) (a : Int) (m : Bool) : RS :=
  match r.half with
  | false => { r with a0 := a, v0 := 0, minus := m, step := 1 }
  | true => { r with a1 := a, v1 := 0, minus := m, step := 1 }

theorem gb_set2 {w W : World} {b o : Nat} {v : Value} (h : w.grownBy W (some b)) : w.grownBy (W.setCell ⟨b, o, none⟩ v) (some b) := gb_trans h (gb_set _ _ _ _)

set_option maxHeartbeats 1000000 in
theorem begin_any (b : Nat) (r : RS) (x y : Value) (a : Int) (m : Bool) (w : World) (hr : RdAt w b r x y) :
    Calls Tryz.prog 135 #[.pointer (some ⟨b, 0, none⟩), .int .i64 a, .bool m] w fun e w' => e = .returned (.tuple #[]) ∧ RdAt w' b (r.begin a m) x y ∧ w.grownBy w' (some b) := by
  obtain ⟨st, mi, ha, a0, v0, a1, v1⟩ := r
  obtain ⟨c0, c1, c2, c3, c4, c5, c6, c7, c8, f0, f1, f2, f3, f4, f5, f6, f7, f8⟩ := id hr
  dsimp only at *
  cases ha with
  | false =>
    dsimp only [hI] at c2
    go_enter Tryz.func135, Tryz.ntmps135
    go_wp2
    go_region
    go_wp2
    go_end0
    exact ⟨rfl, ((((hr.s3 a).s4 0).s1 m).s0 1).drew, gb_drew1 (gb_set2 (gb_set2 (gb_set2 (gb_set _ _ _ _))))⟩
  | true =>
    dsimp only [hI] at c2
    go_enter Tryz.func135, Tryz.ntmps135
    go_wp2
    go_region
    go_wp2
    go_end0
    exact ⟨rfl, ((((hr.s5 a).s6 0).s1 m).s0 1).drew, gb_drew1 (gb_set2 (gb_set2 (gb_set2 (gb_set _ _ _ _))))⟩

/-- one digit more -/
def RS.more (r : RS) (d : Int) : RS :=
  match r.half with
  | false => { r with v0 := 10 * r.v0 + d, step := r.step + 1 }
  | true => { r with v1 := 10 * r.v1 + d, step := r.step + 1 }
def RS.digit (r : RS) (a d : Int) : RS := if r.step = 0 then (r.begin a false).more d else r.more d
/-- numbers of at most two digits -/
def Few (r : RS) : Prop := (-100 ≤ r.v0 ∧ r.v0 ≤ 100) ∧ (-100 ≤ r.v1 ∧ r.v1 ≤ 100) ∧ 0 ≤ r.step ∧ r.step ≤ 3

set_option maxHeartbeats 2000000 in
theorem digit_any (b : Nat) (r : RS) (x y : Value) (a d : Int) (w : World) (hr : RdAt w b r x y) (hd : 0 ≤ d ∧ d ≤ 9) (hf : Few r) :
    Calls Tryz.prog 136 #[.pointer (some ⟨b, 0, none⟩), .int .i64 a, .int .i64 d] w fun e w' => e = .returned (.tuple #[]) ∧ RdAt w' b (r.digit a d) x y ∧ w.grownBy w' (some b) := by
  have kb := hide (begin_any b r x y a false w hr)
  obtain ⟨st, mi, ha, a0, v0, a1, v1⟩ := r
  obtain ⟨hf1, hf2, hf3, hf4⟩ := hf
  dsimp only at *
  by_cases h0 : st = 0
  · subst h0
    obtain ⟨c0, c1, c2, c3, c4, c5, c6, c7, c8, f0, f1, f2, f3, f4, f5, f6, f7, f8⟩ := id hr
    dsimp only at *
    cases ha with
    | false =>
      go_enter Tryz.func136, Tryz.ntmps136
      go_wp2_with fail
      refine kb.out.mono ?_
      rintro e w1 ⟨rfl, h1, g1⟩
      clear c0 c1 c2 c3 c4 c5 c6 c7 c8 f0 f1 f2 f3 f4 f5 f6 f7 f8
      obtain ⟨c0, c1, c2, c3, c4, c5, c6, c7, c8, f0, f1, f2, f3, f4, f5, f6, f7, f8⟩ := id h1
      dsimp only [RS.begin, hI] at *
      go_wp2
      go_region
      go_wp2
      go_end0
      refine ⟨rfl, ?_, ?_⟩
      · have := ((h1.s4 (10 * 0 + d)).s0 (1 + 1)).drew
        simpa [RS.digit, RS.more, RS.begin] using this
      · exact gb_drew1 (gb_set2 (gb_set2 g1))
    | true =>
      go_enter Tryz.func136, Tryz.ntmps136
      go_wp2_with fail
      refine kb.out.mono ?_
      rintro e w1 ⟨rfl, h1, g1⟩
      clear c0 c1 c2 c3 c4 c5 c6 c7 c8 f0 f1 f2 f3 f4 f5 f6 f7 f8
      obtain ⟨c0, c1, c2, c3, c4, c5, c6, c7, c8, f0, f1, f2, f3, f4, f5, f6, f7, f8⟩ := id h1
      dsimp only [RS.begin, hI] at *
      go_wp2
      go_region
      go_wp2
      go_end0
      refine ⟨rfl, ?_, ?_⟩
      · have := ((h1.s6 (10 * 0 + d)).s0 (1 + 1)).drew
        simpa [RS.digit, RS.more, RS.begin] using this
      · exact gb_drew1 (gb_set2 (gb_set2 g1))
  · obtain ⟨c0, c1, c2, c3, c4, c5, c6, c7, c8, f0, f1, f2, f3, f4, f5, f6, f7, f8⟩ := id hr
    have h0b : (st == 0) = false := by simpa using h0
    dsimp only at *
    clear kb
    cases ha with
    | false =>
      dsimp only [hI] at c2
      go_enter Tryz.func136, Tryz.ntmps136
      go_wp2
      go_region
      go_wp2
      go_end0
      refine ⟨rfl, ?_, ?_⟩
      · have := ((hr.s4 (10 * v0 + d)).s0 (st + 1)).drew
        simpa [RS.digit, RS.more, RS.begin, h0] using this
      · exact gb_drew1 (gb_set2 (gb_set _ _ _ _))
    | true =>
      dsimp only [hI] at c2
      go_enter Tryz.func136, Tryz.ntmps136
      go_wp2
      go_region
      go_wp2
      go_end0
      refine ⟨rfl, ?_, ?_⟩
      · have := ((hr.s6 (10 * v1 + d)).s0 (st + 1)).drew
        simpa [RS.digit, RS.more, RS.begin, h0] using this
      · exact gb_drew1 (gb_set2 (gb_set _ _ _ _))

/-- behind a number -/
def RS.endN (r : RS) : RS :=
  match r.half with
  | false => { r with v0 := if r.minus then r.v0 * -1 else r.v0, step := 0 }
  | true => { r with v1 := if r.minus then r.v1 * -1 else r.v1, step := 0 }

set_option maxHeartbeats 2000000 in
theorem endNumber_any (b : Nat) (r : RS) (x y : Value) (w : World) (hr : RdAt w b r x y) (hf : Few r) :
    Calls Tryz.prog 137 #[.pointer (some ⟨b, 0, none⟩)] w fun e w' => e = .returned (.tuple #[]) ∧ RdAt w' b r.endN x y ∧ w.grownBy w' (some b) := by
  obtain ⟨st, mi, ha, a0, v0, a1, v1⟩ := r
  obtain ⟨hf1, hf2, hf3, hf4⟩ := hf
  obtain ⟨c0, c1, c2, c3, c4, c5, c6, c7, c8, f0, f1, f2, f3, f4, f5, f6, f7, f8⟩ := id hr
  dsimp only at *
  cases mi with
  | false =>
    go_enter Tryz.func137, Tryz.ntmps137
    go_wp2
    go_end0
    refine ⟨rfl, ?_, gb_set _ _ _ _⟩
    have := hr.s0 0
    cases ha <;> simpa [RS.endN] using this
  | true =>
    cases ha with
    | false =>
      dsimp only [hI] at c2
      go_enter Tryz.func137, Tryz.ntmps137
      go_wp2
      go_region
      go_wp2
      go_end0
      refine ⟨rfl, ?_, ?_⟩
      · have := ((hr.s4 (v0 * -1)).s0 0).drew
        simpa [RS.endN] using this
      · exact gb_drew1 (gb_set2 (gb_set _ _ _ _))
    | true =>
      dsimp only [hI] at c2
      go_enter Tryz.func137, Tryz.ntmps137
      go_wp2
      go_region
      go_wp2
      go_end0
      refine ⟨rfl, ?_, ?_⟩
      · have := ((hr.s6 (v1 * -1)).s0 0).drew
        simpa [RS.endN] using this
      · exact gb_drew1 (gb_set2 (gb_set _ _ _ _))

end Go.Proofs.YtkjlkbgdkdcboaaGreatDoor

namespace Go.Proofs.YtkjlkbgdkdcboaaGreatDoor
open Go.RowKit
attribute [local go_sem ↓] Go.wp_at_zero Go.wp_at_succ

/-- a point of a text: its two marks (place, value) -/
abbrev Sp := (Int × Int) × (Int × Int)
def flat4 (l : List Sp) : List Value := l.flatMap fun p => [.int .i64 p.1.1, .int .i64 p.1.2, .int .i64 p.2.1, .int .i64 p.2.2]
def SpsAt (w : World) (b off : Nat) (ps : List Sp) : Prop := ∀ k (h : k < ps.length),
  w.cell? ⟨b, off + k * 4, none⟩ = some (.int .i64 ps[k].1.1) ∧ w.cell? ⟨b, off + k * 4 + 1, none⟩ = some (.int .i64 ps[k].1.2) ∧
  w.cell? ⟨b, off + k * 4 + 2, none⟩ = some (.int .i64 ps[k].2.1) ∧ w.cell? ⟨b, off + k * 4 + 3, none⟩ = some (.int .i64 ps[k].2.2)

/-- a ring that has been read, away from what is still written -/
def RingS (w : World) (B : Nat) (x y v : Value) (ps : List Sp) : Prop :=
  ∃ ga b off cap, v = .slice ga ps.length cap ∧ (0 < ps.length → ga = some ⟨b, off, none⟩ ∧ b < w.heap.size ∧ B + 2 ≤ b ∧ x.ownBlock ≠ some b ∧ y.ownBlock ≠ some b) ∧ SpsAt w b off ps

/-- what holds while a text is read: the reader's block is the first new one, the iterator's is the next -/
structure ScAt (w0 W : World) (it : Option Obj) (r : RS) (x y : Value) (acc : List Sp) (accs : List (List Sp)) : Prop where
  rd : RdAt W w0.heap.size r x y
  low : Below w0.heap.size w0 W
  itr : W.heap[w0.heap.size + 1]? = it
  more : w0.heap.size + 1 < W.heap.size
  row : W.ownsRow (w0.heap.size + 2) 199 4 x acc.length (flat4 acc)
  rows : ∃ vs : List Value, vs.length = accs.length ∧ W.ownsRow (w0.heap.size + 2) 200 1 y accs.length vs ∧ ∀ i (h : i < accs.length) (h' : i < vs.length), RingS W w0.heap.size x y vs[i] accs[i]
  apart : ∀ c, x.ownBlock = some c → y.ownBlock ≠ some c

theorem RingS.grown {w w' : World} {B : Nat} {x y x' y' v : Value} {ps : List Sp} {k : Option Nat} (h : RingS w B x y v ps) (hg : w.grownBy w' k) (hk : k = none ∨ k = some B ∨ k = x.ownBlock ∨ k = y.ownBlock)
    (hx : ∀ b, b < w.heap.size → x.ownBlock ≠ some b → y.ownBlock ≠ some b → x'.ownBlock ≠ some b ∧ y'.ownBlock ≠ some b) : RingS w' B x' y' v ps := by
  obtain ⟨ga, b, off, cap, h1, h2, h3⟩ := h
  have far : 0 < ps.length → some b ≠ k := fun q => by
    obtain ⟨_, e2, e3, e4, e5⟩ := h2 q
    rcases hk with rfl | rfl | rfl | rfl
    · simp
    · intro e; have := Option.some.inj e; omega
    · exact fun e => e4 e.symm
    · exact fun e => e5 e.symm
  refine ⟨ga, b, off, cap, h1, fun q => ?_, fun k' hk' => ?_⟩
  · obtain ⟨e1, e2, e3, e4, e5⟩ := h2 q
    exact ⟨e1, Nat.lt_of_lt_of_le e2 hg.size, e3, (hx b e2 e4 e5).1, (hx b e2 e4 e5).2⟩
  · have c := h3 k' hk'
    have f := far (by omega)
    exact ⟨hg.cell c.1 f, hg.cell c.2.1 f, hg.cell c.2.2.1 f, hg.cell c.2.2.2 f⟩

theorem ScAt.set {w0 W W' : World} {it : Option Obj} {r r' : RS} {x y : Value} {acc : List Sp} {accs : List (List Sp)} (h : ScAt w0 W it r x y acc accs) (hr : RdAt W' w0.heap.size r' x y) (hg : W.grownBy W' (some w0.heap.size)) : ScAt w0 W' it r' x y acc accs := by
  obtain ⟨vs, e1, e2, e3⟩ := h.rows
  refine ⟨hr, h.low.grown hg h.low.size (fun k hk => by cases hk; exact Nat.le_refl _), (hg.block _ h.more (by simp)).trans h.itr, Nat.lt_of_lt_of_le h.more hg.size, h.row.kept hg (Or.inr (fun e => by have := h.row.lt _ e; omega)), ⟨vs, e1, e2.kept hg (Or.inr (fun e => by have := e2.lt _ e; omega)), fun i hi hi' => (e3 i hi hi').grown hg (Or.inr (Or.inl rfl)) (fun b _ p q => ⟨p, q⟩)⟩, h.apart⟩

theorem ScAt.alloc {w0 W : World} {it : Option Obj} {r : RS} {x y : Value} {acc : List Sp} {accs : List (List Sp)} (h : ScAt w0 W it r x y acc accs) (o : Obj) : ScAt w0 (W.alloc o) it r x y acc accs := by
  obtain ⟨vs, e1, e2, e3⟩ := h.rows
  have hg := gb_alloc W o none
  refine ⟨h.rd.kept hg (by simp), h.low.alloc h.low.size _, (hg.block _ h.more (by simp)).trans h.itr, Nat.lt_of_lt_of_le h.more hg.size, h.row.alloc _, ⟨vs, e1, e2.alloc _, fun i hi hi' => (e3 i hi hi').grown hg (Or.inl rfl) (fun b _ p q => ⟨p, q⟩)⟩, h.apart⟩
theorem ScAt.drew {w0 W : World} {it : Option Obj} {r : RS} {x y : Value} {acc : List Sp} {accs : List (List Sp)} (h : ScAt w0 W it r x y acc accs) : ScAt w0 W.drew it r x y acc accs :=
  h.set h.rd.drew ⟨rfl, rfl, rfl, Nat.le_refl _, fun _ _ _ => rfl⟩

/-- a point more -/
theorem ScAt.push {w0 W W' : World} {it : Option Obj} {r : RS} {x y v' : Value} {acc : List Sp} {accs : List (List Sp)} {p : Sp} {H : Nat} (h : ScAt w0 W it r x y acc accs)
    (hown : W'.ownsRow (w0.heap.size + 2) 199 4 v' (acc.length + 1) (flat4 acc ++ [.int .i64 p.1.1, .int .i64 p.1.2, .int .i64 p.2.1, .int .i64 p.2.2])) (hg : W.grownBy W' x.ownBlock)
    (hob : v'.ownBlock = x.ownBlock ∨ v'.ownBlock = some H) (hH : W.heap.size ≤ H) : ScAt w0 (W'.setCell ⟨w0.heap.size, 7, none⟩ v') it r v' y (acc ++ [p]) accs := by
  obtain ⟨vs, e1, e2, e3⟩ := h.rows
  have hxb : x.ownBlock ≠ some w0.heap.size := fun e => by have := h.row.lt _ e; omega
  have hr := h.rd.kept hg hxb
  have hg2 := gb_set W' w0.heap.size 7 v'
  have far : ∀ c, c < W.heap.size → x.ownBlock ≠ some c → v'.ownBlock ≠ some c := fun c hc hx => by
    rcases hob with e | e
    · rw [e]; exact hx
    · rw [e]; intro e'; have := Option.some.inj e'; omega
  have hlow : Below w0.heap.size w0 W' := h.low.grown hg h.low.size (fun k hk => by have := h.row.lt k hk; omega)
  have r1 : W'.ownsRow (w0.heap.size + 2) 199 4 v' (acc ++ [p]).length (flat4 (acc ++ [p])) := by
    have e : flat4 (acc ++ [p]) = flat4 acc ++ [.int .i64 p.1.1, .int .i64 p.1.2, .int .i64 p.2.1, .int .i64 p.2.2] := by simp [flat4]
    rw [e, List.length_append]; exact hown
  have y1 : W'.ownsRow (w0.heap.size + 2) 200 1 y accs.length vs := e2.kept hg (by
    cases hy : y.ownBlock with
    | none => exact Or.inl rfl
    | some c => exact Or.inr (fun e => h.apart c e.symm hy))
  refine ⟨hr.s7 v', hlow.grown hg2 hlow.size (fun k hk => by cases hk; exact Nat.le_refl _), ?_, ?_, r1.kept hg2 (Or.inr (fun e => by have := r1.lt _ e; omega)), ⟨vs, e1, y1.kept hg2 (Or.inr (fun e => by have := y1.lt _ e; omega)), fun i hi hi' => ?_⟩, ?_⟩
  · rw [hg2.block _ (Nat.lt_of_lt_of_le h.more hg.size) (by simp), hg.block _ h.more (fun e => by have := h.row.lt _ e.symm; omega)]; exact h.itr
  · exact Nat.lt_of_lt_of_le (Nat.lt_of_lt_of_le h.more hg.size) hg2.size
  · have s1 := (e3 i hi hi').grown (x' := v') (y' := y) hg (Or.inr (Or.inr (Or.inl rfl))) (fun b hb p q => ⟨far b hb p, q⟩)
    exact s1.grown hg2 (Or.inr (Or.inl rfl)) (fun b _ p q => ⟨p, q⟩)
  · intro c hc hy
    have hcW : c < W.heap.size := (e2.lt c hy).2
    exact far c hcW (fun e => h.apart c e hy) hc

theorem flat4_at (p : List Sp) (k : Nat) (h : k < p.length) : (flat4 p)[k * 4]? = some (.int .i64 p[k].1.1) ∧ (flat4 p)[k * 4 + 1]? = some (.int .i64 p[k].1.2) ∧ (flat4 p)[k * 4 + 2]? = some (.int .i64 p[k].2.1) ∧ (flat4 p)[k * 4 + 3]? = some (.int .i64 p[k].2.2) := by
  induction p generalizing k with
  | nil => simp at h
  | cons a r ih =>
    cases k with
    | zero => simp [flat4]
    | succ k =>
      have := ih k (by simpa using h)
      have e1 : (k + 1) * 4 = k * 4 + 1 + 1 + 1 + 1 := by omega
      simp only [flat4, List.flatMap_cons] at *
      rw [e1]
      simpa using this
theorem RingS.row {w : World} {B H : Nat} {x' y' v : Value} {t : TypeId} {ps : List Sp} (h : w.ownsRow H t 4 v ps.length (flat4 ps)) (hB : B + 2 ≤ H) (hx : ∀ c, v.ownBlock = some c → x'.ownBlock ≠ some c ∧ y'.ownBlock ≠ some c) : RingS w B x' y' v ps := by
  rcases h.2 with ⟨rfl, h0⟩ | ⟨g, cap, cur, rfl, hHg, hgg, _⟩
  · refine ⟨none, 0, 0, 0, by rw [h0], fun k => absurd k (by omega), fun k hk => absurd hk (by omega)⟩
  · refine ⟨_, g, 0, cap, rfl, fun _ => ⟨rfl, (Array.getElem?_eq_some_iff.1 hgg).1, by omega, (hx g rfl).1, (hx g rfl).2⟩, fun k hk => ?_⟩
    obtain ⟨e1, e2, e3, e4⟩ := flat4_at ps k hk
    simp only [Nat.zero_add]
    exact ⟨(h.cellAt _ (by omega)).trans e1, (h.cellAt _ (by omega)).trans e2, (h.cellAt _ (by omega)).trans e3, (h.cellAt _ (by omega)).trans e4⟩

/-- a ring more -/
theorem ScAt.ring {w0 W W' : World} {it : Option Obj} {r : RS} {x y v' : Value} {acc : List Sp} {accs : List (List Sp)} {H : Nat} {vs : List Value} (h : ScAt w0 W it r x y acc accs)
    (e1 : vs.length = accs.length) (e2 : W.ownsRow (w0.heap.size + 2) 200 1 y accs.length vs) (e3 : ∀ i (h : i < accs.length) (h' : i < vs.length), RingS W w0.heap.size x y vs[i] accs[i])
    (hown : W'.ownsRow (w0.heap.size + 2) 200 1 v' (accs.length + 1) (vs ++ [x])) (hg : W.grownBy W' y.ownBlock)
    (hob : v'.ownBlock = y.ownBlock ∨ v'.ownBlock = some H) (hH : W.heap.size ≤ H) : ScAt w0 ((W'.setCell ⟨w0.heap.size, 8, none⟩ v').setCell ⟨w0.heap.size, 7, none⟩ (.slice none 0 0)) it r (.slice none 0 0) v' [] (accs ++ [acc]) := by
  have hyb : y.ownBlock ≠ some w0.heap.size := fun e => by have := e2.lt _ e; omega
  have hr := h.rd.kept hg hyb
  have hg2 : W'.grownBy ((W'.setCell ⟨w0.heap.size, 8, none⟩ v').setCell ⟨w0.heap.size, 7, none⟩ (.slice none 0 0)) (some w0.heap.size) := gb_set2 (gb_set W' w0.heap.size 8 v')
  have far : ∀ c, c < W.heap.size → y.ownBlock ≠ some c → v'.ownBlock ≠ some c := fun c hc hx => by
    rcases hob with e | e
    · rw [e]; exact hx
    · rw [e]; intro e'; have := Option.some.inj e'; omega
  have hlow : Below w0.heap.size w0 W' := h.low.grown hg h.low.size (fun k hk => by have := e2.lt k hk; omega)
  have x1 : W'.ownsRow (w0.heap.size + 2) 199 4 x acc.length (flat4 acc) := h.row.kept hg (by
    cases hy : x.ownBlock with
    | none => exact Or.inl rfl
    | some c => exact Or.inr (fun e => h.apart c hy e.symm))
  have y2 := hown.kept hg2 (Or.inr (fun e => by have := hown.lt _ e; omega))
  have x2 := x1.kept hg2 (Or.inr (fun e => by have := x1.lt _ e; omega))
  refine ⟨(hr.s8 v').s7 _, hlow.grown hg2 hlow.size (fun k hk => by cases hk; exact Nat.le_refl _), ?_, ?_, World.ownsRow_nil _ _ _ _, ⟨vs ++ [x], by simp [e1], by rw [List.length_append]; exact y2, fun i hi hi' => ?_⟩, fun c hc => by cases hc⟩
  · rw [hg2.block _ (Nat.lt_of_lt_of_le h.more hg.size) (by simp), hg.block _ h.more (fun e => by have := e2.lt _ e.symm; omega)]; exact h.itr
  · exact Nat.lt_of_lt_of_le (Nat.lt_of_lt_of_le h.more hg.size) hg2.size
  · have hi2 : i < accs.length + 1 := by simpa using hi
    by_cases hik : i < accs.length
    · have q1 : (vs ++ [x])[i] = vs[i]'(by omega) := List.getElem_append_left (by omega)
      have q2 : (accs ++ [acc])[i] = accs[i] := List.getElem_append_left hik
      rw [q1, q2]
      have s1 := (e3 i hik (by omega)).grown (x' := .slice none 0 0) (y' := v') hg (Or.inr (Or.inr (Or.inr rfl))) (fun b hb p q => ⟨(by intro e; cases e), far b hb q⟩)
      exact s1.grown hg2 (Or.inr (Or.inl rfl)) (fun b _ p q => ⟨p, q⟩)
    · obtain rfl : i = accs.length := by omega
      have q1 : (vs ++ [x])[accs.length] = x := by rw [List.getElem_append_right (by omega)]; simp [e1]
      have q2 : (accs ++ [acc])[accs.length] = acc := by rw [List.getElem_append_right (by omega)]; simp
      rw [q1, q2]
      exact RingS.row x2 (Nat.le_refl _) (fun c hc => ⟨(by intro e; cases e), far c (h.row.lt c hc).2 (h.apart c hc)⟩)

theorem info94 : (Tryz.prog.info? 199).map (fun i => (i.zero, i.size, i.bytes)) = some (some (.agg #[.int .i64 0, .int .i64 0, .int .i64 0, .int .i64 0]), 4, 32) := by kernel_rfl
theorem info95 : (Tryz.prog.info? 200).map (fun i => (i.zero, i.size, i.bytes)) = some (some (.slice none 0 0), 1, 24) := by kernel_rfl

def RS.sp (r : RS) : Sp := ((r.a0, r.v0), (r.a1, r.v1))

set_option maxRecDepth 100000 in
set_option maxHeartbeats 4000000 in
theorem endPoint_any (w0 w : World) (it : Option Obj) (r : RS) (x y : Value) (acc : List Sp) (accs : List (List Sp)) (h : ScAt w0 w it r x y acc accs) (hf : Few r) (hn : acc.length ≤ 1000) :
    Calls Tryz.prog 138 #[.pointer (some ⟨w0.heap.size, 0, none⟩)] w fun e w' => e = .returned (.tuple #[]) ∧ ∃ x', ScAt w0 w' it { r.endN with half := false } x' y (acc ++ [r.endN.sp]) accs := by
  obtain ⟨i0, hi, hz0, hz1, hz2⟩ := info_parts info94
  have k1 := hide (endNumber_any _ r x y w h.rd hf)
  obtain ⟨R, hR⟩ : ∃ R, r.endN = R := ⟨_, rfl⟩
  rw [hR] at k1 ⊢
  go_enter Tryz.func138, Tryz.ntmps138
  go_wp2_with fail
  refine k1.out.mono ?_
  rintro e w1 ⟨rfl, h1, g1⟩
  have s1 := h.set h1 g1
  obtain ⟨c0, c1, c2, c3, c4, c5, c6, c7, c8, f0, f1, f2, f3, f4, f5, f6, f7, f8⟩ := id h1
  have hH := hide s1
  have hrow := s1.row
  have lb := h1.lt
  have lb2 := s1.more
  have hne : x.ownBlock ≠ some w0.heap.size := fun e => by have := hrow.lt _ e; omega
  clear k1 s1
  go_wp2_with fail
  go_region_law
    ((refine step_append_lies _ (by rfl) _ _ _ (by rfl) (w0.heap.size + 2) 199 i0 _ 4 32 Tryz.underlying200 hi hz0 hz1 hz2 rfl (by omega) x acc.length (flat4 acc) (by rfl) ((hrow.alloc _).drew)
        ⟨w1.heap.size, 0, none⟩ 1 1 [.int .i64 R.a0, .int .i64 R.v0, .int .i64 R.a1, .int .i64 R.v1] (by rfl) (by rfl) (World.news_of_block (cs := #[.int .i64 R.a0, .int .i64 R.v0, .int .i64 R.a1, .int .i64 R.v1]) (t := 199) (fr := (0, 0)) (heap_alloc_new w1 _)) (by simp [Value.oneCell'])
        (by omega) (by unfold maxLen; omega) (by omega) (by simp; omega) (w1.heap.size + 1) (by simp) ?_; intro gg cap' w2 hown1 hgrow hat hlt'; have q2 := ((h1.kept (gb_alloc w1 (.cells #[.int .i64 R.a0, .int .i64 R.v0, .int .i64 R.a1, .int .i64 R.v1] 199) none) (by simp)).drew).kept hgrow hne; have q7 := q2.c7; have qf7 := q2.f7))
  all_goals
    have hob : (Value.slice (some ⟨gg, 0, none⟩) (acc.length + 1) cap').ownBlock = x.ownBlock ∨ (Value.slice (some ⟨gg, 0, none⟩) (acc.length + 1) cap').ownBlock = some (w1.heap.size + 1) := by
      rcases hat with e | e
      · exact Or.inl e.symm
      · exact Or.inr (by rw [e]; rfl)
    have s2 := ScAt.push (p := R.sp) ((hH.out.alloc (.cells #[.int .i64 R.a0, .int .i64 R.v0, .int .i64 R.a1, .int .i64 R.v1] 199)).drew) hown1 hgrow hob (by simp)
    clear c0 c1 c2 c3 c4 c5 c6 c7 c8 f0 f1 f2 f3 f4 f5 f6 f7 f8 q2 q7 qf7 hown1 hgrow hob hat hH h1
    obtain ⟨c0, c1, c2, c3, c4, c5, c6, c7, c8, f0, f1, f2, f3, f4, f5, f6, f7, f8⟩ := id s2.rd
    go_wp2
    go_end0
    exact ⟨rfl, _, s2.set (s2.rd.s2 false) (gb_set _ _ _ _)⟩

set_option maxRecDepth 100000 in
set_option maxHeartbeats 4000000 in
theorem endRing_any (w0 w : World) (it : Option Obj) (r : RS) (x y : Value) (acc : List Sp) (accs : List (List Sp)) (h : ScAt w0 w it r x y acc accs) (hf : Few r) (hn : acc.length ≤ 1000) (hm : accs.length ≤ 1000) :
    Calls Tryz.prog 94 #[.pointer (some ⟨w0.heap.size, 0, none⟩)] w fun e w' => e = .returned (.tuple #[]) ∧ ∃ y', ScAt w0 w' it { r.endN with half := false } (.slice none 0 0) y' [] (accs ++ [acc ++ [r.endN.sp]]) := by
  obtain ⟨i0, hi, hz0, hz1, hz2⟩ := info_parts info95
  have k1 := hide (endPoint_any w0 w it r x y acc accs h hf hn)
  obtain ⟨R, hR⟩ : ∃ R : RS, { r.endN with half := false } = R := ⟨_, rfl⟩
  obtain ⟨A, hA⟩ : ∃ A, acc ++ [r.endN.sp] = A := ⟨_, rfl⟩
  rw [hR, hA] at k1 ⊢
  clear h hR hA
  go_enter Tryz.func94, Tryz.ntmps94
  go_wp2_with fail
  refine k1.out.mono ?_
  rintro e w1 ⟨rfl, x1, h1⟩
  obtain ⟨vs, e1, e2, e3⟩ := h1.rows
  have hform : ∃ ga cap, x1 = .slice ga A.length cap := by
    rcases h1.row.2 with ⟨rfl, hh⟩ | ⟨g, cap, cur, rfl, _⟩
    · exact ⟨none, 0, by rw [hh]⟩
    · exact ⟨_, _, rfl⟩
  obtain ⟨ga, cap, rfl⟩ := hform
  obtain ⟨c0, c1, c2, c3, c4, c5, c6, c7, c8, f0, f1, f2, f3, f4, f5, f6, f7, f8⟩ := id h1.rd
  have hH := hide h1
  have He3 := hide e3
  have hrd := h1.rd
  have lb := h1.rd.lt
  have lb2 := h1.more
  have hne : y.ownBlock ≠ some w0.heap.size := fun e => by have := e2.lt _ e; omega
  clear k1 h1 e3
  go_wp2_with fail
  go_region_law
    ((refine step_append_lies _ (by rfl) _ _ _ (by rfl) (w0.heap.size + 2) 200 i0 _ 1 24 Tryz.underlying127 hi hz0 hz1 hz2 rfl (by omega) y accs.length vs (by rfl) ((e2.alloc _).drew)
        ⟨w1.heap.size, 0, none⟩ 1 1 [.slice ga A.length cap] (by rfl) (by rfl) (World.news_of_block (cs := #[.slice ga A.length cap]) (t := 200) (fr := (0, 0)) (heap_alloc_new w1 _)) (by simp [Value.oneCell'])
        (by omega) (by unfold maxLen; omega) (by omega) (by simp; omega) (w1.heap.size + 1) (by simp) ?_; intro gg cap' w2 hown1 hgrow hat hlt'; have q2 := ((hrd.kept (gb_alloc w1 (.cells #[.slice ga A.length cap] 200) none) (by simp)).drew).kept hgrow hne; have q7 := q2.c8; have qf7 := q2.f8))
  all_goals
    have hob : (Value.slice (some ⟨gg, 0, none⟩) (accs.length + 1) cap').ownBlock = y.ownBlock ∨ (Value.slice (some ⟨gg, 0, none⟩) (accs.length + 1) cap').ownBlock = some (w1.heap.size + 1) := by
      rcases hat with e | e
      · exact Or.inl e.symm
      · exact Or.inr (by rw [e]; rfl)
    have hs := (hH.out.alloc (.cells #[.slice ga A.length cap] 200)).drew
    have s2 := ScAt.ring hs e1 ((e2.alloc _).drew) (fun i hi hi' => ((He3.out i hi hi').grown (gb_alloc w1 (.cells #[.slice ga A.length cap] 200) none) (Or.inl rfl) (fun b _ p q => ⟨p, q⟩)).grown (w' := (w1.alloc (.cells #[.slice ga A.length cap] 200)).drew) (k := none) ⟨rfl, rfl, rfl, Nat.le_refl _, fun _ _ _ => rfl⟩ (Or.inl rfl) (fun b _ p q => ⟨p, q⟩)) hown1 hgrow hob (by simp)
    clear c0 c1 c2 c3 c4 c5 c6 c7 c8 f0 f1 f2 f3 f4 f5 f6 f7 f8 q7 qf7 hown1 hgrow hob hat hH hrd hs
    have q3 := q2.s8 (.slice (some ⟨gg, 0, none⟩) (accs.length + 1) cap')
    obtain ⟨c0, c1, c2, c3, c4, c5, c6, c7, c8, f0, f1, f2, f3, f4, f5, f6, f7, f8⟩ := id q3
    go_wp2
    go_end0
    exact ⟨rfl, _, s2⟩

end Go.Proofs.YtkjlkbgdkdcboaaGreatDoor

