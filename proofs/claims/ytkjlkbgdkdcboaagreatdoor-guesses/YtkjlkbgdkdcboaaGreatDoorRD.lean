import Derived.Test.YtkjlkbgdkdcboaaGreatDoorPE
import Derived.Deep.AppendLies
import Derived.Deep.RegionHeld3
import Derived.Deep.RegionLaw
import Derived.OwnWalk
import Derived.Lib.OthersKept
import Derived.Laws.Strings

set_option linter.unusedSimpArgs false
set_option linter.unusedVariables false

set_option linter.unusedSimpArgs false
set_option linter.unusedVariables false
namespace Go.Proofs.YtkjlkbgdkdcboaaGreatDoor
open Go.RowKit
attribute [local go_sem ↓] Go.wp_at_zero Go.wp_at_succ
structure RS where
  step : Int
  minus : Bool
  half : Bool
  a0 : Int
  v0 : Int
  a1 : Int
  v1 : Int
def hI : Bool → Int | false => 0 | true => 1
structure RdAt (w : World) (b : Nat) (r : RS) (ring rings : Value) : Prop where
  c0 : w.cell? ⟨b, 0, none⟩ = some (.int .i64 r.step)
  c1 : w.cell? ⟨b, 1, none⟩ = some (.bool r.minus)
  c2 : w.cell? ⟨b, 2, none⟩ = some (.int .i64 (hI r.half))
  c3 : w.cell? ⟨b, 3, none⟩ = some (.int .i64 r.a0)
  c4 : w.cell? ⟨b, 4, none⟩ = some (.int .i64 r.v0)
  c5 : w.cell? ⟨b, 5, none⟩ = some (.int .i64 r.a1)
  c6 : w.cell? ⟨b, 6, none⟩ = some (.int .i64 r.v1)
  c7 : w.cell? ⟨b, 7, none⟩ = some ring
  c8 : w.cell? ⟨b, 8, none⟩ = some rings
  f0 : w.frozen? ⟨b, 0, none⟩ = false
  f1 : w.frozen? ⟨b, 1, none⟩ = false
  f2 : w.frozen? ⟨b, 2, none⟩ = false
  f3 : w.frozen? ⟨b, 3, none⟩ = false
  f4 : w.frozen? ⟨b, 4, none⟩ = false
  f5 : w.frozen? ⟨b, 5, none⟩ = false
  f6 : w.frozen? ⟨b, 6, none⟩ = false
  f7 : w.frozen? ⟨b, 7, none⟩ = false
  f8 : w.frozen? ⟨b, 8, none⟩ = false
theorem RdAt.lt {w : World} {b : Nat} {r : RS} {x y : Value} (h : RdAt w b r x y) : b < w.heap.size := World.block_lt_of_cell? _ _ h.c0
theorem RdAt.kept {w w' : World} {b : Nat} {r : RS} {x y : Value} {k : Option Nat} (h : RdAt w b r x y) (hg : w.grownBy w' k) (hr : k ≠ some b) : RdAt w' b r x y := by
  have hb : w'.heap[b]? = w.heap[b]? := hg.block b h.lt (fun e => hr e.symm)
  have hc : ∀ o v, w.cell? ⟨b, o, none⟩ = some v → w'.cell? ⟨b, o, none⟩ = some v := fun o v c => hg.cell c (fun e => hr e.symm)
  have hf : ∀ o, w.frozen? ⟨b, o, none⟩ = false → w'.frozen? ⟨b, o, none⟩ = false := fun o f => (World.frozen?_of_block (w := w) hb).trans f
  exact ⟨hc _ _ h.c0, hc _ _ h.c1, hc _ _ h.c2, hc _ _ h.c3, hc _ _ h.c4, hc _ _ h.c5, hc _ _ h.c6, hc _ _ h.c7, hc _ _ h.c8, hf _ h.f0, hf _ h.f1, hf _ h.f2, hf _ h.f3, hf _ h.f4, hf _ h.f5, hf _ h.f6, hf _ h.f7, hf _ h.f8⟩
theorem RdAt.drew {w : World} {b : Nat} {r : RS} {x y : Value} (h : RdAt w b r x y) : RdAt w.drew b r x y :=
  h.kept (k := none) ⟨rfl, rfl, rfl, Nat.le_refl _, fun _ _ _ => rfl⟩ (by simp)
theorem RdAt.s0 {w : World} {b : Nat} {r : RS} {x y : Value} (h : RdAt w b r x y) (n : Int) : RdAt (w.setCell ⟨b, 0, none⟩ (.int .i64 n)) b { r with step := n } x y := by
  obtain ⟨c0, c1, c2, c3, c4, c5, c6, c7, c8, f0, f1, f2, f3, f4, f5, f6, f7, f8⟩ := id h
  clear h
  constructor <;> simp [go_sem, *]
theorem RdAt.s1 {w : World} {b : Nat} {r : RS} {x y : Value} (h : RdAt w b r x y) (n : Bool) : RdAt (w.setCell ⟨b, 1, none⟩ (.bool n)) b { r with minus := n } x y := by
  obtain ⟨c0, c1, c2, c3, c4, c5, c6, c7, c8, f0, f1, f2, f3, f4, f5, f6, f7, f8⟩ := id h
  clear h
  constructor <;> simp [go_sem, *]
theorem RdAt.s2 {w : World} {b : Nat} {r : RS} {x y : Value} (h : RdAt w b r x y) (n : Bool) : RdAt (w.setCell ⟨b, 2, none⟩ (.int .i64 (hI n))) b { r with half := n } x y := by
  obtain ⟨c0, c1, c2, c3, c4, c5, c6, c7, c8, f0, f1, f2, f3, f4, f5, f6, f7, f8⟩ := id h
  clear h
  constructor <;> simp [go_sem, *]
theorem RdAt.s3 {w : World} {b : Nat} {r : RS} {x y : Value} (h : RdAt w b r x y) (n : Int) : RdAt (w.setCell ⟨b, 3, none⟩ (.int .i64 n)) b { r with a0 := n } x y := by
  obtain ⟨c0, c1, c2, c3, c4, c5, c6, c7, c8, f0, f1, f2, f3, f4, f5, f6, f7, f8⟩ := id h
  clear h
  constructor <;> simp [go_sem, *]
theorem RdAt.s4 {w : World} {b : Nat} {r : RS} {x y : Value} (h : RdAt w b r x y) (n : Int) : RdAt (w.setCell ⟨b, 4, none⟩ (.int .i64 n)) b { r with v0 := n } x y := by
  obtain ⟨c0, c1, c2, c3, c4, c5, c6, c7, c8, f0, f1, f2, f3, f4, f5, f6, f7, f8⟩ := id h
  clear h
  constructor <;> simp [go_sem, *]
theorem RdAt.s5 {w : World} {b : Nat} {r : RS} {x y : Value} (h : RdAt w b r x y) (n : Int) : RdAt (w.setCell ⟨b, 5, none⟩ (.int .i64 n)) b { r with a1 := n } x y := by
  obtain ⟨c0, c1, c2, c3, c4, c5, c6, c7, c8, f0, f1, f2, f3, f4, f5, f6, f7, f8⟩ := id h
  clear h
  constructor <;> simp [go_sem, *]
theorem RdAt.s6 {w : World} {b : Nat} {r : RS} {x y : Value} (h : RdAt w b r x y) (n : Int) : RdAt (w.setCell ⟨b, 6, none⟩ (.int .i64 n)) b { r with v1 := n } x y := by
  obtain ⟨c0, c1, c2, c3, c4, c5, c6, c7, c8, f0, f1, f2, f3, f4, f5, f6, f7, f8⟩ := id h
  clear h
  constructor <;> simp [go_sem, *]
theorem RdAt.s7 {w : World} {b : Nat} {r : RS} {x y : Value} (h : RdAt w b r x y) (n : Value) : RdAt (w.setCell ⟨b, 7, none⟩ n) b r n y := by
  obtain ⟨c0, c1, c2, c3, c4, c5, c6, c7, c8, f0, f1, f2, f3, f4, f5, f6, f7, f8⟩ := id h
  clear h
  constructor <;> simp [go_sem, *]
theorem RdAt.s8 {w : World} {b : Nat} {r : RS} {x y : Value} (h : RdAt w b r x y) (n : Value) : RdAt (w.setCell ⟨b, 8, none⟩ n) b r x n := by
  obtain ⟨c0, c1, c2, c3, c4, c5, c6, c7, c8, f0, f1, f2, f3, f4, f5, f6, f7, f8⟩ := id h
  clear h
  constructor <;> simp [go_sem, *]
theorem gb_drew1 {w W : World} {r : Option Nat} (h : w.grownBy W r) : w.grownBy W.drew r := gb_trans h ⟨rfl, rfl, rfl, Nat.le_refl _, fun _ _ _ => rfl⟩
def mayE (r : RS) (h : Bool) : Bool := (hI r.half == hI h) && ((r.step == 2) || (r.step == 3))
set_option maxHeartbeats 400000 in
theorem mayEnd_any (b : Nat) (r : RS) (x y : Value) (h : Bool) (w : World) (hr : RdAt w b r x y) :
    Calls Tryz.prog 93 #[.pointer (some ⟨b, 0, none⟩), .int .i64 (hI h)] w fun e w' => e = .returned (.bool (mayE r h)) ∧ w' = w := by
  obtain ⟨c0, c1, c2, c3, c4, c5, c6, c7, c8, f0, f1, f2, f3, f4, f5, f6, f7, f8⟩ := id hr
  have hm : mayE r h = if (hI r.half == hI h) = true then (if (r.step == 2) = true then true else (r.step == 3)) else false := by
    unfold mayE
    cases (hI r.half == hI h) <;> cases (r.step == 2) <;> rfl
  rw [hm]
  clear hm
  obtain ⟨st, mi, ha, a0, v0, a1, v1⟩ := r
  dsimp only at *
  go_enter Tryz.func93, Tryz.ntmps93
  go_wp2
  all_goals (go_ret; refine ⟨ret_bool ?_, rfl⟩; simp [*])
def RS.begin (r : RS) (a : Int) (m : Bool) : RS :=
  match r.half with
  | false => { r with a0 := a, v0 := 0, minus := m, step := 1 }
  | true => { r with a1 := a, v1 := 0, minus := m, step := 1 }
theorem gb_set2 {w W : World} {b o : Nat} {v : Value} (h : w.grownBy W (some b)) : w.grownBy (W.setCell ⟨b, o, none⟩ v) (some b) := gb_trans h (gb_set _ _ _ _)
set_option maxHeartbeats 1000000 in
theorem begin_any (b : Nat) (r : RS) (x y : Value) (a : Int) (m : Bool) (w : World) (hr : RdAt w b r x y) :
    Calls Tryz.prog 135 #[.pointer (some ⟨b, 0, none⟩), .int .i64 a, .bool m] w fun e w' => e = .returned (.tuple #[]) ∧ RdAt w' b (r.begin a m) x y ∧ w.grownBy w' (some b) := by
  obtain ⟨st, mi, ha, a0, v0, a1, v1⟩ := r
  obtain ⟨c0, c1, c2, c3, c4, c5, c6, c7, c8, f0, f1, f2, f3, f4, f5, f6, f7, f8⟩ := id hr
  dsimp only at *
  cases ha with
  | false =>
    dsimp only [hI] at c2
    go_enter Tryz.func135, Tryz.ntmps135
    go_wp2
    go_region
    go_wp2
    go_end0
    exact ⟨rfl, ((((hr.s3 a).s4 0).s1 m).s0 1).drew, gb_drew1 (gb_set2 (gb_set2 (gb_set2 (gb_set _ _ _ _))))⟩
  | true =>
    dsimp only [hI] at c2
    go_enter Tryz.func135, Tryz.ntmps135
    go_wp2
    go_region
    go_wp2
    go_end0
    exact ⟨rfl, ((((hr.s5 a).s6 0).s1 m).s0 1).drew, gb_drew1 (gb_set2 (gb_set2 (gb_set2 (gb_set _ _ _ _))))⟩
def RS.more (r : RS) (d : Int) : RS :=
  match r.half with
  | false => { r with v0 := 10 * r.v0 + d, step := r.step + 1 }
  | true => { r with v1 := 10 * r.v1 + d, step := r.step + 1 }
def RS.digit (r : RS) (a d : Int) : RS := if r.step = 0 then (r.begin a false).more d else r.more d
def Few (r : RS) : Prop := (-100 ≤ r.v0 ∧ r.v0 ≤ 100) ∧ (-100 ≤ r.v1 ∧ r.v1 ≤ 100) ∧ 0 ≤ r.step ∧ r.step ≤ 3
set_option maxHeartbeats 2000000 in
theorem digit_any (b : Nat) (r : RS) (x y : Value) (a d : Int) (w : World) (hr : RdAt w b r x y) (hd : 0 ≤ d ∧ d ≤ 9) (hf : Few r) :
    Calls Tryz.prog 136 #[.pointer (some ⟨b, 0, none⟩), .int .i64 a, .int .i64 d] w fun e w' => e = .returned (.tuple #[]) ∧ RdAt w' b (r.digit a d) x y ∧ w.grownBy w' (some b) := by
  have kb := hide (begin_any b r x y a false w hr)
  obtain ⟨st, mi, ha, a0, v0, a1, v1⟩ := r
  obtain ⟨hf1, hf2, hf3, hf4⟩ := hf
  dsimp only at *
  by_cases h0 : st = 0
  · subst h0
    obtain ⟨c0, c1, c2, c3, c4, c5, c6, c7, c8, f0, f1, f2, f3, f4, f5, f6, f7, f8⟩ := id hr
    dsimp only at *
    cases ha with
    | false =>
      go_enter Tryz.func136, Tryz.ntmps136
      go_wp2_with fail
      refine kb.out.mono ?_
      rintro e w1 ⟨rfl, h1, g1⟩
      clear c0 c1 c2 c3 c4 c5 c6 c7 c8 f0 f1 f2 f3 f4 f5 f6 f7 f8
      obtain ⟨c0, c1, c2, c3, c4, c5, c6, c7, c8, f0, f1, f2, f3, f4, f5, f6, f7, f8⟩ := id h1
      dsimp only [RS.begin, hI] at *
      go_wp2
      go_region
      go_wp2
      go_end0
      refine ⟨rfl, ?_, ?_⟩
      · have := ((h1.s4 (10 * 0 + d)).s0 (1 + 1)).drew
        simpa [RS.digit, RS.more, RS.begin] using this
      · exact gb_drew1 (gb_set2 (gb_set2 g1))
    | true =>
      go_enter Tryz.func136, Tryz.ntmps136
      go_wp2_with fail
      refine kb.out.mono ?_
      rintro e w1 ⟨rfl, h1, g1⟩
      clear c0 c1 c2 c3 c4 c5 c6 c7 c8 f0 f1 f2 f3 f4 f5 f6 f7 f8
      obtain ⟨c0, c1, c2, c3, c4, c5, c6, c7, c8, f0, f1, f2, f3, f4, f5, f6, f7, f8⟩ := id h1
      dsimp only [RS.begin, hI] at *
      go_wp2
      go_region
      go_wp2
      go_end0
      refine ⟨rfl, ?_, ?_⟩
      · have := ((h1.s6 (10 * 0 + d)).s0 (1 + 1)).drew
        simpa [RS.digit, RS.more, RS.begin] using this
      · exact gb_drew1 (gb_set2 (gb_set2 g1))
  · obtain ⟨c0, c1, c2, c3, c4, c5, c6, c7, c8, f0, f1, f2, f3, f4, f5, f6, f7, f8⟩ := id hr
    have h0b : (st == 0) = false := by simpa using h0
    dsimp only at *
    clear kb
    cases ha with
    | false =>
      dsimp only [hI] at c2
      go_enter Tryz.func136, Tryz.ntmps136
      go_wp2
      go_region
      go_wp2
      go_end0
      refine ⟨rfl, ?_, ?_⟩
      · have := ((hr.s4 (10 * v0 + d)).s0 (st + 1)).drew
        simpa [RS.digit, RS.more, RS.begin, h0] using this
      · exact gb_drew1 (gb_set2 (gb_set _ _ _ _))
    | true =>
      dsimp only [hI] at c2
      go_enter Tryz.func136, Tryz.ntmps136
      go_wp2
      go_region
      go_wp2
      go_end0
      refine ⟨rfl, ?_, ?_⟩
      · have := ((hr.s6 (10 * v1 + d)).s0 (st + 1)).drew
        simpa [RS.digit, RS.more, RS.begin, h0] using this
      · exact gb_drew1 (gb_set2 (gb_set _ _ _ _))
def RS.endN (r : RS) : RS :=
  match r.half with
  | false => { r with v0 := if r.minus then r.v0 * -1 else r.v0, step := 0 }
  | true => { r with v1 := if r.minus then r.v1 * -1 else r.v1, step := 0 }
set_option maxHeartbeats 2000000 in
theorem endNumber_any (b : Nat) (r : RS) (x y : Value) (w : World) (hr : RdAt w b r x y) (hf : Few r) :
    Calls Tryz.prog 137 #[.pointer (some ⟨b, 0, none⟩)] w fun e w' => e = .returned (.tuple #[]) ∧ RdAt w' b r.endN x y ∧ w.grownBy w' (some b) := by
  obtain ⟨st, mi, ha, a0, v0, a1, v1⟩ := r
  obtain ⟨hf1, hf2, hf3, hf4⟩ := hf
  obtain ⟨c0, c1, c2, c3, c4, c5, c6, c7, c8, f0, f1, f2, f3, f4, f5, f6, f7, f8⟩ := id hr
  dsimp only at *
  cases mi with
  | false =>
    go_enter Tryz.func137, Tryz.ntmps137
    go_wp2
    go_end0
    refine ⟨rfl, ?_, gb_set _ _ _ _⟩
    have := hr.s0 0
    cases ha <;> simpa [RS.endN] using this
  | true =>
    cases ha with
    | false =>
      dsimp only [hI] at c2
      go_enter Tryz.func137, Tryz.ntmps137
      go_wp2
      go_region
      go_wp2
      go_end0
      refine ⟨rfl, ?_, ?_⟩
      · have := ((hr.s4 (v0 * -1)).s0 0).drew
        simpa [RS.endN] using this
      · exact gb_drew1 (gb_set2 (gb_set _ _ _ _))
    | true =>
      dsimp only [hI] at c2
      go_enter Tryz.func137, Tryz.ntmps137
      go_wp2
      go_region
      go_wp2
      go_end0
      refine ⟨rfl, ?_, ?_⟩
      · have := ((hr.s6 (v1 * -1)).s0 0).drew
        simpa [RS.endN] using this
      · exact gb_drew1 (gb_set2 (gb_set _ _ _ _))
end Go.Proofs.YtkjlkbgdkdcboaaGreatDoor
namespace Go.Proofs.YtkjlkbgdkdcboaaGreatDoor
open Go.RowKit
attribute [local go_sem ↓] Go.wp_at_zero Go.wp_at_succ
abbrev Sp := (Int × Int) × (Int × Int)
def flat4 (l : List Sp) : List Value := l.flatMap fun p => [.int .i64 p.1.1, .int .i64 p.1.2, .int .i64 p.2.1, .int .i64 p.2.2]
def SpsAt (w : World) (b off : Nat) (ps : List Sp) : Prop := ∀ k (h : k < ps.length),
  w.cell? ⟨b, off + k * 4, none⟩ = some (.int .i64 ps[k].1.1) ∧ w.cell? ⟨b, off + k * 4 + 1, none⟩ = some (.int .i64 ps[k].1.2) ∧
  w.cell? ⟨b, off + k * 4 + 2, none⟩ = some (.int .i64 ps[k].2.1) ∧ w.cell? ⟨b, off + k * 4 + 3, none⟩ = some (.int .i64 ps[k].2.2)
def RingS (w : World) (B : Nat) (x y v : Value) (ps : List Sp) : Prop :=
  ∃ ga b off cap, v = .slice ga ps.length cap ∧ (0 < ps.length → ga = some ⟨b, off, none⟩ ∧ b < w.heap.size ∧ B + 2 ≤ b ∧ x.ownBlock ≠ some b ∧ y.ownBlock ≠ some b) ∧ SpsAt w b off ps
structure ScAt (w0 W : World) (it : Option Obj) (r : RS) (x y : Value) (acc : List Sp) (accs : List (List Sp)) : Prop where
  rd : RdAt W w0.heap.size r x y
  low : Below w0.heap.size w0 W
  itr : W.heap[w0.heap.size + 1]? = it
  more : w0.heap.size + 1 < W.heap.size
  row : W.ownsRow (w0.heap.size + 2) 199 4 x acc.length (flat4 acc)
  rows : ∃ vs : List Value, vs.length = accs.length ∧ W.ownsRow (w0.heap.size + 2) 200 1 y accs.length vs ∧ ∀ i (h : i < accs.length) (h' : i < vs.length), RingS W w0.heap.size x y vs[i] accs[i]
  apart : ∀ c, x.ownBlock = some c → y.ownBlock ≠ some c
theorem RingS.grown {w w' : World} {B : Nat} {x y x' y' v : Value} {ps : List Sp} {k : Option Nat} (h : RingS w B x y v ps) (hg : w.grownBy w' k) (hk : k = none ∨ k = some B ∨ k = x.ownBlock ∨ k = y.ownBlock)
    (hx : ∀ b, b < w.heap.size → x.ownBlock ≠ some b → y.ownBlock ≠ some b → x'.ownBlock ≠ some b ∧ y'.ownBlock ≠ some b) : RingS w' B x' y' v ps := by
  obtain ⟨ga, b, off, cap, h1, h2, h3⟩ := h
  have far : 0 < ps.length → some b ≠ k := fun q => by
    obtain ⟨_, e2, e3, e4, e5⟩ := h2 q
    rcases hk with rfl | rfl | rfl | rfl
    · simp
    · intro e; have := Option.some.inj e; omega
    · exact fun e => e4 e.symm
    · exact fun e => e5 e.symm
  refine ⟨ga, b, off, cap, h1, fun q => ?_, fun k' hk' => ?_⟩
  · obtain ⟨e1, e2, e3, e4, e5⟩ := h2 q
    exact ⟨e1, Nat.lt_of_lt_of_le e2 hg.size, e3, (hx b e2 e4 e5).1, (hx b e2 e4 e5).2⟩
  · have c := h3 k' hk'
    have f := far (by omega)
    exact ⟨hg.cell c.1 f, hg.cell c.2.1 f, hg.cell c.2.2.1 f, hg.cell c.2.2.2 f⟩
theorem ScAt.set {w0 W W' : World} {it : Option Obj} {r r' : RS} {x y : Value} {acc : List Sp} {accs : List (List Sp)} (h : ScAt w0 W it r x y acc accs) (hr : RdAt W' w0.heap.size r' x y) (hg : W.grownBy W' (some w0.heap.size)) : ScAt w0 W' it r' x y acc accs := by
  obtain ⟨vs, e1, e2, e3⟩ := h.rows
  refine ⟨hr, h.low.grown hg h.low.size (fun k hk => by cases hk; exact Nat.le_refl _), (hg.block _ h.more (by simp)).trans h.itr, Nat.lt_of_lt_of_le h.more hg.size, h.row.kept hg (Or.inr (fun e => by have := h.row.lt _ e; omega)), ⟨vs, e1, e2.kept hg (Or.inr (fun e => by have := e2.lt _ e; omega)), fun i hi hi' => (e3 i hi hi').grown hg (Or.inr (Or.inl rfl)) (fun b _ p q => ⟨p, q⟩)⟩, h.apart⟩
theorem ScAt.alloc {w0 W : World} {it : Option Obj} {r : RS} {x y : Value} {acc : List Sp} {accs : List (List Sp)} (h : ScAt w0 W it r x y acc accs) (o : Obj) : ScAt w0 (W.alloc o) it r x y acc accs := by
  obtain ⟨vs, e1, e2, e3⟩ := h.rows
  have hg := gb_alloc W o none
  refine ⟨h.rd.kept hg (by simp), h.low.alloc h.low.size _, (hg.block _ h.more (by simp)).trans h.itr, Nat.lt_of_lt_of_le h.more hg.size, h.row.alloc _, ⟨vs, e1, e2.alloc _, fun i hi hi' => (e3 i hi hi').grown hg (Or.inl rfl) (fun b _ p q => ⟨p, q⟩)⟩, h.apart⟩
theorem ScAt.drew {w0 W : World} {it : Option Obj} {r : RS} {x y : Value} {acc : List Sp} {accs : List (List Sp)} (h : ScAt w0 W it r x y acc accs) : ScAt w0 W.drew it r x y acc accs :=
  h.set h.rd.drew ⟨rfl, rfl, rfl, Nat.le_refl _, fun _ _ _ => rfl⟩
theorem ScAt.push {w0 W W' : World} {it : Option Obj} {r : RS} {x y v' : Value} {acc : List Sp} {accs : List (List Sp)} {p : Sp} {H : Nat} (h : ScAt w0 W it r x y acc accs)
    (hown : W'.ownsRow (w0.heap.size + 2) 199 4 v' (acc.length + 1) (flat4 acc ++ [.int .i64 p.1.1, .int .i64 p.1.2, .int .i64 p.2.1, .int .i64 p.2.2])) (hg : W.grownBy W' x.ownBlock)
    (hob : v'.ownBlock = x.ownBlock ∨ v'.ownBlock = some H) (hH : W.heap.size ≤ H) : ScAt w0 (W'.setCell ⟨w0.heap.size, 7, none⟩ v') it r v' y (acc ++ [p]) accs := by
  obtain ⟨vs, e1, e2, e3⟩ := h.rows
  have hxb : x.ownBlock ≠ some w0.heap.size := fun e => by have := h.row.lt _ e; omega
  have hr := h.rd.kept hg hxb
  have hg2 := gb_set W' w0.heap.size 7 v'
  have far : ∀ c, c < W.heap.size → x.ownBlock ≠ some c → v'.ownBlock ≠ some c := fun c hc hx => by
    rcases hob with e | e
    · rw [e]; exact hx
    · rw [e]; intro e'; have := Option.some.inj e'; omega
  have hlow : Below w0.heap.size w0 W' := h.low.grown hg h.low.size (fun k hk => by have := h.row.lt k hk; omega)
  have r1 : W'.ownsRow (w0.heap.size + 2) 199 4 v' (acc ++ [p]).length (flat4 (acc ++ [p])) := by
    have e : flat4 (acc ++ [p]) = flat4 acc ++ [.int .i64 p.1.1, .int .i64 p.1.2, .int .i64 p.2.1, .int .i64 p.2.2] := by simp [flat4]
    rw [e, List.length_append]; exact hown
  have y1 : W'.ownsRow (w0.heap.size + 2) 200 1 y accs.length vs := e2.kept hg (by
    cases hy : y.ownBlock with
    | none => exact Or.inl rfl
    | some c => exact Or.inr (fun e => h.apart c e.symm hy))
  refine ⟨hr.s7 v', hlow.grown hg2 hlow.size (fun k hk => by cases hk; exact Nat.le_refl _), ?_, ?_, r1.kept hg2 (Or.inr (fun e => by have := r1.lt _ e; omega)), ⟨vs, e1, y1.kept hg2 (Or.inr (fun e => by have := y1.lt _ e; omega)), fun i hi hi' => ?_⟩, ?_⟩
  · rw [hg2.block _ (Nat.lt_of_lt_of_le h.more hg.size) (by simp), hg.block _ h.more (fun e => by have := h.row.lt _ e.symm; omega)]; exact h.itr
  · exact Nat.lt_of_lt_of_le (Nat.lt_of_lt_of_le h.more hg.size) hg2.size
  · have s1 := (e3 i hi hi').grown (x' := v') (y' := y) hg (Or.inr (Or.inr (Or.inl rfl))) (fun b hb p q => ⟨far b hb p, q⟩)
    exact s1.grown hg2 (Or.inr (Or.inl rfl)) (fun b _ p q => ⟨p, q⟩)
  · intro c hc hy
    have hcW : c < W.heap.size := (e2.lt c hy).2
    exact far c hcW (fun e => h.apart c e hy) hc
theorem flat4_at (p : List Sp) (k : Nat) (h : k < p.length) : (flat4 p)[k * 4]? = some (.int .i64 p[k].1.1) ∧ (flat4 p)[k * 4 + 1]? = some (.int .i64 p[k].1.2) ∧ (flat4 p)[k * 4 + 2]? = some (.int .i64 p[k].2.1) ∧ (flat4 p)[k * 4 + 3]? = some (.int .i64 p[k].2.2) := by
  induction p generalizing k with
  | nil => simp at h
  | cons a r ih =>
    cases k with
    | zero => simp [flat4]
    | succ k =>
      have := ih k (by simpa using h)
      have e1 : (k + 1) * 4 = k * 4 + 1 + 1 + 1 + 1 := by omega
      simp only [flat4, List.flatMap_cons] at *
      rw [e1]
      simpa using this
theorem RingS.row {w : World} {B H : Nat} {x' y' v : Value} {t : TypeId} {ps : List Sp} (h : w.ownsRow H t 4 v ps.length (flat4 ps)) (hB : B + 2 ≤ H) (hx : ∀ c, v.ownBlock = some c → x'.ownBlock ≠ some c ∧ y'.ownBlock ≠ some c) : RingS w B x' y' v ps := by
  rcases h.2 with ⟨rfl, h0⟩ | ⟨g, cap, cur, rfl, hHg, hgg, _⟩
  · refine ⟨none, 0, 0, 0, by rw [h0], fun k => absurd k (by omega), fun k hk => absurd hk (by omega)⟩
  · refine ⟨_, g, 0, cap, rfl, fun _ => ⟨rfl, (Array.getElem?_eq_some_iff.1 hgg).1, by omega, (hx g rfl).1, (hx g rfl).2⟩, fun k hk => ?_⟩
    obtain ⟨e1, e2, e3, e4⟩ := flat4_at ps k hk
    simp only [Nat.zero_add]
    exact ⟨(h.cellAt _ (by omega)).trans e1, (h.cellAt _ (by omega)).trans e2, (h.cellAt _ (by omega)).trans e3, (h.cellAt _ (by omega)).trans e4⟩
theorem ScAt.ring {w0 W W' : World} {it : Option Obj} {r : RS} {x y v' : Value} {acc : List Sp} {accs : List (List Sp)} {H : Nat} {vs : List Value} (h : ScAt w0 W it r x y acc accs)
    (e1 : vs.length = accs.length) (e2 : W.ownsRow (w0.heap.size + 2) 200 1 y accs.length vs) (e3 : ∀ i (h : i < accs.length) (h' : i < vs.length), RingS W w0.heap.size x y vs[i] accs[i])
    (hown : W'.ownsRow (w0.heap.size + 2) 200 1 v' (accs.length + 1) (vs ++ [x])) (hg : W.grownBy W' y.ownBlock)
    (hob : v'.ownBlock = y.ownBlock ∨ v'.ownBlock = some H) (hH : W.heap.size ≤ H) : ScAt w0 ((W'.setCell ⟨w0.heap.size, 8, none⟩ v').setCell ⟨w0.heap.size, 7, none⟩ (.slice none 0 0)) it r (.slice none 0 0) v' [] (accs ++ [acc]) := by
  have hyb : y.ownBlock ≠ some w0.heap.size := fun e => by have := e2.lt _ e; omega
  have hr := h.rd.kept hg hyb
  have hg2 : W'.grownBy ((W'.setCell ⟨w0.heap.size, 8, none⟩ v').setCell ⟨w0.heap.size, 7, none⟩ (.slice none 0 0)) (some w0.heap.size) := gb_set2 (gb_set W' w0.heap.size 8 v')
  have far : ∀ c, c < W.heap.size → y.ownBlock ≠ some c → v'.ownBlock ≠ some c := fun c hc hx => by
    rcases hob with e | e
    · rw [e]; exact hx
    · rw [e]; intro e'; have := Option.some.inj e'; omega
  have hlow : Below w0.heap.size w0 W' := h.low.grown hg h.low.size (fun k hk => by have := e2.lt k hk; omega)
  have x1 : W'.ownsRow (w0.heap.size + 2) 199 4 x acc.length (flat4 acc) := h.row.kept hg (by
    cases hy : x.ownBlock with
    | none => exact Or.inl rfl
    | some c => exact Or.inr (fun e => h.apart c hy e.symm))
  have y2 := hown.kept hg2 (Or.inr (fun e => by have := hown.lt _ e; omega))
  have x2 := x1.kept hg2 (Or.inr (fun e => by have := x1.lt _ e; omega))
  refine ⟨(hr.s8 v').s7 _, hlow.grown hg2 hlow.size (fun k hk => by cases hk; exact Nat.le_refl _), ?_, ?_, World.ownsRow_nil _ _ _ _, ⟨vs ++ [x], by simp [e1], by rw [List.length_append]; exact y2, fun i hi hi' => ?_⟩, fun c hc => by cases hc⟩
  · rw [hg2.block _ (Nat.lt_of_lt_of_le h.more hg.size) (by simp), hg.block _ h.more (fun e => by have := e2.lt _ e.symm; omega)]; exact h.itr
  · exact Nat.lt_of_lt_of_le (Nat.lt_of_lt_of_le h.more hg.size) hg2.size
  · have hi2 : i < accs.length + 1 := by simpa using hi
    by_cases hik : i < accs.length
    · have q1 : (vs ++ [x])[i] = vs[i]'(by omega) := List.getElem_append_left (by omega)
      have q2 : (accs ++ [acc])[i] = accs[i] := List.getElem_append_left hik
      rw [q1, q2]
      have s1 := (e3 i hik (by omega)).grown (x' := .slice none 0 0) (y' := v') hg (Or.inr (Or.inr (Or.inr rfl))) (fun b hb p q => ⟨(by intro e; cases e), far b hb q⟩)
      exact s1.grown hg2 (Or.inr (Or.inl rfl)) (fun b _ p q => ⟨p, q⟩)
    · obtain rfl : i = accs.length := by omega
      have q1 : (vs ++ [x])[accs.length] = x := by rw [List.getElem_append_right (by omega)]; simp [e1]
      have q2 : (accs ++ [acc])[accs.length] = acc := by rw [List.getElem_append_right (by omega)]; simp
      rw [q1, q2]
      exact RingS.row x2 (Nat.le_refl _) (fun c hc => ⟨(by intro e; cases e), far c (h.row.lt c hc).2 (h.apart c hc)⟩)
theorem info94 : (Tryz.prog.info? 199).map (fun i => (i.zero, i.size, i.bytes)) = some (some (.agg #[.int .i64 0, .int .i64 0, .int .i64 0, .int .i64 0]), 4, 32) := by kernel_rfl
theorem info95 : (Tryz.prog.info? 200).map (fun i => (i.zero, i.size, i.bytes)) = some (some (.slice none 0 0), 1, 24) := by kernel_rfl
def RS.sp (r : RS) : Sp := ((r.a0, r.v0), (r.a1, r.v1))
set_option maxRecDepth 100000 in
set_option maxHeartbeats 4000000 in
theorem endPoint_any (w0 w : World) (it : Option Obj) (r : RS) (x y : Value) (acc : List Sp) (accs : List (List Sp)) (h : ScAt w0 w it r x y acc accs) (hf : Few r) (hn : acc.length ≤ 1000) :
    Calls Tryz.prog 138 #[.pointer (some ⟨w0.heap.size, 0, none⟩)] w fun e w' => e = .returned (.tuple #[]) ∧ ∃ x', ScAt w0 w' it { r.endN with half := false } x' y (acc ++ [r.endN.sp]) accs := by
  obtain ⟨i0, hi, hz0, hz1, hz2⟩ := info_parts info94
  have k1 := hide (endNumber_any _ r x y w h.rd hf)
  obtain ⟨R, hR⟩ : ∃ R, r.endN = R := ⟨_, rfl⟩
  rw [hR] at k1 ⊢
  go_enter Tryz.func138, Tryz.ntmps138
  go_wp2_with fail
  refine k1.out.mono ?_
  rintro e w1 ⟨rfl, h1, g1⟩
  have s1 := h.set h1 g1
  obtain ⟨c0, c1, c2, c3, c4, c5, c6, c7, c8, f0, f1, f2, f3, f4, f5, f6, f7, f8⟩ := id h1
  have hH := hide s1
  have hrow := s1.row
  have lb := h1.lt
  have lb2 := s1.more
  have hne : x.ownBlock ≠ some w0.heap.size := fun e => by have := hrow.lt _ e; omega
  clear k1 s1
  go_wp2_with fail
  go_region_law
    ((refine step_append_lies _ (by rfl) _ _ _ (by rfl) (w0.heap.size + 2) 199 i0 _ 4 32 Tryz.underlying200 hi hz0 hz1 hz2 rfl (by omega) x acc.length (flat4 acc) (by rfl) ((hrow.alloc _).drew)
        ⟨w1.heap.size, 0, none⟩ 1 1 [.int .i64 R.a0, .int .i64 R.v0, .int .i64 R.a1, .int .i64 R.v1] (by rfl) (by rfl) (World.news_of_block (cs := #[.int .i64 R.a0, .int .i64 R.v0, .int .i64 R.a1, .int .i64 R.v1]) (t := 199) (fr := (0, 0)) (heap_alloc_new w1 _)) (by simp [Value.oneCell'])
        (by omega) (by unfold maxLen; omega) (by omega) (by simp; omega) (w1.heap.size + 1) (by simp) ?_; intro gg cap' w2 hown1 hgrow hat hlt'; have q2 := ((h1.kept (gb_alloc w1 (.cells #[.int .i64 R.a0, .int .i64 R.v0, .int .i64 R.a1, .int .i64 R.v1] 199) none) (by simp)).drew).kept hgrow hne; have q7 := q2.c7; have qf7 := q2.f7))
  all_goals
    have hob : (Value.slice (some ⟨gg, 0, none⟩) (acc.length + 1) cap').ownBlock = x.ownBlock ∨ (Value.slice (some ⟨gg, 0, none⟩) (acc.length + 1) cap').ownBlock = some (w1.heap.size + 1) := by
      rcases hat with e | e
      · exact Or.inl e.symm
      · exact Or.inr (by rw [e]; rfl)
    have s2 := ScAt.push (p := R.sp) ((hH.out.alloc (.cells #[.int .i64 R.a0, .int .i64 R.v0, .int .i64 R.a1, .int .i64 R.v1] 199)).drew) hown1 hgrow hob (by simp)
    clear c0 c1 c2 c3 c4 c5 c6 c7 c8 f0 f1 f2 f3 f4 f5 f6 f7 f8 q2 q7 qf7 hown1 hgrow hob hat hH h1
    obtain ⟨c0, c1, c2, c3, c4, c5, c6, c7, c8, f0, f1, f2, f3, f4, f5, f6, f7, f8⟩ := id s2.rd
    go_wp2
    go_end0
    exact ⟨rfl, _, s2.set (s2.rd.s2 false) (gb_set _ _ _ _)⟩
set_option maxRecDepth 100000 in
set_option maxHeartbeats 4000000 in
theorem endRing_any (w0 w : World) (it : Option Obj) (r : RS) (x y : Value) (acc : List Sp) (accs : List (List Sp)) (h : ScAt w0 w it r x y acc accs) (hf : Few r) (hn : acc.length ≤ 1000) (hm : accs.length ≤ 1000) :
    Calls Tryz.prog 94 #[.pointer (some ⟨w0.heap.size, 0, none⟩)] w fun e w' => e = .returned (.tuple #[]) ∧ ∃ y', ScAt w0 w' it { r.endN with half := false } (.slice none 0 0) y' [] (accs ++ [acc ++ [r.endN.sp]]) := by
  obtain ⟨i0, hi, hz0, hz1, hz2⟩ := info_parts info95
  have k1 := hide (endPoint_any w0 w it r x y acc accs h hf hn)
  obtain ⟨R, hR⟩ : ∃ R : RS, { r.endN with half := false } = R := ⟨_, rfl⟩
  obtain ⟨A, hA⟩ : ∃ A, acc ++ [r.endN.sp] = A := ⟨_, rfl⟩
  rw [hR, hA] at k1 ⊢
  clear h hR hA
  go_enter Tryz.func94, Tryz.ntmps94
  go_wp2_with fail
  refine k1.out.mono ?_
  rintro e w1 ⟨rfl, x1, h1⟩
  obtain ⟨vs, e1, e2, e3⟩ := h1.rows
  have hform : ∃ ga cap, x1 = .slice ga A.length cap := by
    rcases h1.row.2 with ⟨rfl, hh⟩ | ⟨g, cap, cur, rfl, _⟩
    · exact ⟨none, 0, by rw [hh]⟩
    · exact ⟨_, _, rfl⟩
  obtain ⟨ga, cap, rfl⟩ := hform
  obtain ⟨c0, c1, c2, c3, c4, c5, c6, c7, c8, f0, f1, f2, f3, f4, f5, f6, f7, f8⟩ := id h1.rd
  have hH := hide h1
  have He3 := hide e3
  have hrd := h1.rd
  have lb := h1.rd.lt
  have lb2 := h1.more
  have hne : y.ownBlock ≠ some w0.heap.size := fun e => by have := e2.lt _ e; omega
  clear k1 h1 e3
  go_wp2_with fail
  go_region_law
    ((refine step_append_lies _ (by rfl) _ _ _ (by rfl) (w0.heap.size + 2) 200 i0 _ 1 24 Tryz.underlying127 hi hz0 hz1 hz2 rfl (by omega) y accs.length vs (by rfl) ((e2.alloc _).drew)
        ⟨w1.heap.size, 0, none⟩ 1 1 [.slice ga A.length cap] (by rfl) (by rfl) (World.news_of_block (cs := #[.slice ga A.length cap]) (t := 200) (fr := (0, 0)) (heap_alloc_new w1 _)) (by simp [Value.oneCell'])
        (by omega) (by unfold maxLen; omega) (by omega) (by simp; omega) (w1.heap.size + 1) (by simp) ?_; intro gg cap' w2 hown1 hgrow hat hlt'; have q2 := ((hrd.kept (gb_alloc w1 (.cells #[.slice ga A.length cap] 200) none) (by simp)).drew).kept hgrow hne; have q7 := q2.c8; have qf7 := q2.f8))
  all_goals
    have hob : (Value.slice (some ⟨gg, 0, none⟩) (accs.length + 1) cap').ownBlock = y.ownBlock ∨ (Value.slice (some ⟨gg, 0, none⟩) (accs.length + 1) cap').ownBlock = some (w1.heap.size + 1) := by
      rcases hat with e | e
      · exact Or.inl e.symm
      · exact Or.inr (by rw [e]; rfl)
    have hs := (hH.out.alloc (.cells #[.slice ga A.length cap] 200)).drew
    have s2 := ScAt.ring hs e1 ((e2.alloc _).drew) (fun i hi hi' => ((He3.out i hi hi').grown (gb_alloc w1 (.cells #[.slice ga A.length cap] 200) none) (Or.inl rfl) (fun b _ p q => ⟨p, q⟩)).grown (w' := (w1.alloc (.cells #[.slice ga A.length cap] 200)).drew) (k := none) ⟨rfl, rfl, rfl, Nat.le_refl _, fun _ _ _ => rfl⟩ (Or.inl rfl) (fun b _ p q => ⟨p, q⟩)) hown1 hgrow hob (by simp)
    clear c0 c1 c2 c3 c4 c5 c6 c7 c8 f0 f1 f2 f3 f4 f5 f6 f7 f8 q7 qf7 hown1 hgrow hob hat hH hrd hs
    have q3 := q2.s8 (.slice (some ⟨gg, 0, none⟩) (accs.length + 1) cap')
    obtain ⟨c0, c1, c2, c3, c4, c5, c6, c7, c8, f0, f1, f2, f3, f4, f5, f6, f7, f8⟩ := id q3
    go_wp2
    go_end0
    exact ⟨rfl, _, s2⟩
end Go.Proofs.YtkjlkbgdkdcboaaGreatDoor

set_option linter.unusedSimpArgs false
set_option linter.unusedVariables false
namespace Go.Proofs.YtkjlkbgdkdcboaaGreatDoor
open Go.RowKit
attribute [local go_sem ↓] Go.wp_at_zero Go.wp_at_succ
structure PS where
  r : RS
  acc : List Sp
  accs : List (List Sp)
def takeP (s : PS) (a c : Int) : Option PS :=
  if (c = 45 ∨ c = 8722) ∧ s.r.step = 0 then some ⟨s.r.begin a true, s.acc, s.accs⟩
  else if (48 ≤ c ∧ c ≤ 57) ∧ s.r.step ≠ 3 then some ⟨s.r.digit a (c - 48), s.acc, s.accs⟩
  else if c = 44 ∧ mayE s.r false = true then some ⟨{ s.r.endN with half := true }, s.acc, s.accs⟩
  else if c = 32 ∧ mayE s.r true = true then some ⟨{ s.r.endN with half := false }, s.acc ++ [s.r.endN.sp], s.accs⟩
  else if c = 59 ∧ mayE s.r true = true then some ⟨{ s.r.endN with half := false }, [], s.accs ++ [s.acc ++ [s.r.endN.sp]]⟩
  else none
def PSAt (w0 W : World) (it : Option Obj) (s : PS) : Prop := ∃ x y, ScAt w0 W it s.r x y s.acc s.accs
def TakePost (w0 : World) (it : Option Obj) (s : PS) (a c : Int) (w : World) (e : Ending) (w' : World) : Prop :=
  match takeP s a c with
  | none => e = .returned (.bool false) ∧ w' = w
  | some s' => e = .returned (.bool true) ∧ PSAt w0 w' it s'
theorem tp_none {w0 w w' : World} {it : Option Obj} {s : PS} {a c : Int} {e : Ending} (h : takeP s a c = none) (he : e = .returned (.bool false)) (hw : w' = w) : TakePost w0 it s a c w e w' := by
  unfold TakePost; rw [h]; exact ⟨he, hw⟩
theorem tp_some {w0 w w' : World} {it : Option Obj} {s s' : PS} {a c : Int} {e : Ending} (h : takeP s a c = some s') (he : e = .returned (.bool true)) (hw : PSAt w0 w' it s') : TakePost w0 it s a c w e w' := by
  unfold TakePost; rw [h]; exact ⟨he, hw⟩
set_option maxHeartbeats 1000000 in
theorem take_minus (w0 w : World) (it : Option Obj) (s : PS) (a c : Int) (x y : Value) (h : ScAt w0 w it s.r x y s.acc s.accs) (hc : c = 45 ∨ c = 8722) (h0 : s.r.step = 0) :
    Calls Tryz.prog 91 #[.pointer (some ⟨w0.heap.size, 0, none⟩), .int .i64 a, .int .i32 c] w (TakePost w0 it s a c w) := by
  have ht := hide (show takeP s a c = some ⟨s.r.begin a true, s.acc, s.accs⟩ by unfold takeP; rw [if_pos ⟨hc, h0⟩])
  have hp := hide (fun e w' => @tp_some w0 w w' it s _ a c e ht.out)
  have k := hide (begin_any _ s.r x y a true w h.rd)
  have hH := hide h
  obtain ⟨c0, c1, c2, c3, c4, c5, c6, c7, c8, f0, f1, f2, f3, f4, f5, f6, f7, f8⟩ := id h.rd
  rw [h0] at c0
  clear h ht
  rcases hc with rfl | rfl
  · go_enter Tryz.func91, Tryz.ntmps91
    go_wp2_with fail
    refine k.out.mono ?_
    rintro e w1 ⟨rfl, h1, g1⟩
    go_wp2
    go_ret
    exact hp.out _ _ rfl ⟨_, _, hH.out.set h1 g1⟩
  · go_enter Tryz.func91, Tryz.ntmps91
    go_wp2_with fail
    refine k.out.mono ?_
    rintro e w1 ⟨rfl, h1, g1⟩
    go_wp2
    go_ret
    exact hp.out _ _ rfl ⟨_, _, hH.out.set h1 g1⟩
set_option maxHeartbeats 1000000 in
theorem take_minus_no (w0 w : World) (it : Option Obj) (s : PS) (a c : Int) (x y : Value) (h : ScAt w0 w it s.r x y s.acc s.accs) (hc : c = 45 ∨ c = 8722) (h0 : s.r.step ≠ 0) :
    Calls Tryz.prog 91 #[.pointer (some ⟨w0.heap.size, 0, none⟩), .int .i64 a, .int .i32 c] w (TakePost w0 it s a c w) := by
  have ht := hide (show takeP s a c = none by unfold takeP; rw [if_neg (by omega), if_neg (by omega), if_neg (by omega), if_neg (by omega), if_neg (by omega)])
  have hp := hide (fun e w' => @tp_none w0 w w' it s a c e ht.out)
  obtain ⟨c0, c1, c2, c3, c4, c5, c6, c7, c8, f0, f1, f2, f3, f4, f5, f6, f7, f8⟩ := id h.rd
  obtain ⟨st, hst⟩ : ∃ st, s.r.step = st := ⟨_, rfl⟩
  rw [hst] at c0 h0
  have hb : (st == 0) = false := by simpa using h0
  clear h ht hst
  rcases hc with rfl | rfl
  · go_enter Tryz.func91, Tryz.ntmps91
    go_wp2
    go_ret
    exact hp.out _ _ rfl rfl
  · go_enter Tryz.func91, Tryz.ntmps91
    go_wp2
    go_ret
    exact hp.out _ _ rfl rfl
set_option maxHeartbeats 1000000 in
theorem take_digit (w0 w : World) (it : Option Obj) (s : PS) (a c : Int) (x y : Value) (h : ScAt w0 w it s.r x y s.acc s.accs) (hf : Few s.r) (hc : 48 ≤ c ∧ c ≤ 57) (h3 : s.r.step ≠ 3) :
    Calls Tryz.prog 91 #[.pointer (some ⟨w0.heap.size, 0, none⟩), .int .i64 a, .int .i32 c] w (TakePost w0 it s a c w) := by
  have ht := hide (show takeP s a c = some ⟨s.r.digit a (c - 48), s.acc, s.accs⟩ by unfold takeP; rw [if_neg (by omega), if_pos ⟨hc, h3⟩])
  have hp := hide (fun e w' => @tp_some w0 w w' it s _ a c e ht.out)
  have k := hide (digit_any _ s.r x y a (c - 48) w h.rd (by omega) hf)
  have hH := hide h
  obtain ⟨c0, c1, c2, c3, c4, c5, c6, c7, c8, f0, f1, f2, f3, f4, f5, f6, f7, f8⟩ := id h.rd
  obtain ⟨st, hst⟩ : ∃ st, s.r.step = st := ⟨_, rfl⟩
  rw [hst] at c0 h3
  have hb : (st == 3) = false := by simpa using h3
  have n1 : (c == 45) = false := by simp; omega
  have n2 : (c == 8722) = false := by simp; omega
  have n3 : IntKind.i32.wrap (c - 48) = c - 48 := by rw [IntKind.wrap_i32]; omega
  obtain ⟨hc1, hc2⟩ := hc
  clear h ht hst
  go_enter Tryz.func91, Tryz.ntmps91
  go_wp2_with fail
  refine k.out.mono ?_
  rintro e w1 ⟨rfl, h1, g1⟩
  go_wp2
  go_ret
  exact hp.out _ _ rfl ⟨_, _, hH.out.set h1 g1⟩
set_option maxHeartbeats 1000000 in
theorem take_digit_no (w0 w : World) (it : Option Obj) (s : PS) (a c : Int) (x y : Value) (h : ScAt w0 w it s.r x y s.acc s.accs) (hc : 48 ≤ c ∧ c ≤ 57) (h3 : s.r.step = 3) :
    Calls Tryz.prog 91 #[.pointer (some ⟨w0.heap.size, 0, none⟩), .int .i64 a, .int .i32 c] w (TakePost w0 it s a c w) := by
  have ht := hide (show takeP s a c = none by unfold takeP; rw [if_neg (by omega), if_neg (by omega), if_neg (by omega), if_neg (by omega), if_neg (by omega)])
  have hp := hide (fun e w' => @tp_none w0 w w' it s a c e ht.out)
  obtain ⟨c0, c1, c2, c3, c4, c5, c6, c7, c8, f0, f1, f2, f3, f4, f5, f6, f7, f8⟩ := id h.rd
  rw [h3] at c0
  have n1 : (c == 45) = false := by simp; omega
  have n2 : (c == 8722) = false := by simp; omega
  have n4 : (c == 44) = false := by simp; omega
  have n5 : (c == 32) = false := by simp; omega
  have n6 : (c == 59) = false := by simp; omega
  obtain ⟨hc1, hc2⟩ := hc
  clear h ht
  go_enter Tryz.func91, Tryz.ntmps91
  go_wp2
  go_ret
  exact hp.out _ _ rfl rfl
set_option maxHeartbeats 1000000 in
theorem take_other (w0 w : World) (it : Option Obj) (s : PS) (a c : Int) (hc : c ≠ 45 ∧ c ≠ 8722 ∧ ¬ (48 ≤ c ∧ c ≤ 57) ∧ c ≠ 44 ∧ c ≠ 32 ∧ c ≠ 59) :
    Calls Tryz.prog 91 #[.pointer (some ⟨w0.heap.size, 0, none⟩), .int .i64 a, .int .i32 c] w (TakePost w0 it s a c w) := by
  have ht := hide (show takeP s a c = none by unfold takeP; rw [if_neg (by omega), if_neg (by omega), if_neg (by omega), if_neg (by omega), if_neg (by omega)])
  have hp := hide (fun e w' => @tp_none w0 w w' it s a c e ht.out)
  have n1 : (c == 45) = false := by simp; omega
  have n2 : (c == 8722) = false := by simp; omega
  have n4 : (c == 44) = false := by simp; omega
  have n5 : (c == 32) = false := by simp; omega
  have n6 : (c == 59) = false := by simp; omega
  obtain ⟨_, _, hc3, _, _, _⟩ := hc
  by_cases h48 : 48 ≤ c
  · have h57 : ¬ c ≤ 57 := by omega
    go_enter Tryz.func91, Tryz.ntmps91
    go_wp2
    go_ret
    exact hp.out _ _ rfl rfl
  · go_enter Tryz.func91, Tryz.ntmps91
    go_wp2
    go_ret
    exact hp.out _ _ rfl rfl
set_option maxHeartbeats 1000000 in
theorem take_sep_no (w0 w : World) (it : Option Obj) (s : PS) (a c : Int) (x y : Value) (h : ScAt w0 w it s.r x y s.acc s.accs) (hb : Bool) (hc : (c = 44 ∧ hb = false) ∨ (c = 32 ∧ hb = true) ∨ (c = 59 ∧ hb = true)) (hm : mayE s.r hb = false) :
    Calls Tryz.prog 91 #[.pointer (some ⟨w0.heap.size, 0, none⟩), .int .i64 a, .int .i32 c] w (TakePost w0 it s a c w) := by
  have ht := hide (show takeP s a c = none by
    unfold takeP
    rw [if_neg (by omega), if_neg (by omega), if_neg (by rcases hc with ⟨h1, rfl⟩ | ⟨h1, h2⟩ | ⟨h1, h2⟩ <;> first | (rw [hm]; simp) | omega), if_neg (by rcases hc with ⟨h1, rfl⟩ | ⟨h1, rfl⟩ | ⟨h1, h2⟩ <;> first | (rw [hm]; simp; done) | omega), if_neg (by rcases hc with ⟨h1, rfl⟩ | ⟨h1, rfl⟩ | ⟨h1, rfl⟩ <;> first | (rw [hm]; simp; done) | omega)])
  have hp := hide (fun e w' => @tp_none w0 w w' it s a c e ht.out)
  have k := hide (fun W hW => mayEnd_any w0.heap.size s.r x y hb W hW)
  rw [hm] at k
  have hH := hide h
  have hrd := h.rd
  clear h ht hm
  rcases hc with ⟨rfl, rfl⟩ | ⟨rfl, rfl⟩ | ⟨rfl, rfl⟩
  · go_enter Tryz.func91, Tryz.ntmps91
    go_wp2_with fail
    refine (k.out _ hrd).mono ?_
    rintro e w1 ⟨rfl, rfl⟩
    go_wp2
    go_ret
    exact hp.out _ _ rfl rfl
  · go_enter Tryz.func91, Tryz.ntmps91
    go_wp2_with fail
    refine (k.out _ hrd).mono ?_
    rintro e w1 ⟨rfl, rfl⟩
    go_wp2
    go_ret
    exact hp.out _ _ rfl rfl
  · go_enter Tryz.func91, Tryz.ntmps91
    go_wp2_with fail
    refine (k.out _ hrd).mono ?_
    rintro e w1 ⟨rfl, rfl⟩
    go_wp2
    go_ret
    exact hp.out _ _ rfl rfl
set_option maxHeartbeats 1000000 in
theorem take_comma (w0 w : World) (it : Option Obj) (s : PS) (a : Int) (x y : Value) (h : ScAt w0 w it s.r x y s.acc s.accs) (hf : Few s.r) (hm : mayE s.r false = true) :
    Calls Tryz.prog 91 #[.pointer (some ⟨w0.heap.size, 0, none⟩), .int .i64 a, .int .i32 44] w (TakePost w0 it s a 44 w) := by
  have ht := hide (show takeP s a 44 = some ⟨{ s.r.endN with half := true }, s.acc, s.accs⟩ by
    unfold takeP
    rw [if_neg (by omega), if_neg (by omega), if_pos ⟨rfl, hm⟩])
  have hp := hide (fun e w' => @tp_some w0 w w' it s _ a 44 e ht.out)
  have k := hide (mayEnd_any w0.heap.size s.r x y false w h.rd)
  have k2 := hide (endNumber_any _ s.r x y w h.rd hf)
  rw [hm] at k
  have hH := hide h
  clear h ht hm
  go_enter Tryz.func91, Tryz.ntmps91
  go_wp2_with fail
  refine k.out.mono ?_
  rintro e w1 ⟨rfl, rfl⟩
  go_wp2_with fail
  refine k2.out.mono ?_
  rintro e w2 ⟨rfl, h2, g2⟩
  have s2 := hH.out.set h2 g2
  obtain ⟨c0, c1, c2, c3, c4, c5, c6, c7, c8, f0, f1, f2, f3, f4, f5, f6, f7, f8⟩ := id h2
  go_wp2
  go_ret
  exact hp.out _ _ rfl ⟨_, _, s2.set (h2.s2 true) (gb_set _ _ _ _)⟩
set_option maxHeartbeats 1000000 in
theorem take_blank (w0 w : World) (it : Option Obj) (s : PS) (a : Int) (x y : Value) (h : ScAt w0 w it s.r x y s.acc s.accs) (hf : Few s.r) (hn : s.acc.length ≤ 1000) (hm : mayE s.r true = true) :
    Calls Tryz.prog 91 #[.pointer (some ⟨w0.heap.size, 0, none⟩), .int .i64 a, .int .i32 32] w (TakePost w0 it s a 32 w) := by
  have ht := hide (show takeP s a 32 = some ⟨{ s.r.endN with half := false }, s.acc ++ [s.r.endN.sp], s.accs⟩ by
    unfold takeP
    rw [if_neg (by omega), if_neg (by omega), if_neg (by omega), if_pos ⟨rfl, hm⟩])
  have hp := hide (fun e w' => @tp_some w0 w w' it s _ a 32 e ht.out)
  have k := hide (mayEnd_any w0.heap.size s.r x y true w h.rd)
  have k2 := hide (endPoint_any w0 w it s.r x y s.acc s.accs h hf hn)
  rw [hm] at k
  clear h ht hm
  go_enter Tryz.func91, Tryz.ntmps91
  go_wp2_with fail
  refine k.out.mono ?_
  rintro e w1 ⟨rfl, rfl⟩
  go_wp2_with fail
  refine k2.out.mono ?_
  rintro e w2 ⟨rfl, x2, h2⟩
  go_wp2
  go_ret
  exact hp.out _ _ rfl ⟨_, _, h2⟩
set_option maxHeartbeats 1000000 in
theorem take_semi (w0 w : World) (it : Option Obj) (s : PS) (a : Int) (x y : Value) (h : ScAt w0 w it s.r x y s.acc s.accs) (hf : Few s.r) (hn : s.acc.length ≤ 1000) (hn2 : s.accs.length ≤ 1000) (hm : mayE s.r true = true) :
    Calls Tryz.prog 91 #[.pointer (some ⟨w0.heap.size, 0, none⟩), .int .i64 a, .int .i32 59] w (TakePost w0 it s a 59 w) := by
  have ht := hide (show takeP s a 59 = some ⟨{ s.r.endN with half := false }, [], s.accs ++ [s.acc ++ [s.r.endN.sp]]⟩ by
    unfold takeP
    rw [if_neg (by omega), if_neg (by omega), if_neg (by omega), if_neg (by omega), if_pos ⟨rfl, hm⟩])
  have hp := hide (fun e w' => @tp_some w0 w w' it s _ a 59 e ht.out)
  have k := hide (mayEnd_any w0.heap.size s.r x y true w h.rd)
  have k2 := hide (endRing_any w0 w it s.r x y s.acc s.accs h hf hn hn2)
  rw [hm] at k
  clear h ht hm
  go_enter Tryz.func91, Tryz.ntmps91
  go_wp2_with fail
  refine k.out.mono ?_
  rintro e w1 ⟨rfl, rfl⟩
  go_wp2_with fail
  refine k2.out.mono ?_
  rintro e w2 ⟨rfl, x2, h2⟩
  go_wp2
  go_ret
  exact hp.out _ _ rfl ⟨_, _, h2⟩
theorem take_any (w0 w : World) (it : Option Obj) (s : PS) (a c : Int) (h : PSAt w0 w it s) (hf : Few s.r) (hn : s.acc.length ≤ 1000) (hn2 : s.accs.length ≤ 1000) :
    Calls Tryz.prog 91 #[.pointer (some ⟨w0.heap.size, 0, none⟩), .int .i64 a, .int .i32 c] w (TakePost w0 it s a c w) := by
  obtain ⟨x, y, h⟩ := h
  by_cases h1 : c = 45 ∨ c = 8722
  · by_cases h0 : s.r.step = 0
    · exact take_minus w0 w it s a c x y h h1 h0
    · exact take_minus_no w0 w it s a c x y h h1 h0
  · by_cases h2 : 48 ≤ c ∧ c ≤ 57
    · by_cases h3 : s.r.step = 3
      · exact take_digit_no w0 w it s a c x y h h2 h3
      · exact take_digit w0 w it s a c x y h hf h2 h3
    · by_cases h44 : c = 44
      · subst h44
        cases hm : mayE s.r false with
        | false => exact take_sep_no w0 w it s a 44 x y h false (Or.inl ⟨rfl, rfl⟩) hm
        | true => exact take_comma w0 w it s a x y h hf hm
      · by_cases h32 : c = 32
        · subst h32
          cases hm : mayE s.r true with
          | false => exact take_sep_no w0 w it s a 32 x y h true (Or.inr (Or.inl ⟨rfl, rfl⟩)) hm
          | true => exact take_blank w0 w it s a x y h hf hn hm
        · by_cases h59 : c = 59
          · subst h59
            cases hm : mayE s.r true with
            | false => exact take_sep_no w0 w it s a 59 x y h true (Or.inr (Or.inr ⟨rfl, rfl⟩)) hm
            | true => exact take_semi w0 w it s a x y h hf hn hn2 hm
          · exact take_other w0 w it s a c ⟨by omega, by omega, h2, h44, h32, h59⟩
end Go.Proofs.YtkjlkbgdkdcboaaGreatDoor
namespace Go.Proofs.YtkjlkbgdkdcboaaGreatDoor
open Go.RowKit
attribute [local go_sem ↓] Go.wp_at_zero Go.wp_at_succ
def lm : Nat → Int | 0 => 226 | 1 => 136 | _ => 146
def bgF (t : ByteArray) : Nat → Nat → Nat
  | 0, k => k
  | f + 1, k => if bt t k = lm k then bgF t f (k + 1) else k
def bgP (st : Int) (t : ByteArray) : Int := if st = 0 then (bgF t 3 0 : Nat) else 0
theorem bgF_no {t : ByteArray} {f k : Nat} (h : bt t k ≠ lm k) : bgF t f k = k := by
  cases f with
  | zero => rfl
  | succ f => rw [bgF, if_neg h]
set_option maxHeartbeats 2000000 in
theorem begun_any (b : Nat) (r : RS) (x y : Value) (t : ByteArray) (w : World) (hr : RdAt w b r x y) :
    Calls Tryz.prog 92 #[.pointer (some ⟨b, 0, none⟩), .string t] w fun e w' => e = .returned (.int .i64 (bgP r.step t)) ∧ Below w.heap.size w w' := by
  obtain ⟨c0, c1, c2, c3, c4, c5, c6, c7, c8, f0, f1, f2, f3, f4, f5, f6, f7, f8⟩ := id hr
  obtain ⟨st, hst⟩ : ∃ st, r.step = st := ⟨_, rfl⟩
  rw [hst] at c0 ⊢
  clear hr hst
  by_cases h0 : st = 0
  · subst h0
    have hP : bgP 0 t = (bgF t 3 0 : Nat) := if_pos rfl
    rw [hP]
    obtain ⟨M, hM⟩ : ∃ M, bgF t 3 0 = M := ⟨_, rfl⟩
    rw [hM]
    have HM := hide hM
    clear hM hP
    go_enter Tryz.func92, Tryz.ntmps92
    go_wp2
    go_loopw [5] (fun n wr => ∃ k : Nat, n = .int .i64 k ∧ k ≤ 3 ∧ Hid (bgF t (3 - k) k = M ∧ Below w.heap.size w wr)) (fun n _ => 3 - (intOf n).toNat)
    case atStart => exact ⟨0, rfl, by omega, HM.out, Below.refl _ _⟩
    case round =>
      obtain ⟨k, rfl, hk, hr⟩ := hrel
      obtain ⟨hF, hw⟩ := hr.out
      clear hr
      by_cases h3 : k = 3
      · subst h3
        have e : M = 3 := hF.symm
        subst e
        go_wp2
        go_quiet (fail)
        go_wp2
        go_ret
        exact ⟨rfl, below_drewN hw _⟩
      · by_cases hlt : k < t.size
        · have ht := bt_in hlt
          have hlt3 : (k : Int) < (t.size : Int) := by omega
          have g1 : decide ((k : Int) < 3) = true := decide_eq_true (by omega)
          have g2 : decide ((k : Int) < (t.size : Int)) = true := decide_eq_true (by omega)
          by_cases hb : bt t k = lm k
          · have hn : bgF t (3 - (k + 1)) (k + 1) = M := by
              have e : 3 - k = (3 - (k + 1)) + 1 := by omega
              rw [e, bgF, if_pos hb] at hF
              exact hF
            have Hn := hide hn
            rw [ht] at hb
            clear hF hn ht
            rcases (show k = 0 ∨ k = 1 ∨ k = 2 by omega) with rfl | rfl | rfl
            · simp only [lm] at hb
              go_wp2
              go_quiet (fail)
              go_wp2
              exact ⟨⟨1, rfl, by omega, Hn.out, below_drewN hw _⟩, by simp [intOf]⟩
            · simp only [lm] at hb
              have z1 : (1 : Int) < (t.size : Int) := by omega
              have z2 : decide ((1 : Int) < (t.size : Int)) = true := decide_eq_true z1
              have z3 : decide (1 < t.size) = true := decide_eq_true (by omega)
              go_wp2
              go_quiet (fail)
              go_wp2
              exact ⟨⟨2, rfl, by omega, Hn.out, below_drewN hw _⟩, by simp [intOf]⟩
            · simp only [lm] at hb
              have z1 : (2 : Int) < (t.size : Int) := by omega
              have z2 : decide ((2 : Int) < (t.size : Int)) = true := decide_eq_true z1
              have z3 : decide (2 < t.size) = true := decide_eq_true (by omega)
              go_wp2
              go_quiet (fail)
              go_wp2
              exact ⟨⟨3, rfl, by omega, Hn.out, below_drewN hw _⟩, by simp [intOf]⟩
          · have hMk : M = k := by rw [← hF]; exact bgF_no hb
            subst hMk
            have hbf : ((t[M].toNat : Int) == lm M) = false := by rw [← ht]; simpa using hb
            clear hF ht hb
            rcases (show M = 0 ∨ M = 1 ∨ M = 2 by omega) with rfl | rfl | rfl
            · simp only [lm] at hbf
              have hbg : ((t[0].toNat : Int) == ((({ data := #[226, 136, 146] } : ByteArray)[0]'(by decide)).toNat : Int)) = false := hbf
              clear hbf
              go_wp2
              go_quiet (fail)
              go_wp2
              go_ret
              exact ⟨rfl, below_drewN hw _⟩
            · simp only [lm] at hbf
              have hbg : ((t[1].toNat : Int) == ((({ data := #[226, 136, 146] } : ByteArray)[1]'(by decide)).toNat : Int)) = false := hbf
              clear hbf
              have z1 : (1 : Int) < (t.size : Int) := by omega
              have z2 : decide ((1 : Int) < (t.size : Int)) = true := decide_eq_true z1
              have z3 : decide (1 < t.size) = true := decide_eq_true (by omega)
              go_wp2
              go_quiet (fail)
              go_wp2
              go_ret
              exact ⟨rfl, below_drewN hw _⟩
            · simp only [lm] at hbf
              have hbg : ((t[2].toNat : Int) == ((({ data := #[226, 136, 146] } : ByteArray)[2]'(by decide)).toNat : Int)) = false := hbf
              clear hbf
              have z1 : (2 : Int) < (t.size : Int) := by omega
              have z2 : decide ((2 : Int) < (t.size : Int)) = true := decide_eq_true z1
              have z3 : decide (2 < t.size) = true := decide_eq_true (by omega)
              go_wp2
              go_quiet (fail)
              go_wp2
              go_ret
              exact ⟨rfl, below_drewN hw _⟩
        · have hMk : M = k := by
            rw [← hF]
            refine bgF_no ?_
            rw [bt_out hlt]
            rcases (show k = 0 ∨ k = 1 ∨ k = 2 by omega) with rfl | rfl | rfl <;> decide
          subst hMk
          have g1 : decide ((M : Int) < 3) = true := decide_eq_true (by omega)
          have g2 : decide ((M : Int) < (t.size : Int)) = false := decide_eq_false (by omega)
          have g3 : decide (M < t.size) = false := decide_eq_false (by omega)
          clear hF
          go_wp2
          go_quiet (fail)
          go_wp2
          go_ret
          exact ⟨rfl, below_drewN hw _⟩
  · have hP : bgP st t = 0 := if_neg h0
    rw [hP]
    have h0b : (st == 0) = false := by simpa using h0
    go_enter Tryz.func92, Tryz.ntmps92
    go_wp2
    go_ret
    exact ⟨rfl, Below.refl _ _⟩
def init : PS := ⟨⟨0, false, false, 0, 0, 0, 0⟩, [], []⟩
def scanF (s : ByteArray) : Nat → Nat → PS → Option PS × Int
  | 0, _, st => (some st, 0)
  | f + 1, pos, st =>
    if pos < s.size then
      match takeP st pos (Utf8.decode s pos).1 with
      | none => (none, (pos : Int) + bgP st.r.step (s.extract pos s.size))
      | some st' => scanF s f (pos + (Utf8.decode s pos).2) st'
    else (some st, 0)
def cur (r : RS) : Int := match r.half with | false => r.v0 | true => r.v1
structure Inv (r : RS) : Prop where
  s0 : 0 ≤ r.step ∧ r.step ≤ 3
  b0 : -99 ≤ r.v0 ∧ r.v0 ≤ 99
  b1 : -99 ≤ r.v1 ∧ r.v1 ≤ 99
  d1 : r.step = 1 → cur r = 0
  d2 : r.step = 2 → 0 ≤ cur r ∧ cur r ≤ 9
theorem Inv.few {r : RS} (h : Inv r) : Few r := by
  obtain ⟨h1, h2, h3, _, _⟩ := h
  exact ⟨by omega, by omega, h1.1, h1.2⟩
theorem Inv.take {s s' : PS} {a c : Int} (h : Inv s.r) (ht : takeP s a c = some s') : Inv s'.r := by
  obtain ⟨⟨st, mi, ha, a0, v0, a1, v1⟩, acc, accs⟩ := s
  obtain ⟨h1, h2, h3, h4, h5⟩ := h
  dsimp only at *
  unfold takeP at ht
  dsimp only at ht
  split at ht
  · obtain rfl := Option.some.inj ht
    cases ha <;> (constructor <;> simp_all [RS.begin, cur])
  · split at ht
    · rename_i hd
      obtain rfl := Option.some.inj ht
      simp only [RS.digit]
      by_cases h0 : st = 0
      · subst h0
        cases ha <;> (constructor <;> simp_all [RS.begin, RS.more, cur] <;> omega)
      · have e : (st = 1 ∨ st = 2) := by omega
        rcases e with rfl | rfl
        · cases ha <;> (constructor <;> simp_all [RS.more, cur] <;> omega)
        · cases ha <;> (constructor <;> simp_all [RS.more, cur] <;> omega)
    · split at ht
      · obtain rfl := Option.some.inj ht
        cases ha <;> cases mi <;> (constructor <;> simp_all [RS.endN, cur] <;> omega)
      · split at ht
        · obtain rfl := Option.some.inj ht
          cases ha <;> cases mi <;> (constructor <;> simp_all [RS.endN, cur] <;> omega)
        · split at ht
          · obtain rfl := Option.some.inj ht
            cases ha <;> cases mi <;> (constructor <;> simp_all [RS.endN, cur] <;> omega)
          · cases ht
theorem take_len {s s' : PS} {a c : Int} (ht : takeP s a c = some s') : s'.acc.length ≤ s.acc.length + 1 ∧ s'.accs.length ≤ s.accs.length + 1 := by
  unfold takeP at ht
  split at ht
  · obtain rfl := Option.some.inj ht; simp
  · split at ht
    · obtain rfl := Option.some.inj ht; simp
    · split at ht
      · obtain rfl := Option.some.inj ht; simp
      · split at ht
        · obtain rfl := Option.some.inj ht; simp
        · split at ht
          · obtain rfl := Option.some.inj ht; simp
          · cases ht
end Go.Proofs.YtkjlkbgdkdcboaaGreatDoor
namespace Go.Proofs.YtkjlkbgdkdcboaaGreatDoor
open Go.RowKit
attribute [local go_sem ↓] Go.wp_at_zero Go.wp_at_succ
theorem ScAt.iter {w0 W : World} {s : ByteArray} {pos : Nat} {r : RS} {x y : Value} {acc : List Sp} {accs : List (List Sp)} (h : ScAt w0 W (some (.stringIter s pos)) r x y acc accs) (p : Nat) : ScAt w0 (W.iterAt (w0.heap.size + 1) s p) (some (.stringIter s p)) r x y acc accs := by
  have hg : W.grownBy (W.iterAt (w0.heap.size + 1) s p) (some (w0.heap.size + 1)) :=
    ⟨rfl, rfl, rfl, by rw [Lib.iterAt_size]; exact Nat.le_refl _, fun k _ hne => Lib.iterAt_other _ _ _ _ _ (fun e => hne (by rw [e]))⟩
  obtain ⟨vs, e1, e2, e3⟩ := h.rows
  refine ⟨h.rd.kept hg (by simp), h.low.grown hg h.low.size (fun k hk => by cases hk; omega), Lib.iterAt_heap _ _ _ _ _ h.itr, by rw [Lib.iterAt_size]; exact h.more, h.row.kept hg (Or.inr (fun e => by have := h.row.lt _ e; omega)), ⟨vs, e1, e2.kept hg (Or.inr (fun e => by have := e2.lt _ e; omega)), fun i hi hi' => ?_⟩, h.apart⟩
  obtain ⟨ga, b, off, cap, h1, h2, h3⟩ := e3 i hi hi'
  refine ⟨ga, b, off, cap, h1, fun q => ?_, fun k hk => ?_⟩
  · obtain ⟨q1, q2, q3, q4, q5⟩ := h2 q
    exact ⟨q1, by rw [Lib.iterAt_size]; exact q2, q3, q4, q5⟩
  · obtain ⟨q1, q2, q3, q4, q5⟩ := h2 (by omega)
    have c := h3 k hk
    have f : some b ≠ some (w0.heap.size + 1) := by intro e; have := Option.some.inj e; omega
    exact ⟨hg.cell c.1 f, hg.cell c.2.1 f, hg.cell c.2.2.1 f, hg.cell c.2.2.2 f⟩
theorem ScAt.start (w : World) (s : ByteArray) : ScAt w ((w.alloc (.cells #[.int .i64 0, .bool false, .int .i64 0, .int .i64 0, .int .i64 0, .int .i64 0, .int .i64 0, .slice none 0 0, .slice none 0 0] 202)).iter s 0) (some (.stringIter s 0)) init.r (.slice none 0 0) (.slice none 0 0) [] [] := by
  have hg : (w.alloc (.cells #[.int .i64 0, .bool false, .int .i64 0, .int .i64 0, .int .i64 0, .int .i64 0, .int .i64 0, .slice none 0 0, .slice none 0 0] 202)).grownBy ((w.alloc (.cells #[.int .i64 0, .bool false, .int .i64 0, .int .i64 0, .int .i64 0, .int .i64 0, .int .i64 0, .slice none 0 0, .slice none 0 0] 202)).iter s 0) none := gb_alloc _ (.stringIter s 0) none
  have h0 : RdAt (w.alloc (.cells #[.int .i64 0, .bool false, .int .i64 0, .int .i64 0, .int .i64 0, .int .i64 0, .int .i64 0, .slice none 0 0, .slice none 0 0] 202)) w.heap.size init.r (.slice none 0 0) (.slice none 0 0) := by
    constructor <;> simp [go_sem, init, hI]
  refine ⟨h0.kept hg (by simp), ?_, ?_, ?_, World.ownsRow_nil _ _ _ _, ⟨[], rfl, World.ownsRow_nil _ _ _ _, fun i h => by simp at h⟩, fun c hc => by cases hc⟩
  · exact ((Below.refl _ w).alloc (Nat.le_refl _) _).alloc (by simp) (.stringIter s 0)
  · have := World.iter_heap (w.alloc (.cells #[.int .i64 0, .bool false, .int .i64 0, .int .i64 0, .int .i64 0, .int .i64 0, .int .i64 0, .slice none 0 0, .slice none 0 0] 202)) s 0
    simpa using this
  · have : w.heap.size + 1 < ((w.alloc (.cells #[.int .i64 0, .bool false, .int .i64 0, .int .i64 0, .int .i64 0, .int .i64 0, .int .i64 0, .slice none 0 0, .slice none 0 0] 202)).alloc (.stringIter s 0)).heap.size := by simp
    exact this
def finP (s : ByteArray) (F : Option PS × Int) : Option (List (List Sp)) × Int :=
  match F.1 with
  | none => (none, F.2)
  | some st => if mayE st.r true = true then (some (st.accs ++ [st.acc ++ [st.r.endN.sp]]), 0) else (none, s.size)
def scanP (s : ByteArray) : Option (List (List Sp)) × Int := if s.size = 0 then (some [], 0) else finP s (scanF s s.size 0 init)
def RingSp (w : World) (u : Value) (ps : List Sp) : Prop :=
  ∃ ga b off cap, u = .slice ga ps.length cap ∧ (0 < ps.length → ga = some ⟨b, off, none⟩ ∧ b < w.heap.size) ∧ SpsAt w b off ps
def RSpots (w : World) (v : Value) (R : List (List Sp)) : Prop :=
  ∃ ga b off cap, v = .slice ga R.length cap ∧ (0 < R.length → ga = some ⟨b, off, none⟩) ∧ ∀ i (h : i < R.length), ∃ u, w.cell? ⟨b, off + i, none⟩ = some u ∧ RingSp w u R[i]
theorem ScAt.spots {w0 W : World} {it : Option Obj} {r : RS} {x y : Value} {acc : List Sp} {accs : List (List Sp)} (h : ScAt w0 W it r x y acc accs) : RSpots W y accs := by
  obtain ⟨vs, h1, h2, h3⟩ := h.rows
  rcases h2.2 with ⟨rfl, h0⟩ | ⟨g, cap, cur, rfl, _⟩
  · exact ⟨none, 0, 0, 0, by rw [h0], fun k => absurd k (by omega), fun i hi => absurd hi (by omega)⟩
  · refine ⟨_, g, 0, cap, rfl, fun _ => rfl, fun i hi => ⟨vs[i], ?_, ?_⟩⟩
    · rw [Nat.zero_add]
      exact (h2.cellAt i (by omega)).trans (List.getElem?_eq_getElem (by omega))
    · obtain ⟨ga, b, off, cap, q1, q2, q3⟩ := h3 i hi (by omega)
      exact ⟨ga, b, off, cap, q1, fun k => ⟨(q2 k).1, (q2 k).2.1⟩, q3⟩
theorem bgF_bd (t : ByteArray) (f k : Nat) : k ≤ bgF t f k ∧ bgF t f k ≤ k + f := by
  induction f generalizing k with
  | zero => simp [bgF]
  | succ f ih =>
    rw [bgF]
    split
    · have := ih (k + 1); omega
    · omega
theorem bgP_bd (st : Int) (t : ByteArray) : 0 ≤ bgP st t ∧ bgP st t ≤ 3 := by
  unfold bgP
  have := bgF_bd t 3 0
  split <;> omega
theorem scanF_end (s : ByteArray) (f pos : Nat) (st : PS) (h : ¬ pos < s.size) : scanF s f pos st = (some st, 0) := by
  cases f with
  | zero => rfl
  | succ f => rw [scanF, if_neg h]
def ScanPost (s : ByteArray) (w : World) (e : Ending) (w' : World) : Prop :=
  ∃ v, e = .returned (.tuple #[v, .int .i64 (scanP s).2, .bool (scanP s).1.isSome]) ∧ Below w.heap.size w w' ∧ ∀ R, (scanP s).1 = some R → RSpots w' v R
theorem wd_pos (s : ByteArray) (pos : Nat) (h : pos < s.size) : 1 ≤ (Utf8.decode s pos).2 := by
  by_cases ha : (s[pos]'h).toNat < 128
  · rw [decode_ascii s pos h ha]
    exact Nat.le_refl _
  · exact (decode_high s pos h (by omega)).2
set_option maxRecDepth 100000 in
set_option maxHeartbeats 4000000 in
theorem scan_some (s : ByteArray) (w : World) (hs : s.size ≤ 200) (h0 : s.size ≠ 0) (hemp : s.toList.isEmpty = false) :
    Calls Tryz.prog 50 #[.string s] w (ScanPost s w) := by
  have S0 := hide (ScAt.start w s)
  obtain ⟨F, hF⟩ : ∃ F, scanF s s.size 0 init = F := ⟨_, rfl⟩
  have HP := hide (show scanP s = finP s F by rw [scanP, if_neg h0, hF])
  have HF := hide hF
  clear hF
  go_enter Tryz.func50, Tryz.ntmps50
  go_wp2
  go_loopw [6, 7] (fun a c wr => ∃ (pos fuel : Nat) (st : PS), Hid (PSAt w wr (some (.stringIter s pos)) st ∧ scanF s fuel pos st = F ∧ Inv st.r ∧ s.size ≤ pos + fuel ∧ st.acc.length + fuel ≤ s.size ∧ st.accs.length + fuel ≤ s.size)) (fun _ _ wr => s.size - wr.iterPos (w.heap.size + 1))
  case atStart =>
    refine ⟨0, s.size, init, ⟨_, _, S0.out⟩, HF.out, ?_, by omega, by simp [init], by simp [init]⟩
    constructor <;> simp [init, cur]
  case round =>
    obtain ⟨pos, fuel, st, hr⟩ := hrel
    obtain ⟨⟨x, y, hsc⟩, hFe, hinv, hfu, hl1, hl2⟩ := hr.out
    have hit := hsc.itr
    clear hr S0
    by_cases hp : pos < s.size
    · obtain ⟨f, rfl⟩ : ∃ f, fuel = f + 1 := ⟨fuel - 1, by omega⟩
      have hnx : ∀ ty, (Instr.next (.pointer (some ⟨w.heap.size + 1, 0, none⟩)) true ty).run Tryz.prog wr = _ := fun ty => Lib.run_next_any_at wr (w.heap.size + 1) s pos ty hit hp
      have hwd := wd_pos s pos hp
      have s2 := hsc.iter (pos + (Utf8.decode s pos).2)
      rw [scanF, if_pos hp] at hFe
      have kt := take_any w _ _ st (pos : Int) ((Utf8.decode s pos).1 : Int) ⟨_, _, s2⟩ hinv.few (by omega) (by omega)
      cases hT : takeP st pos (Utf8.decode s pos).1 with
      | none =>
        have hpost : ∀ e w', TakePost w (some (.stringIter s (pos + (Utf8.decode s pos).2))) st pos (Utf8.decode s pos).1 (wr.iterAt (w.heap.size + 1) s (pos + (Utf8.decode s pos).2)) e w' → e = .returned (.bool false) ∧ w' = wr.iterAt (w.heap.size + 1) s (pos + (Utf8.decode s pos).2) := fun e w' h => by
          unfold TakePost at h; rw [hT] at h; exact h
        rw [hT] at hFe
        have Kt := hide (kt.mono hpost)
        have Ks := hide s2
        have HFe := hide hFe
        have kb := hide (begun_any w.heap.size st.r x y (s.extract pos s.size) _ s2.rd)
        have hlow := s2.low
        clear kt hpost hsc hit s2 hFe
        have hp1 : (pos : Int) ≤ (s.size : Int) := by omega
        go_wp2_with fail
        refine Kt.out.mono ?_
        rintro e w1 ⟨rfl, rfl⟩
        go_wp2_with fail
        refine kb.out.mono ?_
        rintro e w2 ⟨rfl, hb2⟩
        have hbg := bgP_bd st.r.step (s.extract pos s.size)
        generalize bgP st.r.step (s.extract pos s.size) = bg at *
        go_wp2
        refine bodyPost_ret (v := .tuple #[.slice none 0 0, .int .i64 ((pos : Int) + bg), .bool false]) (by simp [results, Tryz.results50, go_sem]) rfl ⟨.slice none 0 0, ?_, below_call hb2 hlow, ?_⟩
        · rw [HP.out, ← HFe.out]; rfl
        · rw [HP.out, ← HFe.out]; intro R hR; cases hR
      | some st' =>
        have hpost : ∀ e w', TakePost w (some (.stringIter s (pos + (Utf8.decode s pos).2))) st pos (Utf8.decode s pos).1 (wr.iterAt (w.heap.size + 1) s (pos + (Utf8.decode s pos).2)) e w' → e = .returned (.bool true) ∧ PSAt w w' (some (.stringIter s (pos + (Utf8.decode s pos).2))) st' := fun e w' h => by
          unfold TakePost at h; rw [hT] at h; exact h
        rw [hT] at hFe
        have Kt := hide (kt.mono hpost)
        have HFe := hide hFe
        have Hinv := hide (hinv.take hT)
        obtain ⟨hl3, hl4⟩ := take_len hT
        have Hit := hide hit
        have Hm := hide (show wr.iterPos (w.heap.size + 1) = pos by simp only [World.iterPos, hit])
        clear kt hpost hsc s2 hFe hT
        go_wp2_with fail
        refine Kt.out.mono ?_
        rintro e w1 ⟨rfl, x1, y1, h1⟩
        have h1i := hide h1.itr
        have H1 := hide h1
        clear h1
        go_wp2
        go_roundw
        case rel => exact ⟨pos + (Utf8.decode s pos).2, f, st', ⟨_, _, H1.out⟩, HFe.out, Hinv.out, by omega, by omega, by omega⟩
        case measure =>
          have e1 : w1.iterPos (w.heap.size + 1) = pos + (Utf8.decode s pos).2 := by simp only [World.iterPos, h1i.out]
          have e2 := Hm.out
          omega
    · have hnx : ∀ ty, (Instr.next (.pointer (some ⟨w.heap.size + 1, 0, none⟩)) true ty).run Tryz.prog wr = _ := fun ty => Lib.run_next_end_at wr (w.heap.size + 1) s pos ty hit hp
      rw [scanF_end s fuel pos st hp] at hFe
      have HFe := hide hFe
      have km := mayEnd_any w.heap.size st.r x y true wr hsc.rd
      have ke := hide (endRing_any w wr _ st.r x y st.acc st.accs hsc hinv.few (by omega) (by omega))
      have hlow := hsc.low
      cases hm : mayE st.r true with
      | false =>
        rw [hm] at km
        have Km := hide km
        have HR := hide (show finP s F = (none, (s.size : Int)) by rw [← HFe.out]; simp [finP, hm])
        clear km hm hsc ke hFe
        go_wp2_with fail
        refine Km.out.mono ?_
        rintro e w1 ⟨rfl, rfl⟩
        go_wp2
        refine bodyPost_ret (v := .tuple #[.slice none 0 0, .int .i64 (s.size : Int), .bool false]) (by simp [results, Tryz.results50, go_sem]) rfl ⟨.slice none 0 0, ?_, hlow, ?_⟩
        · rw [HP.out, HR.out]; rfl
        · rw [HP.out, HR.out]; intro R hR; cases hR
      | true =>
        rw [hm] at km
        have Km := hide km
        have HR := hide (show finP s F = (some (st.accs ++ [st.acc ++ [st.r.endN.sp]]), 0) by rw [← HFe.out]; simp [finP, hm])
        clear km hm hsc hFe
        go_wp2_with fail
        refine Km.out.mono ?_
        rintro e w1 ⟨rfl, rfl⟩
        go_wp2_with fail
        refine ke.out.mono ?_
        rintro e w2 ⟨rfl, y2, h2⟩
        have hsp := h2.spots
        have hform : ∃ ga cap, y2 = .slice ga (st.accs ++ [st.acc ++ [st.r.endN.sp]]).length cap := by
          obtain ⟨ga, b, off, cap, rfl, _⟩ := hsp
          exact ⟨_, _, rfl⟩
        obtain ⟨ga, cap, rfl⟩ := hform
        have c8 := h2.rd.c8
        have hlow2 := h2.low
        have Hsp := hide hsp
        clear hsp h2 ke Km
        go_wp2
        refine bodyPost_ret (v := .tuple #[.slice ga (st.accs ++ [st.acc ++ [st.r.endN.sp]]).length cap, .int .i64 0, .bool true]) (by simp [results, Tryz.results50, go_sem]) rfl ⟨.slice ga (st.accs ++ [st.acc ++ [st.r.endN.sp]]).length cap, ?_, hlow2, ?_⟩
        · rw [HP.out, HR.out]; rfl
        · rw [HP.out, HR.out]; intro R hR
          obtain rfl := Option.some.inj hR
          exact Hsp.out
set_option maxRecDepth 100000 in
set_option maxHeartbeats 400000 in
theorem scan_none (s : ByteArray) (w : World) (h0 : s.size = 0) (hemp : s.toList.isEmpty = true) :
    Calls Tryz.prog 50 #[.string s] w (ScanPost s w) := by
  have HP := hide (show scanP s = (some [], 0) by rw [scanP, if_pos h0])
  go_enter Tryz.func50, Tryz.ntmps50
  go_wp2
  refine bodyPost_ret (v := .tuple #[.slice none 0 0, .int .i64 0, .bool true]) (by simp [results, Tryz.results50, go_sem]) rfl ⟨.slice none 0 0, ?_, (Below.refl _ _).alloc (Nat.le_refl _) _, ?_⟩
  · rw [HP.out]; rfl
  · rw [HP.out]; intro R hR
    obtain rfl := Option.some.inj hR
    exact ⟨none, 0, 0, 0, rfl, fun k => absurd k (by simp), fun i hi => absurd hi (by simp)⟩
theorem scan_any (s : ByteArray) (w : World) (hs : s.size ≤ 200) : Calls Tryz.prog 50 #[.string s] w (ScanPost s w) := by
  have he : s.toList.isEmpty = decide (s.size = 0) := by
    rw [ByteArray.toList_eq]
    have : s.data.toList.length = s.size := Array.length_toList
    cases hl : s.data.toList with
    | nil => rw [hl] at this; simp at this; simp [← this]
    | cons a r =>
      rw [hl] at this
      have h1 : ¬ s.size = 0 := by simp at this; omega
      rw [decide_eq_false h1]
      rfl
  by_cases h0 : s.size = 0
  · exact scan_none s w h0 (by rw [he]; simp [h0])
  · exact scan_some s w hs h0 (by rw [he]; simp [h0])
end Go.Proofs.YtkjlkbgdkdcboaaGreatDoor
