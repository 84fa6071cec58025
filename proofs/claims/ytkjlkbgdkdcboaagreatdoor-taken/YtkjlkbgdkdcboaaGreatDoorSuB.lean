import Derived.Test.YtkjlkbgdkdcboaaGreatDoorMaB
import Derived.Test.YtkjlkbgdkdcboaaGreatDoorGyA
import Derived.Test.YtkjlkbgdkdcboaaGreatDoorPaA

set_option linter.unusedSimpArgs false
set_option linter.unusedVariables false

set_option linter.unusedSimpArgs false
set_option linter.unusedVariables false

namespace Go.Proofs.YtkjlkbgdkdcboaaGreatDoor

/-- a sum over the keys that have come -/
def sumT (ks : List (Acre.Ed × Acre.Ed)) (T : Acre.Ed × Acre.Ed → Int) (c : Acre.Ed × Acre.Ed → Bool) : Int := (ks.map (fun b => if c b = true then T b else 0)).sum
theorem sumT_nil (T : Acre.Ed × Acre.Ed → Int) (c : Acre.Ed × Acre.Ed → Bool) : sumT [] T c = 0 := rfl
theorem sumT_cons (b : Acre.Ed × Acre.Ed) (ks : List (Acre.Ed × Acre.Ed)) (T : Acre.Ed × Acre.Ed → Int) (c : Acre.Ed × Acre.Ed → Bool) : sumT (b :: ks) T c = (if c b = true then T b else 0) + sumT ks T c := by
  unfold sumT; rw [List.map_cons, List.sum_cons]
theorem sumT_snoc (ks : List (Acre.Ed × Acre.Ed)) (b : Acre.Ed × Acre.Ed) (T : Acre.Ed × Acre.Ed → Int) (c : Acre.Ed × Acre.Ed → Bool) : sumT (ks ++ [b]) T c = sumT ks T c + if c b = true then T b else 0 := by
  unfold sumT; rw [List.map_append, List.sum_append]; simp
theorem sumT_add (T S : Acre.Ed × Acre.Ed → Int) (c : Acre.Ed × Acre.Ed → Bool) : ∀ ks, sumT ks (fun b => T b + S b) c = sumT ks T c + sumT ks S c
  | [] => rfl
  | b :: ks => by
    rw [sumT_cons, sumT_cons, sumT_cons, sumT_add T S c ks]
    split <;> omega
theorem sumT_zero (c : Acre.Ed × Acre.Ed → Bool) : ∀ ks, sumT ks (fun _ => 0) c = 0
  | [] => rfl
  | b :: ks => by rw [sumT_cons, sumT_zero c ks]; simp
theorem sumT_none {a : Int} {d : Acre.Ed × Acre.Ed} (c : Acre.Ed × Acre.Ed → Bool) : ∀ ks, d ∉ ks → sumT ks (fun b => if d = b then a else 0) c = 0
  | [], _ => rfl
  | b :: ks, h => by
    have hne : d ≠ b := fun e => h (by simp [e])
    rw [sumT_cons, sumT_none c ks (fun hm => h (by simp [hm])), if_neg hne]
    simp
theorem sumT_one {a : Int} {d : Acre.Ed × Acre.Ed} (c : Acre.Ed × Acre.Ed → Bool) : ∀ ks, ks.Nodup → d ∈ ks → sumT ks (fun b => if d = b then a else 0) c = if c d = true then a else 0
  | [], _, h => by simp at h
  | b :: ks, hn, h => by
    rw [List.nodup_cons] at hn
    rw [sumT_cons]
    by_cases e : d = b
    · subst e
      rw [sumT_none c ks hn.1]
      simp
    · have hd : d ∈ ks := by
        rcases List.mem_cons.1 h with h | h
        · exact absurd h e
        · exact h
      rw [sumT_one c ks hn.2 hd, if_neg e]
      simp
/-- what the pieces of a band come to, at a cut -/
def bandT (ps : List Acre.Pc) (f : Acre.Fc) (b : Acre.Ed × Acre.Ed) : Int := (ps.map (fun p => if p.2 = b then Acre.act p f else 0)).sum
theorem sum_swap (f : Acre.Fc) (c : Acre.Ed × Acre.Ed → Bool) (ks : List (Acre.Ed × Acre.Ed)) (hn : ks.Nodup) : ∀ (ps : List Acre.Pc), (∀ p ∈ ps, p.2 ∈ ks) → sumT ks (bandT ps f) c = (ps.map (fun p => if c p.2 = true then Acre.act p f else 0)).sum
  | [], _ => sumT_zero c ks
  | p :: ps, h => by
    have ih := sum_swap f c ks hn ps (fun q hq => h q (List.mem_cons_of_mem _ hq))
    have e : bandT (p :: ps) f = fun b => (if p.2 = b then Acre.act p f else 0) + bandT ps f b := by
      funext b; unfold bandT; rw [List.map_cons, List.sum_cons]
    rw [e, sumT_add, ih, sumT_one c ks hn (h p (List.mem_cons_self ..)), List.map_cons, List.sum_cons]

/-- a row of numbers -/
def rowI (L : Nat) (F : Nat → Int) : List Value := (List.range L).map (fun j => .int .i64 (F j))
theorem rowI_len (L : Nat) (F : Nat → Int) : (rowI L F).length = L := by simp [rowI]
theorem rowI_get {L : Nat} {F : Nat → Int} {i : Nat} (h : i < L) : (rowI L F)[i]? = some (.int .i64 (F i)) := by simp [rowI, h]
theorem rowI_set {L : Nat} {F : Nat → Int} {i : Nat} (x : Int) : (rowI L F).set i (.int .i64 x) = rowI L (fun j => if j = i then x else F j) := by
  apply List.ext_getElem?
  intro j
  rw [List.getElem?_set]
  by_cases hj : j < L
  · by_cases e : i = j
    · subst e; simp [rowI, hj]
    · have e' : ¬ j = i := fun h => e h.symm
      simp [rowI, hj, e, e']
  · by_cases e : i = j
    · subst e; simp [rowI, hj]
    · simp [rowI, hj, e]
theorem rowI_zero (L : Nat) : List.replicate L (Value.int .i64 0) = rowI L (fun _ => 0) := by
  apply List.ext_getElem?
  intro j
  by_cases hj : j < L <;> simp [rowI, hj]
theorem rowI_congr {L : Nat} {F G : Nat → Int} (h : ∀ j, j < L → F j = G j) : rowI L F = rowI L G := by
  unfold rowI
  exact List.map_congr_left fun j hj => by rw [h j (List.mem_range.1 hj)]
/-- how much a row has, while one band goes in -/
def goIn (A : Nat → Int) (lo i : Nat) (n : Int) : Nat → Int := fun j => A j + if lo ≤ j ∧ j < i then n else 0
theorem goIn_start (A : Nat → Int) (lo : Nat) (n : Int) : goIn A lo lo n = A := by
  funext j; unfold goIn; rw [if_neg (by omega)]; omega
theorem goIn_step (A : Nat → Int) (lo i : Nat) (n : Int) (h : lo ≤ i) : (fun j => if j = i then goIn A lo i n i + n else goIn A lo i n j) = goIn A lo (i + 1) n := by
  funext j
  unfold goIn
  by_cases e : j = i
  · subst e; rw [if_pos rfl, if_neg (by omega), if_pos (by omega)]; omega
  · rw [if_neg e]
    by_cases h2 : lo ≤ j ∧ j < i
    · rw [if_pos h2, if_pos (by omega)]
    · rw [if_neg h2, if_neg (by omega)]
theorem goIn_self (A : Nat → Int) (lo i : Nat) (n : Int) : goIn A lo i n i = A i := by unfold goIn; rw [if_neg (by omega)]; omega
/-- the second row: from the next layer on -/
theorem goIn_skip (A : Nat → Int) (lo : Nat) (n : Int) : goIn A (lo + 1) (lo + 1) n = goIn A (lo + 1) lo n := by
  funext j; unfold goIn; rw [if_neg (by omega), if_neg (by omega)]
def aboT (E : List Acre.Ed) (x : Acre.Fc) (i : Nat) (b : Acre.Ed × Acre.Ed) : Bool := decide (Acre.rk E x b.1 ≤ i) && decide (i < Acre.rk E x b.2)
def acrT (E : List Acre.Ed) (x : Acre.Fc) (i : Nat) (b : Acre.Ed × Acre.Ed) : Bool := decide (Acre.rk E x b.1 < i) && decide (i < Acre.rk E x b.2)
theorem above_eq (E : List Acre.Ed) (ps : List Acre.Pc) (f t : Acre.Fc) (i : Nat) (ks : List (Acre.Ed × Acre.Ed)) (hn : ks.Nodup) (hm : ∀ p ∈ ps, p.2 ∈ ks) : sumT ks (bandT ps f) (aboT E (Acre.mdn f t) i) = Acre.aboveP E ps f t i := sum_swap f _ ks hn ps hm
theorem across_eq (E : List Acre.Ed) (ps : List Acre.Pc) (f t : Acre.Fc) (i : Nat) (ks : List (Acre.Ed × Acre.Ed)) (hn : ks.Nodup) (hm : ∀ p ∈ ps, p.2 ∈ ks) : sumT ks (bandT ps f) (acrT E (Acre.mdn f t) i) = Acre.acrossP E ps f t i := sum_swap f _ ks hn ps hm
theorem goIn_above (E : List Acre.Ed) (x : Acre.Fc) (ks : List (Acre.Ed × Acre.Ed)) (b : Acre.Ed × Acre.Ed) (T : Acre.Ed × Acre.Ed → Int) : goIn (fun j => sumT ks T (aboT E x j)) (Acre.rk E x b.1) (Acre.rk E x b.2) (T b) = fun j => sumT (ks ++ [b]) T (aboT E x j) := by
  funext j
  unfold goIn
  rw [sumT_snoc]
  unfold aboT
  by_cases h : Acre.rk E x b.1 ≤ j ∧ j < Acre.rk E x b.2
  · rw [if_pos h, if_pos (by simp [h])]
  · rw [if_neg h, if_neg (by simpa using h)]
theorem goIn_across (E : List Acre.Ed) (x : Acre.Fc) (ks : List (Acre.Ed × Acre.Ed)) (b : Acre.Ed × Acre.Ed) (T : Acre.Ed × Acre.Ed → Int) : goIn (fun j => sumT ks T (acrT E x j)) (Acre.rk E x b.1 + 1) (Acre.rk E x b.2) (T b) = fun j => sumT (ks ++ [b]) T (acrT E x j) := by
  funext j
  unfold goIn
  rw [sumT_snoc]
  unfold acrT
  by_cases h : Acre.rk E x b.1 < j ∧ j < Acre.rk E x b.2
  · rw [if_pos (by omega), if_pos (by simp [h])]
  · rw [if_neg (by omega), if_neg (by simpa using h)]
/-- when low is not below high, nothing goes in -/
theorem goIn_empty (A : Nat → Int) (lo hi : Nat) (n : Int) (h : hi ≤ lo) : goIn A lo hi n = A := by
  funext j; unfold goIn; rw [if_neg (by omega)]; omega
theorem sumT_bd {ks : List (Acre.Ed × Acre.Ed)} {T : Acre.Ed × Acre.Ed → Int} {c : Acre.Ed × Acre.Ed → Bool} {B : Int} (hB : 0 ≤ B) (h : ∀ b, -B ≤ T b ∧ T b ≤ B) : -(B * ks.length) ≤ sumT ks T c ∧ sumT ks T c ≤ B * ks.length := by
  induction ks with
  | nil => simp [sumT]
  | cons b r ih =>
    rw [sumT_cons, List.length_cons]
    have hb := h b
    have e : B * ((r.length + 1 : Nat) : Int) = B * r.length + B := by push_cast; rw [Int.mul_add, Int.mul_one]
    rw [e]
    split <;> omega

end Go.Proofs.YtkjlkbgdkdcboaaGreatDoor

namespace Go.Proofs.YtkjlkbgdkdcboaaGreatDoor
open Go.RowKit Go.Maps Go.Shelf
attribute [local go_sem] Oper.semAt_some

theorem keB_same (b : Acre.Ed × Acre.Ed) : (keB b).sameKey (keB b) = true := by simp [keB, Lit.sameKey]
/-- the bands that have come -/
structure CollB {H : Type} (D0 : DataW H) (left : Lit → Bool) (ks : List (Acre.Ed × Acre.Ed)) : Prop where
  nodup : ks.Nodup
  wf : ∀ x ∈ ks, WfB x
  mem : ∀ x, WfB x → (x ∈ ks ↔ (Maps.has D0 (keB x) = true ∧ left (keB x) = false))
  left : ∀ kl, left kl = true → Maps.has D0 kl = true
theorem CollB.start {H : Type} (D0 : DataW H) : CollB D0 (Maps.has D0) [] := ⟨List.nodup_nil, by simp, fun x _ => by cases Maps.has D0 (keB x) <;> simp, fun _ h => h⟩
theorem CollB.step {H : Type} {D0 : DataW H} {left : Lit → Bool} {ks : List (Acre.Ed × Acre.Ed)} (h : CollB D0 left ks) {x : Acre.Ed × Acre.Ed} (hx : WfB x) (hl : left (keB x) = true) : CollB D0 (fun z => left z && !z.sameKey (keB x)) (ks ++ [x]) := by
  refine ⟨?_, ?_, ?_, ?_⟩
  · rw [List.nodup_append]
    refine ⟨h.nodup, by simp, ?_⟩
    rintro a ha b hb rfl
    simp at hb
    subst hb
    have := ((h.mem a hx).1 ha).2
    rw [hl] at this
    cases this
  · intro y hy
    rcases List.mem_append.1 hy with hy | hy
    · exact h.wf y hy
    · simp at hy; subst hy; exact hx
  · intro y hy
    rw [List.mem_append, h.mem y hy]
    by_cases e : y = x
    · subst e
      have := h.left _ hl
      simp [this, keB_same]
    · have : (keB y).sameKey (keB x) = false := sameKey_ne (fun e' => e (ktB.keys hy hx e'))
      simp [this, e]
  · intro kl hk
    simp at hk
    exact h.left kl hk.1
/-- all of them, each once -/
structure AllB {H : Type} (D0 : DataW H) (ks : List (Acre.Ed × Acre.Ed)) : Prop where
  nodup : ks.Nodup
  wf : ∀ x ∈ ks, WfB x
  mem : ∀ x, WfB x → (x ∈ ks ↔ Maps.has D0 (keB x) = true)
theorem CollB.all {H : Type} {D0 : DataW H} {left : Lit → Bool} {ks : List (Acre.Ed × Acre.Ed)} (h : CollB D0 left ks) (hl : ∀ kl, left kl = false) : AllB D0 ks :=
  ⟨h.nodup, h.wf, fun x hx => by rw [h.mem x hx, hl]; simp⟩

/-- what the loops keep: the slab's box, the two rows -/
structure FsI (w wr : World) (L : Nat) (sv : List Value) (F1 F2 : Nat → Int) : Prop where
  bel : Below w.heap.size w wr
  sb : Box wr w.heap.size sv
  r1 : wr.ownsRow (w.heap.size + 1) 3 1 (.slice (some ⟨w.heap.size + 1, 0, none⟩) L L) L (rowI L F1)
  r2 : wr.ownsRow (w.heap.size + 1) 3 1 (.slice (some ⟨w.heap.size + 1 + 1, 0, none⟩) L L) L (rowI L F2)
theorem FsI.later {w wr V : World} {L : Nat} {sv : List Value} {F1 F2 : Nat → Int} (h : FsI w wr L sv F1 F2) (hl : 0 < sv.length) (hb : Below wr.heap.size wr V) : FsI w V L sv F1 F2 :=
  ⟨below_call hb h.bel, h.sb.later hl hb, row_call h.r1 hb, row_call h.r2 hb⟩
theorem FsI.grown {w wr V : World} {L : Nat} {sv : List Value} {F1 F2 : Nat → Int} {r : Nat} (h : FsI w wr L sv F1 F2) (hl : 0 < sv.length) (hg : wr.grownBy V (some r)) (hr : w.heap.size + 3 ≤ r) : FsI w V L sv F1 F2 := by
  refine ⟨h.bel.grown hg h.bel.size (fun k e => by cases e; omega), h.sb.kept hl hg (fun e => by cases e; omega), h.r1.kept hg (.inr fun e => ?_), h.r2.kept hg (.inr fun e => ?_)⟩
  · simp [Value.ownBlock] at e; omega
  · simp [Value.ownBlock] at e; omega
theorem FsI.set1 {w wr : World} {L : Nat} {sv : List Value} {F1 F2 : Nat → Int} (h : FsI w wr L sv F1 F2) (hl : 0 < sv.length) (i : Nat) (x : Int) : FsI w (wr.setCell ⟨w.heap.size + 1, i, none⟩ (.int .i64 x)) L sv (fun j => if j = i then x else F1 j) F2 := by
  obtain ⟨s1, g1⟩ := h.r1.stored i (.int .i64 x)
  rw [rowI_set] at s1
  refine ⟨h.bel.setCell (p := ⟨w.heap.size + 1, i, none⟩) (by show w.heap.size ≤ w.heap.size + 1; omega) _, h.sb.kept hl g1 (fun e => by simp at e), s1, h.r2.kept g1 (.inr fun e => ?_)⟩
  simp [Value.ownBlock] at e
theorem FsI.set2 {w wr : World} {L : Nat} {sv : List Value} {F1 F2 : Nat → Int} (h : FsI w wr L sv F1 F2) (hl : 0 < sv.length) (i : Nat) (x : Int) : FsI w (wr.setCell ⟨w.heap.size + 1 + 1, i, none⟩ (.int .i64 x)) L sv F1 (fun j => if j = i then x else F2 j) := by
  obtain ⟨s1, g1⟩ := h.r2.stored i (.int .i64 x)
  rw [rowI_set] at s1
  refine ⟨h.bel.setCell (p := ⟨w.heap.size + 1 + 1, i, none⟩) (by show w.heap.size ≤ w.heap.size + 1 + 1; omega) _, h.sb.kept hl g1 (fun e => ?_), h.r1.kept g1 (.inr fun e => ?_), s1⟩
  · simp at e; omega
  · simp [Value.ownBlock] at e

end Go.Proofs.YtkjlkbgdkdcboaaGreatDoor

