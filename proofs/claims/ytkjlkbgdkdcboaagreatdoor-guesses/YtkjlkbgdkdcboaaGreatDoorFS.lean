import Derived.Test.YtkjlkbgdkdcboaaGreatDoorMB
import Derived.Test.YtkjlkbgdkdcboaaGreatDoorGyA
import Derived.Test.YtkjlkbgdkdcboaaGreatDoorPaA
import Derived.Test.YtkjlkbgdkdcboaaGreatDoorC6
import Derived.Maps.RangeWalk

set_option linter.unusedSimpArgs false
set_option linter.unusedVariables false

set_option linter.unusedSimpArgs false
set_option linter.unusedVariables false
namespace Go.Proofs.YtkjlkbgdkdcboaaGreatDoor
def sumT (ks : List (Acre.Ed × Acre.Ed)) (T : Acre.Ed × Acre.Ed → Int) (c : Acre.Ed × Acre.Ed → Bool) : Int := (ks.map (fun b => if c b = true then T b else 0)).sum
theorem sumT_cons (b : Acre.Ed × Acre.Ed) (ks : List (Acre.Ed × Acre.Ed)) (T : Acre.Ed × Acre.Ed → Int) (c : Acre.Ed × Acre.Ed → Bool) : sumT (b :: ks) T c = (if c b = true then T b else 0) + sumT ks T c := by
  unfold sumT; rw [List.map_cons, List.sum_cons]
theorem sumT_snoc (ks : List (Acre.Ed × Acre.Ed)) (b : Acre.Ed × Acre.Ed) (T : Acre.Ed × Acre.Ed → Int) (c : Acre.Ed × Acre.Ed → Bool) : sumT (ks ++ [b]) T c = sumT ks T c + if c b = true then T b else 0 := by
  unfold sumT; rw [List.map_append, List.sum_append]; simp
theorem sumT_add (T S : Acre.Ed × Acre.Ed → Int) (c : Acre.Ed × Acre.Ed → Bool) : ∀ ks, sumT ks (fun b => T b + S b) c = sumT ks T c + sumT ks S c
  | [] => rfl
  | b :: ks => by
    rw [sumT_cons, sumT_cons, sumT_cons, sumT_add T S c ks]
    split <;> omega
theorem sumT_zero (c : Acre.Ed × Acre.Ed → Bool) : ∀ ks, sumT ks (fun _ => 0) c = 0
  | [] => rfl
  | b :: ks => by rw [sumT_cons, sumT_zero c ks]; simp
theorem sumT_none {a : Int} {d : Acre.Ed × Acre.Ed} (c : Acre.Ed × Acre.Ed → Bool) : ∀ ks, d ∉ ks → sumT ks (fun b => if d = b then a else 0) c = 0
  | [], _ => rfl
  | b :: ks, h => by
    have hne : d ≠ b := fun e => h (by simp [e])
    rw [sumT_cons, sumT_none c ks (fun hm => h (by simp [hm])), if_neg hne]
    simp
theorem sumT_one {a : Int} {d : Acre.Ed × Acre.Ed} (c : Acre.Ed × Acre.Ed → Bool) : ∀ ks, ks.Nodup → d ∈ ks → sumT ks (fun b => if d = b then a else 0) c = if c d = true then a else 0
  | [], _, h => by simp at h
  | b :: ks, hn, h => by
    rw [List.nodup_cons] at hn
    rw [sumT_cons]
    by_cases e : d = b
    · subst e
      rw [sumT_none c ks hn.1]
      simp
    · have hd : d ∈ ks := by
        rcases List.mem_cons.1 h with h | h
        · exact absurd h e
        · exact h
      rw [sumT_one c ks hn.2 hd, if_neg e]
      simp
def bandT (ps : List Acre.Pc) (f : Acre.Fc) (b : Acre.Ed × Acre.Ed) : Int := (ps.map (fun p => if p.2 = b then Acre.act p f else 0)).sum
def rowI (L : Nat) (F : Nat → Int) : List Value := (List.range L).map (fun j => .int .i64 (F j))
theorem rowI_get {L : Nat} {F : Nat → Int} {i : Nat} (h : i < L) : (rowI L F)[i]? = some (.int .i64 (F i)) := by simp [rowI, h]
theorem rowI_set {L : Nat} {F : Nat → Int} {i : Nat} (x : Int) : (rowI L F).set i (.int .i64 x) = rowI L (fun j => if j = i then x else F j) := by
  apply List.ext_getElem?
  intro j
  rw [List.getElem?_set]
  by_cases hj : j < L
  · by_cases e : i = j
    · subst e; simp [rowI, hj]
    · have e' : ¬ j = i := fun h => e h.symm
      simp [rowI, hj, e, e']
  · by_cases e : i = j
    · subst e; simp [rowI, hj]
    · simp [rowI, hj, e]
theorem rowI_zero (L : Nat) : List.replicate L (Value.int .i64 0) = rowI L (fun _ => 0) := by
  apply List.ext_getElem?
  intro j
  by_cases hj : j < L <;> simp [rowI, hj]
def goIn (A : Nat → Int) (lo i : Nat) (n : Int) : Nat → Int := fun j => A j + if lo ≤ j ∧ j < i then n else 0
theorem goIn_start (A : Nat → Int) (lo : Nat) (n : Int) : goIn A lo lo n = A := by
  funext j; unfold goIn; rw [if_neg (by omega)]; omega
theorem goIn_step (A : Nat → Int) (lo i : Nat) (n : Int) (h : lo ≤ i) : (fun j => if j = i then goIn A lo i n i + n else goIn A lo i n j) = goIn A lo (i + 1) n := by
  funext j
  unfold goIn
  by_cases e : j = i
  · subst e; rw [if_pos rfl, if_neg (by omega), if_pos (by omega)]; omega
  · rw [if_neg e]
    by_cases h2 : lo ≤ j ∧ j < i
    · rw [if_pos h2, if_pos (by omega)]
    · rw [if_neg h2, if_neg (by omega)]
theorem goIn_self (A : Nat → Int) (lo i : Nat) (n : Int) : goIn A lo i n i = A i := by unfold goIn; rw [if_neg (by omega)]; omega
theorem goIn_skip (A : Nat → Int) (lo : Nat) (n : Int) : goIn A (lo + 1) (lo + 1) n = goIn A (lo + 1) lo n := by
  funext j; unfold goIn; rw [if_neg (by omega), if_neg (by omega)]
def aboT (E : List Acre.Ed) (x : Acre.Fc) (i : Nat) (b : Acre.Ed × Acre.Ed) : Bool := decide (Acre.rk E x b.1 ≤ i) && decide (i < Acre.rk E x b.2)
def acrT (E : List Acre.Ed) (x : Acre.Fc) (i : Nat) (b : Acre.Ed × Acre.Ed) : Bool := decide (Acre.rk E x b.1 < i) && decide (i < Acre.rk E x b.2)
theorem goIn_above (E : List Acre.Ed) (x : Acre.Fc) (ks : List (Acre.Ed × Acre.Ed)) (b : Acre.Ed × Acre.Ed) (T : Acre.Ed × Acre.Ed → Int) : goIn (fun j => sumT ks T (aboT E x j)) (Acre.rk E x b.1) (Acre.rk E x b.2) (T b) = fun j => sumT (ks ++ [b]) T (aboT E x j) := by
  funext j
  unfold goIn
  rw [sumT_snoc]
  unfold aboT
  by_cases h : Acre.rk E x b.1 ≤ j ∧ j < Acre.rk E x b.2
  · rw [if_pos h, if_pos (by simp [h])]
  · rw [if_neg h, if_neg (by simpa using h)]
theorem goIn_across (E : List Acre.Ed) (x : Acre.Fc) (ks : List (Acre.Ed × Acre.Ed)) (b : Acre.Ed × Acre.Ed) (T : Acre.Ed × Acre.Ed → Int) : goIn (fun j => sumT ks T (acrT E x j)) (Acre.rk E x b.1 + 1) (Acre.rk E x b.2) (T b) = fun j => sumT (ks ++ [b]) T (acrT E x j) := by
  funext j
  unfold goIn
  rw [sumT_snoc]
  unfold acrT
  by_cases h : Acre.rk E x b.1 < j ∧ j < Acre.rk E x b.2
  · rw [if_pos (by omega), if_pos (by simp [h])]
  · rw [if_neg (by omega), if_neg (by simpa using h)]
theorem goIn_empty (A : Nat → Int) (lo hi : Nat) (n : Int) (h : hi ≤ lo) : goIn A lo hi n = A := by
  funext j; unfold goIn; rw [if_neg (by omega)]; omega
theorem sumT_bd {ks : List (Acre.Ed × Acre.Ed)} {T : Acre.Ed × Acre.Ed → Int} {c : Acre.Ed × Acre.Ed → Bool} {B : Int} (hB : 0 ≤ B) (h : ∀ b, -B ≤ T b ∧ T b ≤ B) : -(B * ks.length) ≤ sumT ks T c ∧ sumT ks T c ≤ B * ks.length := by
  induction ks with
  | nil => simp [sumT]
  | cons b r ih =>
    rw [sumT_cons, List.length_cons]
    have hb := h b
    have e : B * ((r.length + 1 : Nat) : Int) = B * r.length + B := by push_cast; rw [Int.mul_add, Int.mul_one]
    rw [e]
    split <;> omega
end Go.Proofs.YtkjlkbgdkdcboaaGreatDoor
namespace Go.Proofs.YtkjlkbgdkdcboaaGreatDoor
open Go.RowKit Go.Maps Go.Shelf
attribute [local go_sem] Oper.semAt_some
theorem keB_same (b : Acre.Ed × Acre.Ed) : (keB b).sameKey (keB b) = true := by simp [keB, Lit.sameKey]
structure CollB {H : Type} (D0 : DataW H) (left : Lit → Bool) (ks : List (Acre.Ed × Acre.Ed)) : Prop where
  nodup : ks.Nodup
  wf : ∀ x ∈ ks, WfB x
  mem : ∀ x, WfB x → (x ∈ ks ↔ (Maps.has D0 (keB x) = true ∧ left (keB x) = false))
  left : ∀ kl, left kl = true → Maps.has D0 kl = true
theorem CollB.start {H : Type} (D0 : DataW H) : CollB D0 (Maps.has D0) [] := ⟨List.nodup_nil, by simp, fun x _ => by cases Maps.has D0 (keB x) <;> simp, fun _ h => h⟩
theorem CollB.step {H : Type} {D0 : DataW H} {left : Lit → Bool} {ks : List (Acre.Ed × Acre.Ed)} (h : CollB D0 left ks) {x : Acre.Ed × Acre.Ed} (hx : WfB x) (hl : left (keB x) = true) : CollB D0 (fun z => left z && !z.sameKey (keB x)) (ks ++ [x]) := by
  refine ⟨?_, ?_, ?_, ?_⟩
  · rw [List.nodup_append]
    refine ⟨h.nodup, by simp, ?_⟩
    rintro a ha b hb rfl
    simp at hb
    subst hb
    have := ((h.mem a hx).1 ha).2
    rw [hl] at this
    cases this
  · intro y hy
    rcases List.mem_append.1 hy with hy | hy
    · exact h.wf y hy
    · simp at hy; subst hy; exact hx
  · intro y hy
    rw [List.mem_append, h.mem y hy]
    by_cases e : y = x
    · subst e
      have := h.left _ hl
      simp [this, keB_same]
    · have : (keB y).sameKey (keB x) = false := sameKey_ne (fun e' => e (ktB.keys hy hx e'))
      simp [this, e]
  · intro kl hk
    simp at hk
    exact h.left kl hk.1
structure AllB {H : Type} (D0 : DataW H) (ks : List (Acre.Ed × Acre.Ed)) : Prop where
  nodup : ks.Nodup
  wf : ∀ x ∈ ks, WfB x
  mem : ∀ x, WfB x → (x ∈ ks ↔ Maps.has D0 (keB x) = true)
theorem CollB.all {H : Type} {D0 : DataW H} {left : Lit → Bool} {ks : List (Acre.Ed × Acre.Ed)} (h : CollB D0 left ks) (hl : ∀ kl, left kl = false) : AllB D0 ks :=
  ⟨h.nodup, h.wf, fun x hx => by rw [h.mem x hx, hl]; simp⟩
structure FsI (w wr : World) (L : Nat) (sv : List Value) (F1 F2 : Nat → Int) : Prop where
  bel : Below w.heap.size w wr
  sb : Box wr w.heap.size sv
  r1 : wr.ownsRow (w.heap.size + 1) 3 1 (.slice (some ⟨w.heap.size + 1, 0, none⟩) L L) L (rowI L F1)
  r2 : wr.ownsRow (w.heap.size + 1) 3 1 (.slice (some ⟨w.heap.size + 1 + 1, 0, none⟩) L L) L (rowI L F2)
theorem FsI.later {w wr V : World} {L : Nat} {sv : List Value} {F1 F2 : Nat → Int} (h : FsI w wr L sv F1 F2) (hl : 0 < sv.length) (hb : Below wr.heap.size wr V) : FsI w V L sv F1 F2 :=
  ⟨below_call hb h.bel, h.sb.later hl hb, row_call h.r1 hb, row_call h.r2 hb⟩
theorem FsI.grown {w wr V : World} {L : Nat} {sv : List Value} {F1 F2 : Nat → Int} {r : Nat} (h : FsI w wr L sv F1 F2) (hl : 0 < sv.length) (hg : wr.grownBy V (some r)) (hr : w.heap.size + 3 ≤ r) : FsI w V L sv F1 F2 := by
  refine ⟨h.bel.grown hg h.bel.size (fun k e => by cases e; omega), h.sb.kept hl hg (fun e => by cases e; omega), h.r1.kept hg (.inr fun e => ?_), h.r2.kept hg (.inr fun e => ?_)⟩
  · simp [Value.ownBlock] at e; omega
  · simp [Value.ownBlock] at e; omega
theorem FsI.set1 {w wr : World} {L : Nat} {sv : List Value} {F1 F2 : Nat → Int} (h : FsI w wr L sv F1 F2) (hl : 0 < sv.length) (i : Nat) (x : Int) : FsI w (wr.setCell ⟨w.heap.size + 1, i, none⟩ (.int .i64 x)) L sv (fun j => if j = i then x else F1 j) F2 := by
  obtain ⟨s1, g1⟩ := h.r1.stored i (.int .i64 x)
  rw [rowI_set] at s1
  refine ⟨h.bel.setCell (p := ⟨w.heap.size + 1, i, none⟩) (by show w.heap.size ≤ w.heap.size + 1; omega) _, h.sb.kept hl g1 (fun e => by simp at e), s1, h.r2.kept g1 (.inr fun e => ?_)⟩
  simp [Value.ownBlock] at e
theorem FsI.set2 {w wr : World} {L : Nat} {sv : List Value} {F1 F2 : Nat → Int} (h : FsI w wr L sv F1 F2) (hl : 0 < sv.length) (i : Nat) (x : Int) : FsI w (wr.setCell ⟨w.heap.size + 1 + 1, i, none⟩ (.int .i64 x)) L sv F1 (fun j => if j = i then x else F2 j) := by
  obtain ⟨s1, g1⟩ := h.r2.stored i (.int .i64 x)
  rw [rowI_set] at s1
  refine ⟨h.bel.setCell (p := ⟨w.heap.size + 1 + 1, i, none⟩) (by show w.heap.size ≤ w.heap.size + 1 + 1; omega) _, h.sb.kept hl g1 (fun e => ?_), h.r1.kept g1 (.inr fun e => ?_), s1⟩
  · simp at e; omega
  · simp [Value.ownBlock] at e
end Go.Proofs.YtkjlkbgdkdcboaaGreatDoor

set_option linter.unusedSimpArgs false
set_option linter.unusedVariables false
namespace Go.Proofs.YtkjlkbgdkdcboaaGreatDoor
open Go.RowKit Go.Maps Go.Shelf
attribute [local go_sem] Oper.semAt_some
theorem rk_lt {E : List Acre.Ed} {x : Acre.Fc} {e : Acre.Ed} (h : e ∈ E ∧ Acre.upr e = false) : Acre.rk E x e < (Acre.hts E x).length := by
  unfold Acre.rk
  refine List.idxOf_lt_length_iff.2 ?_
  unfold Acre.hts
  rw [Acre.mem_sortD]
  exact List.mem_map.2 ⟨e, List.mem_filter.2 ⟨h.1, by simp [h.2]⟩, rfl⟩
theorem rankTo_all {E : List Acre.Ed} {x : Acre.Fc} {e : Acre.Ed} (h : e ∈ E ∧ Acre.upr e = false) : rankTo E x (Acre.hts E x).length e = some (.int .i64 (Acre.rk E x e)) := by
  unfold rankTo
  rw [if_pos ⟨h.1, h.2, rk_lt h⟩]
theorem made_int (w : World) (n : Nat) (hn : n ≤ 1000) (base : Nat) (hb : base ≤ w.heap.size) : ∃ w', (Instr.makeSlice 227 (.int .i64 (n : Int)) (.int .i64 (n : Int))).run Tryz.prog w = .ok (.slice (some ⟨w.heap.size, 0, none⟩) n n) w' ∧ w'.ownsRow base 3 1 (.slice (some ⟨w.heap.size, 0, none⟩) n n) n (rowI n (fun _ => 0)) ∧ w.grownBy w' none ∧ w'.heap.size = w.heap.size + 1 := by
  obtain ⟨i0, hi, hz0, hz1, hz2⟩ := info_parts info3
  have h := run_make (P := Tryz.prog) w 227 3 i0 _ Tryz.underlying227 hi hz0 .i64 .i64 n n (by omega) (Int.le_refl _) (by rw [hz2]; omega) (by omega)
  simp only [Int.toNat_natCast, hz1, Nat.mul_one] at h
  refine ⟨_, h, ?_, World.grownBy_alloc w _ none, by simp⟩
  have := World.ownsRow_lit (e := 3) (size := 1) w (madeCells (Value.int IntKind.i64 0).cells n) n hb (by unfold maxLen; omega) (by rw [size_madeCells]; omega)
  rw [show (madeCells (Value.int IntKind.i64 0).cells n).toList = rowI n (fun _ => 0) by rw [← rowI_zero]; exact toList_madeCells_one _ _] at this
  exact this
theorem mv_held {D : DataW Value} {w : World} {tb n : Nat} {T : Acre.Ed × Acre.Ed → Option Int} (h : MV w 106 keB WfB tb n D (fun b => (T b).map (fun k => .int .i64 k))) {x : Acre.Ed × Acre.Ed} (hx : WfB x) {c : Value} {y : DataW Value × List MemPlace} (hv : Raw c = some y) (hat : ∀ zd, D.atKey (keB x) zd = y.1) : ∃ k, T x = some k ∧ c = .int .i64 k := by
  have hy : y.1 = .held c := by unfold Raw at hv; simp at hv; rw [← hv]
  have a1 := (h.at' x hx (.bool true)).symm.trans (hat _)
  have a2 := (h.at' x hx (.bool false)).symm.trans (hat _)
  rw [hy] at a1 a2
  cases hT : T x with
  | none =>
    rw [hT] at a1 a2
    simp at a1 a2
    rw [← a1] at a2
    simp at a2
  | some k =>
    rw [hT] at a1
    simp at a1
    exact ⟨k, rfl, a1.symm⟩
def okS (E : List Acre.Ed) (kk : Nat) (op : Int) (f t : Acre.Fc) (ks : List (Acre.Ed × Acre.Ed)) (T : Acre.Ed × Acre.Ed → Int) : Bool :=
  (List.range (Acre.hts E (Acre.mdn f t)).length).all (fun i => sumT ks T (aboT E (Acre.mdn f t) i) == Acre.dueP E kk op f t i && (!(Acre.spAt E f t ((Acre.hts E (Acre.mdn f t)).getD i (0, 0))).isEmpty || sumT ks T (acrT E (Acre.mdn f t) i) == Acre.dueP E kk op f t i))
def okAt (E : List Acre.Ed) (kk : Nat) (op : Int) (f t : Acre.Fc) (ks : List (Acre.Ed × Acre.Ed)) (T : Acre.Ed × Acre.Ed → Int) (i : Nat) : Bool :=
  sumT ks T (aboT E (Acre.mdn f t) i) == Acre.dueP E kk op f t i && (!(Acre.spAt E f t ((Acre.hts E (Acre.mdn f t)).getD i (0, 0))).isEmpty || sumT ks T (acrT E (Acre.mdn f t) i) == Acre.dueP E kk op f t i)
theorem okS_no {E : List Acre.Ed} {kk : Nat} {op : Int} {f t : Acre.Fc} {ks : List (Acre.Ed × Acre.Ed)} {T : Acre.Ed × Acre.Ed → Int} {i : Nat} (hi : i < (Acre.hts E (Acre.mdn f t)).length) (h : okAt E kk op f t ks T i = false) : okS E kk op f t ks T = false := by
  unfold okS
  rw [List.all_eq_false]
  exact ⟨i, List.mem_range.2 hi, by unfold okAt at h; rw [h]; simp⟩
theorem okS_yes {E : List Acre.Ed} {kk : Nat} {op : Int} {f t : Acre.Fc} {ks : List (Acre.Ed × Acre.Ed)} {T : Acre.Ed × Acre.Ed → Int} (h : ∀ i, i < (Acre.hts E (Acre.mdn f t)).length → okAt E kk op f t ks T i = true) : okS E kk op f t ks T = true := by
  unfold okS
  rw [List.all_eq_true]
  exact fun i hi => h i (List.mem_range.1 hi)
theorem okAt_lay {E : List Acre.Ed} {kk : Nat} {op : Int} {f t : Acre.Fc} {ks : List (Acre.Ed × Acre.Ed)} {T : Acre.Ed × Acre.Ed → Int} {i : Nat} (hi : i < (layersP E kk op f t).length) :
    okAt E kk op f t ks T i = (sumT ks T (aboT E (Acre.mdn f t) i) == (if ((layersP E kk op f t).getD i (Acre.zed, true, false)).2.2 = true then 1 else 0) && (!((layersP E kk op f t).getD i (Acre.zed, true, false)).2.1 || sumT ks T (acrT E (Acre.mdn f t) i) == (if ((layersP E kk op f t).getD i (Acre.zed, true, false)).2.2 = true then 1 else 0))) := by
  have e : (layersP E kk op f t).getD i (Acre.zed, true, false) = layAt E kk op f t i := by
    have hi2 := hi
    unfold layersP layTo at hi2 ⊢
    simp at hi2
    simp [hi2]
  rw [e]
  rfl
set_option maxRecDepth 100000 in
set_option maxHeartbeats 8000000 in
theorem slabFilled_any (E : List Acre.Ed) (kk : Nat) (op : Int) (f1 f2 t1 t2 : Int) (n₀ rb tb n : Nat) (lv : Value) (D : DataW Value) (T : Acre.Ed × Acre.Ed → Option Int) (w : World)
    (hS : SlabV n₀ w E kk op (f1, f2) (t1, t2) lv rb) (hT : MV w 106 keB WfB tb n D (fun b => (T b).map (fun k => .int .i64 k))) (hn : n ≤ 8000) (hTb : ∀ b k, T b = some k → -8000 ≤ k ∧ k ≤ 8000)
    (hTe : ∀ b k, T b = some k → (b.1 ∈ E ∧ Acre.upr b.1 = false) ∧ (b.2 ∈ E ∧ Acre.upr b.2 = false)) (hEl : E.length ≤ 24) :
    Calls Tryz.prog 90 #[.agg #[.int .i64 f1, .int .i64 f2, .int .i64 t1, .int .i64 t2, lv, .map (some rb)], .map (some tb)] w fun e w' => ∃ ks, AllB D ks ∧ e = .returned (.bool (okS E kk op (f1, f2) (t1, t2) ks (fun b => (T b).getD 0))) ∧ Below w.heap.size w w' := by
  obtain ⟨la, lg, lcap, rfl, hla, _⟩ := row_form hS.row
  have hlL := layersP_len E kk op (f1, f2) (t1, t2) hEl
  have hLe : (layersP E kk op (f1, f2) (t1, t2)).length = (Acre.hts E (Acre.mdn (f1, f2) (t1, t2))).length := by unfold layersP layTo; simp
  obtain ⟨L, hL⟩ : ∃ L, (layersP E kk op (f1, f2) (t1, t2)).length = L := ⟨_, rfl⟩
  rw [hL] at hlL hLe hla
  have HLe := hide hLe
  have HS := hide hS
  have HL := hide hL
  rw [hL]
  clear hLe hS
  go_enter Tryz.func90, Tryz.ntmps90
  have q1 := below1 w (.cells #[.int .i64 f1, .int .i64 f2, .int .i64 t1, .int .i64 t2, .slice la L lcap, .map (some rb)] 102)
  have bb := Box.new w [.int .i64 f1, .int .i64 f2, .int .i64 t1, .int .i64 t2, .slice la L lcap, .map (some rb)] 102
  have hsz : (w.alloc (.cells #[.int .i64 f1, .int .i64 f2, .int .i64 t1, .int .i64 t2, .slice la L lcap, .map (some rb)] 102)).heap.size = w.heap.size + 1 := by simp
  go_upto_region 1 with fail
  generalize w.alloc (.cells #[.int .i64 f1, .int .i64 f2, .int .i64 t1, .int .i64 t2, .slice la L lcap, .map (some rb)] 102) = W0 at *
  have s4 := bb.c 4 _ rfl
  obtain ⟨W1, hm1, ho1, hg1, hz1⟩ := made_int W0 L (by omega) (w.heap.size + 1) (by omega)
  have b1 := bb.kept (by simp) hg1 (by simp)
  have p4 := b1.c 4 _ rfl
  obtain ⟨W2, hm2, ho2, hg2, hz2⟩ := made_int W1 L (by omega) (w.heap.size + 1) (by omega)
  have hF : FsI w W2 L [.int .i64 f1, .int .i64 f2, .int .i64 t1, .int .i64 t2, .slice la L lcap, .map (some rb)] (fun _ => 0) (fun _ => 0) := by
    refine ⟨(q1.grown hg1 (by omega) (by simp)).grown hg2 (by omega) (by simp), b1.kept (by simp) hg2 (by simp), ?_, ?_⟩
    · have := ho1.kept hg2 (.inr (by simp [Value.ownBlock]))
      rw [hsz] at this
      exact this
    · rw [hz1, hsz] at ho2
      exact ho2
  have HF := hide hF
  rw [hz1, hsz] at hm2
  rw [hsz] at hm1
  have hT2 : Hid (W2.ownsMap Tryz.prog 106 Raw tb n D) := hide ((hT.same (hF.bel.block tb hT.lt)).own)
  have hz3 : W2.heap.size = w.heap.size + 3 := by omega
  clear hF ho1 ho2 hg1 hg2 b1 q1
  go_upto_region 3 with fail
  clear hm1 hm2 s4 p4 bb hsz hz1 hz2
  have Hx : Hid (Acre.mdn (f1, f2) (t1, t2) = Acre.mdn (f1, f2) (t1, t2)) := hide rfl
  go_wp2_with (first
    | (at_range; refine wpList_range_own _ rfl _ 99 rfl 106 3 (Keyed.of_law lawB) Tryz.underlying99 _ tb n _ rfl hT2.out ?_; intro w0 hrg0 hg0 hs0)
    | go_in)
  rw [hz3] at hrg0 hs0
  go_loopw [7] (fun _ wr => ∃ (left : Lit → Bool) (cnt : Nat) (ks : List (Acre.Ed × Acre.Ed)), wr.ranges Tryz.prog 106 Raw tb (w.heap.size + 3) n D left cnt ∧ ks.length + cnt ≤ Maps.size D ∧ Hid (CollB D left ks) ∧ Hid (FsI w wr L [.int .i64 f1, .int .i64 f2, .int .i64 t1, .int .i64 t2, .slice la L lcap, .map (some rb)] (fun j => sumT ks (fun b => (T b).getD 0) (aboT E (Acre.mdn (f1, f2) (t1, t2)) j)) (fun j => sumT ks (fun b => (T b).getD 0) (acrT E (Acre.mdn (f1, f2) (t1, t2)) j))))
    (fun _ wr => wr.rangeLeft tb (w.heap.size + 3))
  case atStart => exact ⟨_, _, [], hrg0, by simp, hide (CollB.start D), hide (HF.out.later (by simp) ⟨hg0.os, hg0.tape, hg0.output, hg0.size, fun k hk => hg0.block k hk (by simp)⟩)⟩
  case round =>
    obtain ⟨left, cnt, ks, hrg, hcs, hC, hFs⟩ := hrel
    go_wp2_with (first
      | (at_next; refine wpList_next_ranges _ rfl _ rfl 106 (Keyed.of_law lawB) Raw bdV (fun v : Value => v) (fun key kl hk => by obtain ⟨x, hx, _⟩ := invB key kl hk; exact ⟨x, hx⟩) (fun v y _ => ⟨v, rfl⟩) tb (w.heap.size + 3) n _ _ _ rfl hrg ?_ ?_)
      | go_in)
    · intro hc0 hl0
      have HA := hide (hC.out.all hl0)
      have s4 := hFs.out.sb.c 4 _ rfl
      have HF5 := hide hFs.out
      obtain ⟨A1, hA1⟩ : ∃ A1, (fun j => sumT ks (fun b => (T b).getD 0) (aboT E (Acre.mdn (f1, f2) (t1, t2)) j)) = A1 := ⟨_, rfl⟩
      obtain ⟨A2, hA2⟩ : ∃ A2, (fun j => sumT ks (fun b => (T b).getD 0) (acrT E (Acre.mdn (f1, f2) (t1, t2)) j)) = A2 := ⟨_, rfl⟩
      have HOk : Hid (∀ q, q < L → okAt E kk op (f1, f2) (t1, t2) ks (fun b => (T b).getD 0) q = (A1 q == (if ((layersP E kk op (f1, f2) (t1, t2)).getD q (Acre.zed, true, false)).2.2 = true then 1 else 0) && (!((layersP E kk op (f1, f2) (t1, t2)).getD q (Acre.zed, true, false)).2.1 || A2 q == (if ((layersP E kk op (f1, f2) (t1, t2)).getD q (Acre.zed, true, false)).2.2 = true then 1 else 0)))) := hide (fun q hq => by
        rw [← hA1, ← hA2]
        exact okAt_lay (by rw [HL.out]; exact hq))
      rw [hA1, hA2] at HF5
      clear hA1 hA2 hFs hC hrg hrg0 hg0 hs0
      go_wp2
      clear s4
      go_loopw [66] (fun i wr => ∃ q : Nat, i = .int .i64 q ∧ q ≤ L ∧ Hid (FsI w wr L [.int .i64 f1, .int .i64 f2, .int .i64 t1, .int .i64 t2, .slice la L lcap, .map (some rb)] A1 A2) ∧ Hid (∀ p, p < q → okAt E kk op (f1, f2) (t1, t2) ks (fun b => (T b).getD 0) p = true)) (fun i _ => L - (intOf i).toNat)
      case atStart => exact ⟨0, rfl, Nat.zero_le _, HF5, hide (fun p hp => by omega)⟩
      case round =>
        obtain ⟨q, rfl, hq, hf, hok⟩ := hrel
        clear HF5
        by_cases hlt : q < L
        · have hrow := row_low HS.out.row hf.out.bel (fun c e => (HS.out.row.lt c e).2)
          obtain rfl := hla (by omega)
          have hokq := HOk.out q hlt
          have hlr := HL.out
          have hrow2 : wr.ownsRow n₀ 163 6 (.slice (some ⟨lg, 0, none⟩) (layersP E kk op (f1, f2) (t1, t2)).length lcap) (layersP E kk op (f1, f2) (t1, t2)).length (flatL (layersP E kk op (f1, f2) (t1, t2))) := by rw [hlr] at hrow ⊢; exact hrow
          obtain ⟨y0, y1, y2, y3, y4, y5⟩ := rowL_cells hrow2 q (by omega)
          have hgd : (layersP E kk op (f1, f2) (t1, t2)).getD q (Acre.zed, true, false) = (layersP E kk op (f1, f2) (t1, t2))[q]'(by omega) := by
            rw [List.getD_eq_getElem?_getD, List.getElem?_eq_getElem (by omega)]; rfl
          rw [hgd] at hokq
          obtain ⟨⟨⟨⟨e0, e1⟩, ⟨e2, e3⟩⟩, bare, ins⟩, hla2⟩ : ∃ x, (layersP E kk op (f1, f2) (t1, t2))[q]'(by omega) = x := ⟨_, rfl⟩
          rw [hla2] at y0 y1 y2 y3 y4 y5 hokq
          dsimp only at y0 y1 y2 y3 y4 y5 hokq
          have q5 := below1 wr (.cells #[.int .i64 e0, .int .i64 e1, .int .i64 e2, .int .i64 e3, .bool bare, .bool ins] 163)
          have bL := Box.new wr [.int .i64 e0, .int .i64 e1, .int .i64 e2, .int .i64 e3, .bool bare, .bool ins] 163
          have HF6 := hide (hf.out.later (by simp) q5)
          have Hokq := hide hokq
          clear hrow hrow2 hgd hla2 q5 hokq hf
          go_upto_region 16 with fail
          clear y0 y1 y2 y3 y4 y5
          generalize hR6 : wr.heap.size = R6 at *
          generalize wr.alloc (.cells #[.int .i64 e0, .int .i64 e1, .int .i64 e2, .int .i64 e3, .bool bare, .bool ins] 163) = W6 at *
          have z4 := bL.c 4 _ rfl
          have z5 := bL.c 5 _ rfl
          have x1 : W6.cell? ⟨w.heap.size + 1, q, none⟩ = some (.int .i64 (A1 q)) := by
            rw [HF6.out.r1.cellAt q (by omega), rowI_get hlt]
          have x2 : W6.cell? ⟨w.heap.size + 1 + 1, q, none⟩ = some (.int .i64 (A2 q)) := by
            rw [HF6.out.r2.cellAt q (by omega), rowI_get hlt]
          clear bL
          have Hno : Hid (∀ b, okAt E kk op (f1, f2) (t1, t2) ks (fun b => (T b).getD 0) q = b → b = false → okS E kk op (f1, f2) (t1, t2) ks (fun b => (T b).getD 0) = false) := hide (fun b h1 h2 => okS_no (by rw [← HLe.out]; exact hlt) (h1.trans h2))
          have Hye : Hid (okAt E kk op (f1, f2) (t1, t2) ks (fun b => (T b).getD 0) q = true → ∀ p, p < q + 1 → okAt E kk op (f1, f2) (t1, t2) ks (fun b => (T b).getD 0) p = true) := hide (fun h p hp => by
            by_cases e : p = q
            · rw [e]; exact h
            · exact hok.out p (by omega))
          cases ins
          · simp only [Bool.false_eq_true, if_false] at Hokq
            by_cases h1 : A1 q = 0
            · cases bare
              · have Hy := hide (Hye.out (by rw [Hokq.out]; simp [h1]))
                clear Hye Hno Hokq
                go_wp2
                go_roundw
                case rel => exact ⟨q + 1, by go_num, by omega, HF6, Hy⟩
                case measure => simp [intOf]; omega
              · by_cases h2 : A2 q = 0
                · have Hy := hide (Hye.out (by rw [Hokq.out]; simp [h1, h2]))
                  clear Hye Hno Hokq
                  go_wp2
                  go_roundw
                  case rel => exact ⟨q + 1, by go_num, by omega, HF6, Hy⟩
                  case measure => simp [intOf]; omega
                · have HN := hide (Hno.out _ Hokq.out (by simp [h1, h2]))
                  have Hb := hide HF6.out.bel
                  clear Hye Hno Hokq
                  go_wp2
                  refine bodyPost_ret (v := .bool false) (by simp [results, Tryz.results90, go_sem]) rfl ⟨ks, HA.out, ?_, Hb.out⟩
                  rw [HN.out]
            · have HN := hide (Hno.out _ Hokq.out (by simp [h1]))
              have Hb := hide HF6.out.bel
              clear Hye Hno Hokq
              go_wp2
              refine bodyPost_ret (v := .bool false) (by simp [results, Tryz.results90, go_sem]) rfl ⟨ks, HA.out, ?_, Hb.out⟩
              rw [HN.out]
          · simp only [if_true] at Hokq
            by_cases h1 : A1 q = 1
            · cases bare
              · have Hy := hide (Hye.out (by rw [Hokq.out]; simp [h1]))
                clear Hye Hno Hokq
                go_wp2
                go_roundw
                case rel => exact ⟨q + 1, by go_num, by omega, HF6, Hy⟩
                case measure => simp [intOf]; omega
              · by_cases h2 : A2 q = 1
                · have Hy := hide (Hye.out (by rw [Hokq.out]; simp [h1, h2]))
                  clear Hye Hno Hokq
                  go_wp2
                  go_roundw
                  case rel => exact ⟨q + 1, by go_num, by omega, HF6, Hy⟩
                  case measure => simp [intOf]; omega
                · have HN := hide (Hno.out _ Hokq.out (by simp [h1, h2]))
                  have Hb := hide HF6.out.bel
                  clear Hye Hno Hokq
                  go_wp2
                  refine bodyPost_ret (v := .bool false) (by simp [results, Tryz.results90, go_sem]) rfl ⟨ks, HA.out, ?_, Hb.out⟩
                  rw [HN.out]
            · have HN := hide (Hno.out _ Hokq.out (by simp [h1]))
              have Hb := hide HF6.out.bel
              clear Hye Hno Hokq
              go_wp2
              refine bodyPost_ret (v := .bool false) (by simp [results, Tryz.results90, go_sem]) rfl ⟨ks, HA.out, ?_, Hb.out⟩
              rw [HN.out]
        · obtain rfl : q = L := by omega
          have Hyes : Hid (okS E kk op (f1, f2) (t1, t2) ks (fun b => (T b).getD 0) = true) := hide (okS_yes (fun p hp => hok.out p (by rw [HLe.out]; exact hp)))
          have Hb := hide hf.out.bel
          clear hf hok
          go_wp2
          refine bodyPost_ret (v := .bool true) (by simp [results, Tryz.results90, go_sem]) rfl ⟨ks, HA.out, ?_, Hb.out⟩
          rw [Hyes.out]
    · intro a0 a1 a2 a3 c0 c1 c2 c3 c kl yd yp w2 cnt2 hkey hlk hv hat hrg2 hlt hg2 hs2 hen
      obtain ⟨x', ex, hwx, rfl⟩ := invB _ _ hkey
      obtain rfl : x' = (((a0, a1), (a2, a3)), ((c0, c1), (c2, c3))) := (ktB.inj _ _ ex).symm
      obtain ⟨tn, hTn, rfl⟩ := mv_held hT hwx hv hat
      have htb := hTb _ _ hTn
      have hte := hTe _ _ hTn
      have hF2 := hFs.out.grown (by simp) hg2 (by omega)
      have q3 := below1 w2 (.cells #[.int .i64 a0, .int .i64 a1, .int .i64 a2, .int .i64 a3, .int .i64 c0, .int .i64 c1, .int .i64 c2, .int .i64 c3] 106)
      have bB := Box.new w2 [.int .i64 a0, .int .i64 a1, .int .i64 a2, .int .i64 a3, .int .i64 c0, .int .i64 c1, .int .i64 c2, .int .i64 c3] 106
      have HF3 := hide (hF2.later (by simp) q3)
      have hrg3 := hrg2.alloc (.cells #[.int .i64 a0, .int .i64 a1, .int .i64 a2, .int .i64 a3, .int .i64 c0, .int .i64 c1, .int .i64 c2, .int .i64 c3] 106)
      have Hrg := hide hrg3
      have Hold := hide hrg
      have HC2 := hide (hC.out.step hwx hlk)
      have hcnt := hlt
      have HTn := hide hTn
      have Hte := hide hte
      have Hwx := hide hwx
      clear hkey ex hv hat hrg2 hg2 hF2 q3 hrg3 hrg hlk hC hFs hTn hte hwx hs2 hrg0 hg0 hs0
      unfold bdV at hen ⊢
      dsimp only at hen ⊢
      go_upto_region 6 with fail
      generalize hR3 : w2.heap.size = R3 at *
      generalize w2.alloc (.cells #[.int .i64 a0, .int .i64 a1, .int .i64 a2, .int .i64 a3, .int .i64 c0, .int .i64 c1, .int .i64 c2, .int .i64 c3] 106) = W3 at *
      have z0 := bB.c 0 _ rfl
      have z1 := bB.c 1 _ rfl
      have z2 := bB.c 2 _ rfl
      have z3 := bB.c 3 _ rfl
      have z4 := bB.c 4 _ rfl
      have z5 := bB.c 5 _ rfl
      have z6 := bB.c 6 _ rfl
      have z7 := bB.c 7 _ rfl
      have s5 := HF3.out.sb.c 5 _ rfl
      obtain ⟨mr, Dr, hDr⟩ := HS.out.mv
      have hDr2 : MV W3.drew 42 keE WfE rb mr Dr (rankTo E (Acre.mdn (f1, f2) (t1, t2)) (Acre.hts E (Acre.mdn (f1, f2) (t1, t2))).length) := hDr.same (HF3.out.bel.block rb hDr.lt)
      have lk1 := hDr2.lookup ktE Tryz.underlying70 (zero3 _) Hwx.out.lo
      have lk2 := hDr2.lookup ktE Tryz.underlying70 (zero3 _) Hwx.out.hi
      rw [rankTo_all Hte.out.1] at lk1
      rw [rankTo_all Hte.out.2] at lk2
      unfold edV at lk1 lk2
      simp only [Option.getD_some] at lk1 lk2
      have r1 := rk_lt (x := Acre.mdn (f1, f2) (t1, t2)) Hte.out.1
      have r2 := rk_lt (x := Acre.mdn (f1, f2) (t1, t2)) Hte.out.2
      have Hg1 := hide (goIn_above E (Acre.mdn (f1, f2) (t1, t2)) ks (((a0, a1), (a2, a3)), ((c0, c1), (c2, c3))) (fun b => (T b).getD 0))
      have Hg2 := hide (goIn_across E (Acre.mdn (f1, f2) (t1, t2)) ks (((a0, a1), (a2, a3)), ((c0, c1), (c2, c3))) (fun b => (T b).getD 0))
      rw [← HLe.out] at r1 r2
      generalize Acre.rk E (Acre.mdn (f1, f2) (t1, t2)) ((a0, a1), (a2, a3)) = lo at *
      generalize Acre.rk E (Acre.mdn (f1, f2) (t1, t2)) ((c0, c1), (c2, c3)) = hi at *
      clear hDr hDr2
      go_region
      have hksl : ks.length ≤ 8000 := by have := hT.own.size_le; omega
      have htot : ∀ b, -(8000 : Int) ≤ (T b).getD 0 ∧ (T b).getD 0 ≤ 8000 := fun b => by
        cases hb : T b with
        | none => simp
        | some k => simpa using hTb b k hb
      have hTn2 : (T (((a0, a1), (a2, a3)), ((c0, c1), (c2, c3)))).getD 0 = tn := by rw [HTn.out]; rfl
      have Hrg4 : Hid (W3.drew.ranges Tryz.prog 106 Raw tb (w.heap.size + 3) n D (fun z => left z && !z.sameKey (keB (((a0, a1), (a2, a3)), ((c0, c1), (c2, c3))))) cnt2) := hide Hrg.out
      have HF4 := hide (HF3.out.later (by simp) ((Below.refl _ W3).drew))
      obtain ⟨A1, hA1⟩ : ∃ A1, (fun j => sumT ks (fun b => (T b).getD 0) (aboT E (Acre.mdn (f1, f2) (t1, t2)) j)) = A1 := ⟨_, rfl⟩
      obtain ⟨A2, hA2⟩ : ∃ A2, (fun j => sumT ks (fun b => (T b).getD 0) (acrT E (Acre.mdn (f1, f2) (t1, t2)) j)) = A2 := ⟨_, rfl⟩
      have HB1 : Hid (∀ j, -(64000000 : Int) ≤ A1 j ∧ A1 j ≤ 64000000) := hide (fun j => by
        have := sumT_bd (ks := ks) (c := aboT E (Acre.mdn (f1, f2) (t1, t2)) j) (by omega) htot
        rw [← hA1]; dsimp only; omega)
      have HB2 : Hid (∀ j, -(64000000 : Int) ≤ A2 j ∧ A2 j ≤ 64000000) := hide (fun j => by
        have := sumT_bd (ks := ks) (c := acrT E (Acre.mdn (f1, f2) (t1, t2)) j) (by omega) htot
        rw [← hA2]; dsimp only; omega)
      rw [hA1] at HF4 Hg1
      rw [hA2] at HF4 Hg2
      rw [hTn2] at Hg1 Hg2
      rw [← goIn_start A1 lo tn, ← goIn_empty A2 (lo + 1) lo tn (by omega)] at HF4
      generalize W3.drew = WD at *
      clear z0 z1 z2 z3 z4 z5 z6 z7 s5 lk1 lk2 HF3 Hrg bB htot hA1 hA2 hTn2
      go_wp2
      go_loopw [11] (fun i wr => ∃ j : Nat, i = .int .i64 j ∧ lo ≤ j ∧ (j ≤ hi ∨ (hi ≤ lo ∧ j = lo)) ∧ Hid (wr.ranges Tryz.prog 106 Raw tb (w.heap.size + 3) n D (fun z => left z && !z.sameKey (keB (((a0, a1), (a2, a3)), ((c0, c1), (c2, c3))))) cnt2) ∧ Hid (FsI w wr L [.int .i64 f1, .int .i64 f2, .int .i64 t1, .int .i64 t2, .slice la L lcap, .map (some rb)] (goIn A1 lo j tn) (goIn A2 (lo + 1) j tn))) (fun i _ => hi - (intOf i).toNat)
      case atStart => exact ⟨lo, rfl, Nat.le_refl _, by omega, Hrg4, HF4⟩
      case round =>
        obtain ⟨j, rfl, hj1, hj2, hr4, hf4⟩ := hrel
        clear Hrg4 HF4
        by_cases hjh : j < hi
        · have hF := hf4.out
          have hjL : j < L := by omega
          have y1 : wr.cell? ⟨w.heap.size + 1, j, none⟩ = some (.int .i64 (A1 j)) := by
            rw [hF.r1.cellAt j (by omega), rowI_get hjL, goIn_self]
          have y1f := hF.r1.frozenAt j
          have hb1 := HB1.out j
          have HS1 := hF.set1 (by simp) j (A1 j + tn)
          have e1 : (fun q => if q = j then A1 j + tn else goIn A1 lo j tn q) = goIn A1 lo (j + 1) tn := by
            have := goIn_step A1 lo j tn hj1
            rw [goIn_self] at this
            exact this
          rw [e1] at HS1
          have HR1 := hide (hr4.out.of_walks (KeepsWalks.setCell wr ⟨w.heap.size + 1, j, none⟩ (.int .i64 (A1 j + tn))))
          have HH1 := hide HS1
          clear HS1 e1 hF hf4 hr4
          go_upto_region 11 with fail
          clear y1 y1f hb1
          generalize wr.setCell ⟨w.heap.size + 1, j, none⟩ (.int .i64 (A1 j + tn)) = V1 at *
          by_cases hlj : lo < j
          · have hF := HH1.out
            have y2 : V1.cell? ⟨w.heap.size + 1 + 1, j, none⟩ = some (.int .i64 (A2 j)) := by
              rw [hF.r2.cellAt j (by omega), rowI_get hjL, goIn_self]
            have y2f := hF.r2.frozenAt j
            have hb2 := HB2.out j
            have HS2 := hF.set2 (by simp) j (A2 j + tn)
            have e2 : (fun q => if q = j then A2 j + tn else goIn A2 (lo + 1) j tn q) = goIn A2 (lo + 1) (j + 1) tn := by
              have := goIn_step A2 (lo + 1) j tn (by omega)
              rw [goIn_self] at this
              exact this
            rw [e2] at HS2
            have HR2 := hide (HR1.out.of_walks (KeepsWalks.setCell V1 ⟨w.heap.size + 1 + 1, j, none⟩ (.int .i64 (A2 j + tn))))
            have HH2 := hide HS2
            clear HS2 e2 hF HH1 HR1
            go_wp2
            go_roundw
            case rel => exact ⟨j + 1, by go_num, by omega, by omega, HR2, HH2⟩
            case measure => simp [intOf]; omega
          · obtain rfl : lo = j := by omega
            have HH2 := HH1.out
            rw [← goIn_skip] at HH2
            have HH3 := hide HH2
            clear HH1 HH2
            go_wp2
            go_roundw
            case rel => exact ⟨lo + 1, by go_num, by omega, by omega, HR1, HH3⟩
            case measure => simp [intOf]; omega
        · have HH2 := hf4.out
          have e1 : goIn A1 lo j tn = goIn A1 lo hi tn := by
            rcases hj2 with h | ⟨h, rfl⟩
            · rw [show j = hi by omega]
            · rw [goIn_start, goIn_empty A1 j hi tn h]
          have e2 : goIn A2 (lo + 1) j tn = goIn A2 (lo + 1) hi tn := by
            rcases hj2 with h | ⟨h, rfl⟩
            · rw [show j = hi by omega]
            · rw [goIn_empty A2 (j + 1) j tn (by omega), goIn_empty A2 (j + 1) hi tn (by omega)]
          rw [e1, e2, Hg1.out, Hg2.out] at HH2
          have HH3 := hide HH2
          clear HH2 hf4 e1 e2
          go_wp2
          go_roundw
          case rel => exact ⟨_, cnt2, ks ++ [(((a0, a1), (a2, a3)), ((c0, c1), (c2, c3)))], hr4.out, by simp; omega, HC2, HH3⟩
          case measure => rw [hr4.out.left_eq, Hold.out.left_eq]; exact hcnt
end Go.Proofs.YtkjlkbgdkdcboaaGreatDoor

set_option linter.unusedSimpArgs false
set_option linter.unusedVariables false
namespace Go.Proofs.YtkjlkbgdkdcboaaGreatDoor
theorem sum_swap0 (f : Acre.Fc) (c : Acre.Ed × Acre.Ed → Bool) (ks : List (Acre.Ed × Acre.Ed)) (hn : ks.Nodup) : ∀ (ps : List Acre.Pc), (∀ p ∈ ps, p.2 ∈ ks ∨ Acre.act p f = 0) → sumT ks (bandT ps f) c = (ps.map (fun p => if c p.2 = true then Acre.act p f else 0)).sum
  | [], _ => sumT_zero c ks
  | p :: ps, h => by
    have ih := sum_swap0 f c ks hn ps (fun q hq => h q (List.mem_cons_of_mem _ hq))
    have e : bandT (p :: ps) f = fun b => (if p.2 = b then Acre.act p f else 0) + bandT ps f b := by
      funext b; unfold bandT; rw [List.map_cons, List.sum_cons]
    rw [e, sumT_add, ih, List.map_cons, List.sum_cons]
    rcases h p (List.mem_cons_self ..) with h1 | h1
    · rw [sumT_one c ks hn h1]
    · rw [h1]
      have : (fun b => if p.2 = b then (0 : Int) else 0) = fun _ => 0 := by funext b; split <;> rfl
      rw [this, sumT_zero]
      simp
theorem okS_slab {E : List Acre.Ed} {kk : Nat} {op : Int} {f t : Acre.Fc} {ks : List (Acre.Ed × Acre.Ed)} {T : Acre.Ed × Acre.Ed → Int} {ps : List Acre.Pc} (hn : ks.Nodup) (hT : ∀ b, T b = bandT ps f b) (hp : ∀ p ∈ ps, p.2 ∈ ks ∨ Acre.act p f = 0) : okS E kk op f t ks T = Acre.slabOk E kk op ps f t := by
  have e : T = bandT ps f := funext hT
  subst e
  unfold okS Acre.slabOk
  have h1 : ∀ i, sumT ks (bandT ps f) (aboT E (Acre.mdn f t) i) = Acre.aboveP E ps f t i := fun i => sum_swap0 f _ ks hn ps hp
  have h2 : ∀ i, sumT ks (bandT ps f) (acrT E (Acre.mdn f t) i) = Acre.acrossP E ps f t i := fun i => sum_swap0 f _ ks hn ps hp
  simp only [h1, h2]
end Go.Proofs.YtkjlkbgdkdcboaaGreatDoor
namespace Go.Proofs.YtkjlkbgdkdcboaaGreatDoor
theorem Lt_irr (x : Acre.Fc) : ¬ Acre.Lt x x := fun h => Int.lt_irrefl _ h
theorem Lt_asy {x y : Acre.Fc} (h : Acre.Lt x y) : ¬ Acre.Lt y x := fun h' => by
  unfold Acre.Lt at h h'
  exact Int.lt_irrefl _ (Int.lt_trans h h')
theorem come_iff {cs : List Acre.Fc} (hs : cs.Pairwise Acre.Lt) {k : Nat} (hk : k < cs.length) {x : Acre.Fc} (hx : x ∈ cs) : x ∈ cs.take (k + 1) ↔ ¬ Acre.Lt cs[k] x := by
  have hp := List.pairwise_iff_getElem.1 hs
  obtain ⟨j, hj, rfl⟩ := List.mem_iff_getElem.1 hx
  constructor
  · intro h
    obtain ⟨i, hi, e⟩ := List.mem_iff_getElem.1 h
    rw [List.length_take] at hi
    rw [List.getElem_take] at e
    rw [← e]
    by_cases hik : i = k
    · subst hik; exact Lt_irr _
    · exact Lt_asy (hp i k (by omega) hk (by omega))
  · intro h
    by_cases hjk : j ≤ k
    · exact List.mem_iff_getElem.2 ⟨j, by rw [List.length_take]; omega, by rw [List.getElem_take]⟩
    · exact absurd (hp k j hk hj (by omega)) h
theorem act_come {cs : List Acre.Fc} (hs : cs.Pairwise Acre.Lt) {k : Nat} (hk : k < cs.length) {p : Acre.Pc} (h1 : p.1.1 ∈ cs) (h2 : p.1.2 ∈ cs) : Acre.act p cs[k] = (if p.1.1 ∈ cs.take (k + 1) then 1 else 0) - (if p.1.2 ∈ cs.take (k + 1) then 1 else 0) := by
  unfold Acre.act
  have e1 := come_iff hs hk h1
  have e2 := come_iff hs hk h2
  by_cases a1 : Acre.Lt cs[k] p.1.1 <;> by_cases a2 : Acre.Lt cs[k] p.1.2 <;> simp [e1, e2, a1, a2]
def comeT (ps : List Acre.Pc) (done : List Acre.Fc) (b : Acre.Ed × Acre.Ed) : Int := (ps.map (fun p => if p.2 = b then (if p.1.1 ∈ done then 1 else 0) - (if p.1.2 ∈ done then 1 else 0) else 0)).sum
def comeK (ps : List Acre.Pc) (done : List Acre.Fc) (b : Acre.Ed × Acre.Ed) : Bool := ps.any (fun p => decide (p.2 = b) && (decide (p.1.1 ∈ done) || decide (p.1.2 ∈ done)))
theorem comeT_band {cs : List Acre.Fc} (hs : cs.Pairwise Acre.Lt) {k : Nat} (hk : k < cs.length) {ps : List Acre.Pc} (h : ∀ p ∈ ps, p.1.1 ∈ cs ∧ p.1.2 ∈ cs) (b : Acre.Ed × Acre.Ed) : comeT ps (cs.take (k + 1)) b = bandT ps cs[k] b := by
  unfold comeT bandT
  congr 1
  refine List.map_congr_left fun p hp => ?_
  split
  · exact (act_come hs hk (h p hp).1 (h p hp).2).symm
  · rfl
theorem comeK_act {cs : List Acre.Fc} (hs : cs.Pairwise Acre.Lt) {k : Nat} (hk : k < cs.length) {ps : List Acre.Pc} (h : ∀ p ∈ ps, p.1.1 ∈ cs ∧ p.1.2 ∈ cs) {p : Acre.Pc} (hp : p ∈ ps) (hn : comeK ps (cs.take (k + 1)) p.2 = false) : Acre.act p cs[k] = 0 := by
  unfold comeK at hn
  rw [List.any_eq_false] at hn
  have := hn p hp
  simp at this
  rw [act_come hs hk (h p hp).1 (h p hp).2, if_neg this.1, if_neg this.2]
  rfl
theorem comeT_none {ps : List Acre.Pc} {done : List Acre.Fc} {b : Acre.Ed × Acre.Ed} (hn : comeK ps done b = false) : comeT ps done b = 0 := by
  unfold comeT
  have : ∀ p ∈ ps, (if p.2 = b then (if p.1.1 ∈ done then (1 : Int) else 0) - (if p.1.2 ∈ done then 1 else 0) else 0) = 0 := by
    intro p hp
    unfold comeK at hn
    rw [List.any_eq_false] at hn
    have := hn p hp
    split
    · rename_i e
      simp [e] at this
      rw [if_neg this.1, if_neg this.2]
      rfl
    · rfl
  rw [List.map_congr_left this]
  clear this hn
  induction ps with
  | nil => rfl
  | cons a r ih => rw [List.map_cons, List.sum_cons, ih]; rfl
end Go.Proofs.YtkjlkbgdkdcboaaGreatDoor
namespace Go.Proofs.YtkjlkbgdkdcboaaGreatDoor
def begB (ps : List Acre.Pc) (f : Acre.Fc) : List (Acre.Ed × Acre.Ed) := (ps.filter (fun p => decide (p.1.1 = f))).map (·.2)
def endB (ps : List Acre.Pc) (f : Acre.Fc) : List (Acre.Ed × Acre.Ed) := (ps.filter (fun p => decide (p.1.2 = f))).map (·.2)
theorem begB_snoc (ps : List Acre.Pc) (p : Acre.Pc) (f : Acre.Fc) : begB (ps ++ [p]) f = if p.1.1 = f then begB ps f ++ [p.2] else begB ps f := by
  unfold begB
  rw [List.filter_append, List.map_append]
  by_cases h : p.1.1 = f <;> simp [h]
theorem endB_snoc (ps : List Acre.Pc) (p : Acre.Pc) (f : Acre.Fc) : endB (ps ++ [p]) f = if p.1.2 = f then endB ps f ++ [p.2] else endB ps f := by
  unfold endB
  rw [List.filter_append, List.map_append]
  by_cases h : p.1.2 = f <;> simp [h]
theorem begB_cons (ps : List Acre.Pc) (p : Acre.Pc) (f : Acre.Fc) : begB (p :: ps) f = if p.1.1 = f then p.2 :: begB ps f else begB ps f := by
  unfold begB
  by_cases h : p.1.1 = f <;> simp [h]
theorem endB_cons (ps : List Acre.Pc) (p : Acre.Pc) (f : Acre.Fc) : endB (p :: ps) f = if p.1.2 = f then p.2 :: endB ps f else endB ps f := by
  unfold endB
  by_cases h : p.1.2 = f <;> simp [h]
theorem comeT_next {done : List Acre.Fc} {f : Acre.Fc} (hf : f ∉ done) (b : Acre.Ed × Acre.Ed) : ∀ (ps : List Acre.Pc), comeT ps (done ++ [f]) b = comeT ps done b + (begB ps f).count b - (endB ps f).count b
  | [] => rfl
  | p :: ps => by
    have ih := comeT_next hf b ps
    have e : ∀ d, comeT (p :: ps) d b = (if p.2 = b then (if p.1.1 ∈ d then 1 else 0) - (if p.1.2 ∈ d then 1 else 0) else 0) + comeT ps d b := fun d => by
      unfold comeT; rw [List.map_cons, List.sum_cons]
    have m : ∀ x : Acre.Fc, (if x ∈ done ++ [f] then (1 : Int) else 0) = (if x ∈ done then 1 else 0) + (if x = f then 1 else 0) := by
      intro x
      by_cases hx : x = f
      · subst hx; simp [hf]
      · simp [hx]
    rw [e, e, ih, begB_cons, endB_cons, m, m]
    by_cases hb : p.2 = b
    · by_cases h1 : p.1.1 = f <;> by_cases h2 : p.1.2 = f <;> simp only [h1, h2, hb, if_true, if_false, List.count_cons_self] <;> push_cast <;> omega
    · by_cases h1 : p.1.1 = f <;> by_cases h2 : p.1.2 = f <;> simp [h1, h2, hb] <;> omega
theorem comeK_next (done : List Acre.Fc) (f : Acre.Fc) (b : Acre.Ed × Acre.Ed) (ps : List Acre.Pc) : comeK ps (done ++ [f]) b = (comeK ps done b || decide (b ∈ begB ps f) || decide (b ∈ endB ps f)) := by
  rw [Bool.eq_iff_iff]
  unfold comeK begB endB
  simp only [List.any_eq_true, Bool.and_eq_true, Bool.or_eq_true, decide_eq_true_eq, List.mem_append, List.mem_singleton, List.mem_map, List.mem_filter]
  constructor
  · rintro ⟨p, hp, rfl, (h | h) | (h | h)⟩
    · exact .inl (.inl ⟨p, hp, rfl, .inl h⟩)
    · exact .inl (.inr ⟨p, ⟨hp, h⟩, rfl⟩)
    · exact .inl (.inl ⟨p, hp, rfl, .inr h⟩)
    · exact .inr ⟨p, ⟨hp, h⟩, rfl⟩
  · rintro ((⟨p, hp, rfl, h | h⟩ | ⟨p, ⟨hp, h⟩, rfl⟩) | ⟨p, ⟨hp, h⟩, rfl⟩)
    · exact ⟨p, hp, rfl, .inl (.inl h)⟩
    · exact ⟨p, hp, rfl, .inr (.inl h)⟩
    · exact ⟨p, hp, rfl, .inl (.inr h)⟩
    · exact ⟨p, hp, rfl, .inr (.inr h)⟩
theorem comeT_bd (done : List Acre.Fc) (b : Acre.Ed × Acre.Ed) : ∀ (ps : List Acre.Pc), -(ps.length : Int) ≤ comeT ps done b ∧ comeT ps done b ≤ ps.length
  | [] => by simp [comeT]
  | p :: ps => by
    have ih := comeT_bd done b ps
    have e : comeT (p :: ps) done b = (if p.2 = b then (if p.1.1 ∈ done then 1 else 0) - (if p.1.2 ∈ done then 1 else 0) else 0) + comeT ps done b := by
      unfold comeT; rw [List.map_cons, List.sum_cons]
    rw [e, List.length_cons]
    push_cast
    split
    · split <;> split <;> omega
    · omega
theorem comeK_mem {ps : List Acre.Pc} {done : List Acre.Fc} {b : Acre.Ed × Acre.Ed} (h : comeK ps done b = true) : ∃ p ∈ ps, p.2 = b := by
  unfold comeK at h
  obtain ⟨p, hp, h2⟩ := List.any_eq_true.1 h
  simp at h2
  exact ⟨p, hp, h2.1⟩
end Go.Proofs.YtkjlkbgdkdcboaaGreatDoor
namespace Go.Proofs.YtkjlkbgdkdcboaaGreatDoor
abbrev Bd := Acre.Ed × Acre.Ed
def addB (d : Int) (T : Bd → Option Int) (b : Bd) : Bd → Option Int := fun c => if c = b then some ((T b).getD 0 + d) else T c
def addL (d : Int) (T : Bd → Option Int) (l : List Bd) : Bd → Option Int := l.foldl (addB d) T
theorem addL_snoc (d : Int) (T : Bd → Option Int) (l : List Bd) (b : Bd) : addL d T (l ++ [b]) = addB d (addL d T l) b := by
  unfold addL; rw [List.foldl_append]; rfl
theorem addL_take {d : Int} {T : Bd → Option Int} {l : List Bd} {k : Nat} (h : k < l.length) : addL d T (l.take (k + 1)) = addB d (addL d T (l.take k)) l[k] := by
  rw [List.take_add_one, List.getElem?_eq_getElem h]
  exact addL_snoc d T _ _
theorem addL_eq (d : Int) (T : Bd → Option Int) (c : Bd) : ∀ (l : List Bd), addL d T l c = if (T c).isSome = true ∨ c ∈ l then some ((T c).getD 0 + d * (l.count c : Nat)) else none := by
  intro l
  induction l generalizing T with
  | nil =>
    show T c = _
    cases h : T c <;> simp
  | cons b r ih =>
    show addL d (addB d T b) r c = _
    rw [ih]
    unfold addB
    by_cases e : c = b
    · subst e
      simp only [if_true, Option.isSome_some, true_or, Option.getD_some, List.mem_cons, or_true, List.count_cons_self]
      congr 1
      push_cast
      rw [Int.mul_add, Int.mul_one]
      omega
    · have e' : ¬ b = c := fun h => e h.symm
      simp [e, e']
theorem addL_bd {d : Int} {T : Bd → Option Int} {B : Int} (hd : -1 ≤ d ∧ d ≤ 1) (h : ∀ b, -B ≤ (T b).getD 0 ∧ (T b).getD 0 ≤ B) (l : List Bd) (c : Bd) : -(B + l.length) ≤ (addL d T l c).getD 0 ∧ (addL d T l c).getD 0 ≤ B + l.length := by
  rw [addL_eq]
  have hb := h c
  have h1 := List.count_le_length (a := c) (l := l)
  have hB : 0 ≤ B := by omega
  split
  · simp only [Option.getD_some]
    rcases (show d = -1 ∨ d = 0 ∨ d = 1 by omega) with rfl | rfl | rfl <;> omega
  · simp only [Option.getD_none]
    omega
def timT (ps : List Acre.Pc) (done : List Acre.Fc) : Bd → Option Int := fun b => if comeK ps done b = true then some (comeT ps done b) else none
theorem timT_getD (ps : List Acre.Pc) (done : List Acre.Fc) (b : Bd) : (timT ps done b).getD 0 = comeT ps done b := by
  unfold timT
  cases h : comeK ps done b
  · rw [comeT_none h]; rfl
  · rfl
theorem timT_some (ps : List Acre.Pc) (done : List Acre.Fc) (b : Bd) : (timT ps done b).isSome = comeK ps done b := by
  unfold timT
  cases comeK ps done b <;> rfl
theorem timT_nil (ps : List Acre.Pc) : timT ps [] = fun _ => none := by
  funext b
  unfold timT comeK
  simp
theorem timT_next {ps : List Acre.Pc} {done : List Acre.Fc} {f : Acre.Fc} (hf : f ∉ done) : addL (-1) (addL 1 (timT ps done) (begB ps f)) (endB ps f) = timT ps (done ++ [f]) := by
  funext b
  rw [addL_eq]
  have e1 := addL_eq 1 (timT ps done) b (begB ps f)
  have hK := comeK_next done f b ps
  have hT := comeT_next hf b ps
  have hs : (addL 1 (timT ps done) (begB ps f) b).isSome = (comeK ps done b || decide (b ∈ begB ps f)) := by
    rw [e1, timT_some]
    cases comeK ps done b <;> by_cases hb : b ∈ begB ps f <;> simp [hb]
  have hg : (addL 1 (timT ps done) (begB ps f) b).getD 0 = comeT ps done b + ((begB ps f).count b : Nat) := by
    rw [e1, timT_some]
    split
    · rw [timT_getD]; simp
    · rename_i hn
      rw [not_or] at hn
      have h0 := comeT_none (ps := ps) (done := done) (b := b) (by simpa using hn.1)
      rw [h0, List.count_eq_zero.2 hn.2]
      rfl
  rw [hs, hg]
  show _ = if comeK ps (done ++ [f]) b = true then some (comeT ps (done ++ [f]) b) else none
  rw [hK, hT]
  have e : ((comeK ps done b || decide (b ∈ begB ps f)) = true ∨ b ∈ endB ps f) ↔ ((comeK ps done b || decide (b ∈ begB ps f) || decide (b ∈ endB ps f)) = true) := by simp
  by_cases h : (comeK ps done b || decide (b ∈ begB ps f)) = true ∨ b ∈ endB ps f
  · rw [if_pos h, if_pos (e.1 h)]
    congr 1
    omega
  · rw [if_neg h, if_neg (fun h' => h (e.2 h'))]
theorem timT_bd (ps : List Acre.Pc) (done : List Acre.Fc) (b : Bd) : -(ps.length : Int) ≤ (timT ps done b).getD 0 ∧ (timT ps done b).getD 0 ≤ ps.length := by
  rw [timT_getD]
  exact comeT_bd done b ps
def cntE (ps : List Acre.Pc) (done : List Acre.Fc) : Nat := (done.map (fun f => (begB ps f).length + (endB ps f).length)).sum
theorem cntE_snoc (ps : List Acre.Pc) (done : List Acre.Fc) (f : Acre.Fc) : cntE ps (done ++ [f]) = cntE ps done + (begB ps f).length + (endB ps f).length := by
  unfold cntE
  rw [List.map_append, List.sum_append]
  simp
  omega
theorem begB_len (ps : List Acre.Pc) (p : Acre.Pc) (f : Acre.Fc) : (begB (p :: ps) f).length = (begB ps f).length + if f == p.1.1 then 1 else 0 := by
  rw [begB_cons]
  by_cases h : p.1.1 = f
  · subst h; simp
  · have : (f == p.1.1) = false := beq_eq_false_iff_ne.2 (fun e => h e.symm)
    rw [this, if_neg h]; simp
theorem endB_len (ps : List Acre.Pc) (p : Acre.Pc) (f : Acre.Fc) : (endB (p :: ps) f).length = (endB ps f).length + if f == p.1.2 then 1 else 0 := by
  rw [endB_cons]
  by_cases h : p.1.2 = f
  · subst h; simp
  · have : (f == p.1.2) = false := beq_eq_false_iff_ne.2 (fun e => h e.symm)
    rw [this, if_neg h]; simp
theorem cntE_cons (ps : List Acre.Pc) (p : Acre.Pc) : ∀ done : List Acre.Fc, cntE (p :: ps) done = cntE ps done + done.count p.1.1 + done.count p.1.2
  | [] => by simp [cntE]
  | f :: r => by
    have ih := cntE_cons ps p r
    unfold cntE at ih ⊢
    rw [List.map_cons, List.sum_cons, List.map_cons, List.sum_cons, ih, begB_len, endB_len, List.count_cons, List.count_cons]
    omega
theorem cntE_nil : ∀ done : List Acre.Fc, cntE [] done = 0
  | [] => rfl
  | f :: r => by
    have ih := cntE_nil r
    unfold cntE at ih ⊢
    rw [List.map_cons, List.sum_cons, ih]
    rfl
theorem cntE_le {done : List Acre.Fc} (hn : done.Nodup) : ∀ ps : List Acre.Pc, cntE ps done ≤ 2 * ps.length
  | [] => by rw [cntE_nil]; omega
  | p :: ps => by
    have ih := cntE_le hn ps
    have h1 := List.nodup_iff_count.1 hn p.1.1
    have h2 := List.nodup_iff_count.1 hn p.1.2
    rw [cntE_cons, List.length_cons]
    omega
theorem lt_nodup {cs : List Acre.Fc} (h : cs.Pairwise Acre.Lt) : cs.Nodup := by
  show List.Pairwise (· ≠ ·) cs
  exact h.imp (fun {a b} hab (e : a = b) => Lt_irr a (by subst e; exact hab))
theorem endsP_mem {ps : List Acre.Pc} {p : Acre.Pc} (h : p ∈ ps) : p.1.1 ∈ Acre.endsP ps ∧ p.1.2 ∈ Acre.endsP ps :=
  ⟨List.mem_flatMap.2 ⟨p, h, by simp⟩, List.mem_flatMap.2 ⟨p, h, by simp⟩⟩
theorem cutsP_more {E : List Acre.Ed} {more : List Acre.Fc} {x : Acre.Fc} (h : x ∈ more) : x ∈ Acre.cutsP E more := by
  unfold Acre.cutsP
  rw [Acre.mem_sortD]
  unfold Acre.cutL
  exact List.mem_append_left _ h
theorem okS_times {E : List Acre.Ed} {kk : Nat} {op : Int} {t : Acre.Fc} {ks : List Bd} {ps : List Acre.Pc} {cs : List Acre.Fc} (hs : cs.Pairwise Acre.Lt) {k : Nat} (hk : k < cs.length) (hc : ∀ p ∈ ps, p.1.1 ∈ cs ∧ p.1.2 ∈ cs) (hn : ks.Nodup) (hall : ∀ b, (∃ p ∈ ps, p.2 = b) → (timT ps (cs.take (k + 1)) b).isSome = true → b ∈ ks) :
    okS E kk op cs[k] t ks (fun b => (timT ps (cs.take (k + 1)) b).getD 0) = Acre.slabOk E kk op ps cs[k] t := by
  refine okS_slab hn (fun b => by rw [timT_getD]; exact comeT_band hs hk hc b) (fun p hp => ?_)
  cases h : comeK ps (cs.take (k + 1)) p.2
  · exact .inr (comeK_act hs hk hc hp h)
  · exact .inl (hall p.2 ⟨p, hp, rfl⟩ (by rw [timT_some]; exact h))
theorem filled_all {E : List Acre.Ed} {kk : Nat} {op : Int} {ps : List Acre.Pc} (h : ∀ s ∈ Acre.adj (Acre.cutsP E (Acre.endsP ps)), Acre.slabOk E kk op ps s.1 s.2 = true) : Acre.filledP E kk op ps = true := by
  unfold Acre.filledP
  exact List.all_eq_true.2 h
theorem filled_not {E : List Acre.Ed} {kk : Nat} {op : Int} {ps : List Acre.Pc} {s : Acre.Fc × Acre.Fc} (hs : s ∈ Acre.adj (Acre.cutsP E (Acre.endsP ps))) (h : Acre.slabOk E kk op ps s.1 s.2 = false) : Acre.filledP E kk op ps = false := by
  unfold Acre.filledP
  exact List.all_eq_false.2 ⟨s, hs, by simp [h]⟩
theorem pre_next {cs : List Acre.Fc} {pre : List Sl} {x : Sl} (h : (pre ++ [x]).map (·.1) = (Acre.adj cs).take (pre ++ [x]).length) (hk : pre.length < cs.length - 1) :
    pre.map (·.1) = (Acre.adj cs).take pre.length ∧ ∃ (h1 : pre.length + 1 < cs.length), x.1 = (cs[pre.length], cs[pre.length + 1]) := by
  have h1 : pre.length + 1 < cs.length := by omega
  have e := adj_get cs pre.length h1
  rw [List.length_append, List.length_singleton, List.map_append, List.take_add_one, e] at h
  have hl : (pre.map (·.1)).length = ((Acre.adj cs).take pre.length).length := by
    rw [List.length_map, List.length_take, adj_len]; omega
  obtain ⟨p1, p2⟩ := List.append_inj h hl
  refine ⟨p1, h1, ?_⟩
  simpa using p2
theorem take_next {cs : List Acre.Fc} {k : Nat} (hk : k < cs.length) : cs.take (k + 1) = cs.take k ++ [cs[k]] := by
  rw [List.take_add_one, List.getElem?_eq_getElem hk]; rfl
theorem nodup_next {cs : List Acre.Fc} (hn : cs.Nodup) {k : Nat} (hk : k < cs.length) : cs[k] ∉ cs.take k := by
  intro h
  obtain ⟨i, hi, e⟩ := List.mem_iff_getElem.1 h
  rw [List.length_take] at hi
  rw [List.getElem_take] at e
  have := (List.getElem_inj hn).1 e
  omega
end Go.Proofs.YtkjlkbgdkdcboaaGreatDoor
