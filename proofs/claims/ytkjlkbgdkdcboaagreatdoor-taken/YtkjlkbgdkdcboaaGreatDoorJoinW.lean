import Derived.Test.YtkjlkbgdkdcboaaGreatDoorKsA
import Derived.Test.YtkjlkbgdkdcboaaGreatDoorGyA
import Derived.Test.YtkjlkbgdkdcboaaGreatDoorSlabB
import Derived.Test.YtkjlkbgdkdcboaaGreatDoorJnA
import Derived.Stop.RegionWithIn
import Derived.Sort.CutIn

set_option linter.unusedSimpArgs false
set_option linter.unusedVariables false

set_option linter.unusedSimpArgs false
set_option linter.unusedVariables false

namespace Go.Proofs.YtkjlkbgdkdcboaaGreatDoor
open Go.RowKit Go.Maps Go.Shelf
attribute [local go_sem] Oper.semAt_some

theorem info39 : (Tryz.prog.info? 44).map (fun i => (i.zero, i.size, i.bytes)) = some (some (.agg #[.int .i64 0, .int .i64 0, .int .i64 0, .int .i64 0, .int .i64 0, .int .i64 0, .int .i64 0, .int .i64 0, .int .i64 0, .int .i64 0, .int .i64 0, .int .i64 0]), 12, 96) := by kernel_rfl

theorem bandsG_len {α : Type} : ∀ (l : List (Bool × α)) (i : Bool) (lo : α), (Slab.bandsG i lo l).length ≤ l.length
  | [], _, _ => by simp [Slab.bandsG]
  | (fl, e) :: t, i, lo => by
    unfold Slab.bandsG
    split
    · have := bandsG_len t true e; simp; omega
    · split
      · have := bandsG_len t false lo; simp; omega
      · have := bandsG_len t fl lo; simp; omega
theorem bandsP_len (E : List Acre.Ed) (kk : Nat) (op : Int) (f t : Acre.Fc) (hE : E.length ≤ 24) : (Acre.bandsP E kk op f t).length ≤ 24 := by
  rw [← bands_layers]
  unfold bandsOfL
  refine Nat.le_trans (bandsG_len _ _ _) ?_
  unfold layersP layTo
  simp only [List.length_map, List.length_range]
  unfold Acre.hts
  have a1 := sortD_len ((E.filter (fun e => !Acre.upr e)).map (fun e => Acre.hgt e (Acre.mdn f t)))
  have a2 := List.length_filter_le (fun e => !Acre.upr e) E
  rw [List.length_map] at a1
  omega
theorem layersP_len (E : List Acre.Ed) (kk : Nat) (op : Int) (f t : Acre.Fc) (hE : E.length ≤ 24) : (layersP E kk op f t).length ≤ 24 := by
  unfold layersP layTo
  simp only [List.length_map, List.length_range]
  unfold Acre.hts
  have a1 := sortD_len ((E.filter (fun e => !Acre.upr e)).map (fun e => Acre.hgt e (Acre.mdn f t)))
  have a2 := List.length_filter_le (fun e => !Acre.upr e) E
  rw [List.length_map] at a1
  omega
theorem joinB_len (f t : Acre.Fc) (ps : List Acre.Pc) (b : Acre.Ed × Acre.Ed) : (Acre.joinB f t ps b).length ≤ ps.length + 1 := by
  unfold Acre.joinB
  split
  · split <;> simp
  · simp
theorem foldB_len (f t : Acre.Fc) (l : List (Acre.Ed × Acre.Ed)) (ps : List Acre.Pc) : (l.foldl (Acre.joinB f t) ps).length ≤ ps.length + l.length := by
  induction l generalizing ps with
  | nil => simp
  | cons b r ih =>
    have := ih (Acre.joinB f t ps b)
    have := joinB_len f t ps b
    simp only [List.foldl_cons, List.length_cons]
    omega

theorem zero3 (u : World) : (zeroValue 3).run Tryz.prog u = .ok (.int .i64 0) u := by kernel_rfl
theorem MV.lookupOk {κ : Type} {kt : TypeId} {kv : κ → Value} {key : κ → Lit} {ok : κ → Prop} {w : World} {t e : TypeId} {b n : Nat} {D : DataW Value} {m : κ → Option Value} (h : MV w kt key ok b n D m) (K : KT kt kv key ok) (ht : Tryz.prog.underlying t = some (.map kt e)) {z : Value} (hz : ∀ u : World, (zeroValue e).run Tryz.prog u = .ok z u) {x : κ} (hx : ok x) :
    (Instr.lookup t (.map (some b)) (kv x) true).run Tryz.prog w = .ok (.tuple #[(m x).getD z, .bool (m x).isSome]) w := by
  have ha := h.at' x hx
  obtain ⟨es, clock, hb, F, hs, hD⟩ := id h.own
  rw [hD] at ha
  rcases Maps.fit_look true (Keyed.of_law K.law) ht (hz w) hb F (K.reads x hx) with ⟨h1, _, h3⟩ | ⟨e0, y, _, _, h1, h4, h5, _⟩
  · have hn : m x = none := by
      cases hm : m x with
      | none => rfl
      | some v =>
        have a1 := (ha (.bool true)).symm.trans (h3 _)
        have a2 := (ha (.bool false)).symm.trans (h3 _)
        rw [hm] at a1 a2
        simp at a1 a2
        rw [a1] at a2
        simp at a2
    rw [h1, hn]
    rfl
  · have hy : y.1 = .held e0.val := by unfold Raw at h4; simp at h4; rw [← h4]
    have hn : m x = some e0.val := by
      cases hm : m x with
      | none =>
        have a1 := (ha (.bool true)).symm.trans (h5 _)
        have a2 := (ha (.bool false)).symm.trans (h5 _)
        rw [hm, hy] at a1 a2
        simp at a1 a2
        rw [← a1] at a2
        simp at a2
      | some v =>
        have a1 := (ha (.bool true)).symm.trans (h5 _)
        rw [hm, hy] at a1
        simp at a1
        rw [a1]
    rw [h1, hn]
    rfl
/-- what the loop over the slabs keeps -/
structure JnI (w W : World) (ps : List Acre.Pc) : Prop where
  row : ∃ pv, Boxed W w.heap.size 34 pv ∧ W.ownsRow w.heap.size 44 12 pv ps.length (flatP ps)
  last : Boxed W (w.heap.size + 1 + 1) 99 (.map (some (w.heap.size + 1)))
  mv : ∃ D, MV W 106 keB WfB (w.heap.size + 1) ps.length D (lastM ps)
  bel : Below w.heap.size w W
theorem Boxed.later {W W' : World} {B : Nat} {t : TypeId} {v : Value} (h : Boxed W B t v) (hb : Below W.heap.size W W') : Boxed W' B t v := (hb.block B h.lt).trans h
theorem JnI.later {w W W' : World} {ps : List Acre.Pc} (h : JnI w W ps) (hb : Below W.heap.size W W') : JnI w W' ps := by
  obtain ⟨pv, h1, h2⟩ := h.row
  obtain ⟨D, hD⟩ := h.mv
  exact ⟨⟨pv, Boxed.later h1 hb, row_call h2 hb⟩, Boxed.later h.last hb, ⟨D, hD.later hb⟩, below_call hb h.bel⟩
theorem row_turn {W W' : World} {row : Option Nat} {base : Nat} {e : TypeId} {size : Nat} {v : Value} {k : Nat} {xs : List Value} (h : W.ownsRow base e size v k xs) (hg : W.grownBy W' row) (hr : ∀ r, row = some r → ∃ o : Obj, W.heap[r]? = some o ∧ o.isCells = false) : W'.ownsRow base e size v k xs := by
  refine h.kept hg ?_
  rcases h.2 with ⟨rfl, _⟩ | ⟨g, cap, cur, rfl, _, hgb, _⟩
  · exact .inl rfl
  · refine .inr fun e' => ?_
    obtain ⟨o, ho, hc⟩ := hr g (by simpa [Value.ownBlock] using e'.symm)
    rw [hgb] at ho; cases ho; cases hc
theorem JnI.own {w W W' : World} {B : Nat} {row : Option Nat} {ps : List Acre.Pc} (hB : w.heap.size + 3 ≤ B) (h : JnI w W ps) (hg : W.grownBy W' row) (hr : ∀ r, row = some r → B ≤ r ∧ ∃ o : Obj, W.heap[r]? = some o ∧ o.isCells = false) : JnI w W' ps := by
  have ne : ∀ k, k < B → row ≠ some k := fun k hk e => by have := (hr k e).1; omega
  obtain ⟨pv, h1, h2⟩ := h.row
  obtain ⟨D, hD⟩ := h.mv
  exact ⟨⟨pv, h1.kept hg (fun e => ne _ (by omega) e.symm), row_turn h2 hg (fun r e => (hr r e).2)⟩, h.last.kept hg (fun e => ne _ (by omega) e.symm), ⟨D, hD.grown hg (ne _ (by omega))⟩, h.bel.grown hg h.bel.size (fun c hc => by have := (hr c hc).1; omega)⟩
theorem SlabV.turn {n₀ : Nat} {W : World} {E : List Acre.Ed} {kk : Nat} {op : Int} {f t : Acre.Fc} {lv : Value} {rb : Nat} (h : SlabV n₀ W E kk op f t lv rb) (l : Nat) (r : Loop) (o' : Obj) (hl : W.heap[l]? = some (.loop r)) : SlabV n₀ (W.putObj l o') E kk op f t lv rb := by
  obtain ⟨m, D, hD⟩ := h.mv
  have hg := grownBy_putObj' W l o'
  refine ⟨row_turn h.row hg (fun q e => by cases e; exact ⟨_, hl, rfl⟩), h.lo, m, D, hD.grown hg (fun e => ?_)⟩
  cases e
  obtain ⟨es, clock, hb, _⟩ := hD.own
  rw [hl] at hb
  cases hb
theorem box_of_heap {W : World} {n : Nat} {l : List Value} {t : TypeId} (h : W.heap[n]? = some (.cells l.toArray t (0, 0))) : Box W n l := by
  refine ⟨fun k v hk => ?_, fun k hk => ?_⟩
  · simp [World.cell?, h, hk]
  · simp [World.frozen?, h]
theorem keepsFrom_below {B : Nat} {W W' : World} (h : Below W.heap.size W W') : KeepsFrom B W W' := ⟨h.size, fun k o _ hk _ => (h.block k (Array.getElem?_eq_some_iff.1 hk).1).trans hk⟩
theorem rowB_cells {w : World} {base g cap : Nat} {t : TypeId} {bs : List (Acre.Ed × Acre.Ed)} (h : w.ownsRow base t 8 (.slice (some ⟨g, 0, none⟩) bs.length cap) bs.length (flatB bs)) (k : Nat) (hk : k < bs.length) :
    (w.cell? ⟨g, k * 8, none⟩ = some (.int .i64 bs[k].1.1.1) ∧ w.cell? ⟨g, k * 8 + 1, none⟩ = some (.int .i64 bs[k].1.1.2) ∧ w.cell? ⟨g, k * 8 + 1 + 1, none⟩ = some (.int .i64 bs[k].1.2.1) ∧ w.cell? ⟨g, k * 8 + 1 + 1 + 1, none⟩ = some (.int .i64 bs[k].1.2.2)) ∧
    (w.cell? ⟨g, k * 8 + 1 + 1 + 1 + 1, none⟩ = some (.int .i64 bs[k].2.1.1) ∧ w.cell? ⟨g, k * 8 + 1 + 1 + 1 + 1 + 1, none⟩ = some (.int .i64 bs[k].2.1.2) ∧ w.cell? ⟨g, k * 8 + 1 + 1 + 1 + 1 + 1 + 1, none⟩ = some (.int .i64 bs[k].2.2.1) ∧ w.cell? ⟨g, k * 8 + 1 + 1 + 1 + 1 + 1 + 1 + 1, none⟩ = some (.int .i64 bs[k].2.2.2)) :=
  ⟨⟨row_at (f := bandL) (m := 8) (fun _ => rfl) h k 0 hk (by omega), row_at (f := bandL) (m := 8) (fun _ => rfl) h k 1 hk (by omega), row_at (f := bandL) (m := 8) (fun _ => rfl) h k 2 hk (by omega), row_at (f := bandL) (m := 8) (fun _ => rfl) h k 3 hk (by omega)⟩,
   ⟨row_at (f := bandL) (m := 8) (fun _ => rfl) h k 4 hk (by omega), row_at (f := bandL) (m := 8) (fun _ => rfl) h k 5 hk (by omega), row_at (f := bandL) (m := 8) (fun _ => rfl) h k 6 hk (by omega), row_at (f := bandL) (m := 8) (fun _ => rfl) h k 7 hk (by omega)⟩⟩
theorem row_types {W : World} {base base' size size' k k' : Nat} {e e' : TypeId} {v v' : Value} {xs ys : List Value} (h : W.ownsRow base e size v k xs) (h' : W.ownsRow base' e' size' v' k' ys) (hne : e ≠ e') : v.ownBlock = none ∨ v.ownBlock ≠ v'.ownBlock := by
  rcases h.2 with ⟨rfl, _⟩ | ⟨g, cap, cur, rfl, _, hg, _⟩
  · exact .inl rfl
  · refine .inr fun e1 => ?_
    rcases h'.2 with ⟨rfl, _⟩ | ⟨g', cap', cur', rfl, _, hg', _⟩
    · simp [Value.ownBlock] at e1
    · have : g = g' := by simpa [Value.ownBlock] using e1
      subst this
      rw [hg] at hg'
      simp at hg'
      exact hne hg'.2
theorem heap_types {W : World} {base size k n : Nat} {e t : TypeId} {v : Value} {xs : List Value} {cs : Array Value} (h : W.ownsRow base e size v k xs) (hn : W.heap[n]? = some (.cells cs t (0, 0))) (hne : t ≠ e) : some n ≠ v.ownBlock := by
  rcases h.2 with ⟨rfl, _⟩ | ⟨g, cap, cur, rfl, _, hg, _⟩
  · simp [Value.ownBlock]
  · intro e1
    have : n = g := by simpa [Value.ownBlock] using e1
    subst this
    rw [hg] at hn
    simp at hn
    exact hne hn.2.symm
/-- the pieces of the slabs that have come -/
def psOf (E : List Acre.Ed) (kk : Nat) (op : Int) (pre : List Sl) : List Acre.Pc := (pre.map (·.1)).foldl (Acre.joinS (Acre.bandsP E kk op)) []
theorem psOf_snoc (E : List Acre.Ed) (kk : Nat) (op : Int) (pre : List Sl) (x : Sl) : psOf E kk op (pre ++ [x]) = (Acre.bandsP E kk op x.1.1 x.1.2).foldl (Acre.joinB x.1.1 x.1.2) (psOf E kk op pre) := by
  unfold psOf
  rw [List.map_append, List.foldl_append]
  rfl
theorem psOf_len (E : List Acre.Ed) (kk : Nat) (op : Int) (hE : E.length ≤ 24) : ∀ (pre : List Sl), (psOf E kk op pre).length ≤ 24 * pre.length := by
  intro pre
  have : ∀ (l : List (Acre.Fc × Acre.Fc)) (ps : List Acre.Pc), (l.foldl (Acre.joinS (Acre.bandsP E kk op)) ps).length ≤ ps.length + 24 * l.length := by
    intro l
    induction l with
    | nil => intro ps; simp
    | cons a r ih =>
      intro ps
      have h1 := ih (Acre.joinS (Acre.bandsP E kk op) ps a)
      have h2 := foldB_len a.1 a.2 (Acre.bandsP E kk op a.1 a.2) ps
      have h3 := bandsP_len E kk op a.1 a.2 hE
      unfold Acre.joinS at h1 h2 ⊢
      simp only [List.foldl_cons, List.length_cons]
      omega
  have h := this (pre.map (·.1)) []
  unfold psOf
  simpa using h

theorem wpIn_weak {F : Fence} {n : Nat} {P : Program} {c : Code} {Q Q' : Exit → Act → World → Prop} {a : Act} {w : World} (h : Code.wpIn F n P c Q a w) (hq : ∀ e a w, Q e a w → Q' e a w) : Code.wpIn F n P c Q' a w :=
  fun b k cs hro hb hr => let ⟨e, a', w', q, r⟩ := h b k cs hro hb hr; ⟨e, a', w', hq _ _ _ q, r⟩

/-- what a block is for -/
def tagOf : Obj → Option TypeId
  | .cells _ t _ => some t
  | _ => none
def RowTag (W : World) (row : Option Nat) (T : Option TypeId) : Prop := ∀ r, row = some r → ∃ o, W.heap[r]? = some o ∧ tagOf o = T
theorem RowTag.of_row {W : World} {base size k : Nat} {e : TypeId} {v : Value} {xs : List Value} (h : W.ownsRow base e size v k xs) : RowTag W v.ownBlock (some e) := by
  intro r hr
  rcases h.2 with ⟨rfl, _⟩ | ⟨g, cap, cur, rfl, _, hg, _⟩
  · simp [Value.ownBlock] at hr
  · have : g = r := by simpa [Value.ownBlock] using hr
    subst this
    exact ⟨_, hg, rfl⟩
theorem block_tag {W V : World} {row : Option Nat} {T : Option TypeId} {n : Nat} {o : Obj} (hg : W.grownBy V row) (ht : RowTag W row T) (hn : W.heap[n]? = some o) (hne : tagOf o ≠ T) : V.heap[n]? = some o := by
  refine (hg.block n (Array.getElem?_eq_some_iff.1 hn).1 (fun e => ?_)).trans hn
  obtain ⟨o', h1, h2⟩ := ht n e.symm
  rw [hn] at h1
  cases h1
  exact hne h2
theorem row_tag {W V : World} {row : Option Nat} {T : Option TypeId} {base size k : Nat} {e : TypeId} {v : Value} {xs : List Value} (hg : W.grownBy V row) (ht : RowTag W row T) (h : W.ownsRow base e size v k xs) (hne : some e ≠ T) : V.ownsRow base e size v k xs := by
  refine h.kept hg ?_
  rcases h.2 with ⟨rfl, _⟩ | ⟨g, cap, cur, rfl, _, hgb, _⟩
  · exact .inl rfl
  · refine .inr fun e' => ?_
    obtain ⟨o, h1, h2⟩ := ht g (by simpa [Value.ownBlock] using e'.symm)
    rw [hgb] at h1
    cases h1
    exact hne h2
theorem mv_tag {W V : World} {row : Option Nat} {t : TypeId} {κ : Type} {kt : TypeId} {key : κ → Lit} {ok : κ → Prop} {b n : Nat} {D : DataW Value} {m : κ → Option Value} (hg : W.grownBy V row) (ht : RowTag W row (some t)) (h : MV W kt key ok b n D m) : MV V kt key ok b n D m := by
  refine h.grown hg (fun e => ?_)
  obtain ⟨o, h1, h2⟩ := ht b e
  obtain ⟨es, clock, hb, _⟩ := h.own
  rw [hb] at h1
  cases h1
  cases h2
/-- what a round of the inner loop keeps beside the pieces and the map -/
structure JRest (w W wr : World) (B0 n₀ Bx : Nat) (ob : Array Value) (bv : Value) (bs : List (Acre.Ed × Acre.Ed)) : Prop where
  last : Boxed wr (w.heap.size + 1 + 1) 99 (.map (some (w.heap.size + 1)))
  bel : Below w.heap.size w wr
  kf : KeepsFrom B0 W wr
  bn : Below n₀ W wr
  bx : wr.heap[Bx]? = some (.cells ob 102 (0, 0))
  rb : wr.ownsRow W.heap.size 106 8 bv bs.length (flatB bs)
theorem JRest.step {w W wr V : World} {B0 n₀ Bx : Nat} {ob : Array Value} {bv : Value} {bs : List (Acre.Ed × Acre.Ed)} {row : Option Nat} {T : Option TypeId} (h : JRest w W wr B0 n₀ Bx ob bv bs) (hn₀ : n₀ ≤ w.heap.size) (hg : wr.grownBy V row) (ht : RowTag wr row T) (h1 : T ≠ some 99) (h2 : T ≠ some 102) (h3 : T ≠ some 106) (hlow : ∀ r, row = some r → w.heap.size ≤ r) (hk : T = none → ∀ r, row = some r → r < B0) : JRest w W V B0 n₀ Bx ob bv bs := by
  refine ⟨block_tag hg ht h.last (fun e => h1 e.symm), h.bel.grown hg h.bel.size hlow, h.kf.trans ⟨hg.size, fun k o hB hk' hc => ?_⟩, h.bn.grown hg (by have := h.bel.size; omega) (fun r e => by have := hlow r e; omega), block_tag hg ht h.bx (fun e => h2 e.symm), row_tag hg ht h.rb (fun e => h3 e.symm)⟩
  refine (hg.block k (Array.getElem?_eq_some_iff.1 hk').1 (fun e => ?_)).trans hk'
  obtain ⟨o', a1, a2⟩ := ht k e.symm
  rw [hk'] at a1
  cases a1
  cases o with
  | cells => cases hc
  | _ => have := hk a2.symm k e.symm; omega
theorem JRest.later {w W wr V : World} {B0 n₀ Bx : Nat} {ob : Array Value} {bv : Value} {bs : List (Acre.Ed × Acre.Ed)} (h : JRest w W wr B0 n₀ Bx ob bv bs) (hn₀ : n₀ ≤ w.heap.size) (hb : Below wr.heap.size wr V) : JRest w W V B0 n₀ Bx ob bv bs :=
  ⟨Boxed.later h.last hb, below_call hb h.bel, h.kf.trans (keepsFrom_below hb), h.bn.trans (hb.mono (by have := h.bel.size; omega)), (hb.block Bx (Array.getElem?_eq_some_iff.1 h.bx).1).trans h.bx, row_call h.rb hb⟩
theorem flatP_set : ∀ (qs : List Acre.Pc) (i : Nat) (hi : i < qs.length) (t : Acre.Fc), ((flatP qs).set (i * 12 + 1 + 1) (.int .i64 t.1)).set (i * 12 + 1 + 1 + 1) (.int .i64 t.2) = flatP (qs.set i (((Acre.pcAt qs i).1.1, t), (Acre.pcAt qs i).2))
  | [], _, hi, _ => by simp at hi
  | q :: r, 0, _, t => rfl
  | q :: r, i + 1, hi, t => by
    have := flatP_set r i (by simpa using hi) t
    have e1 : flatP (q :: r) = pcL q ++ flatP r := rfl
    have e2 : ∀ (j : Nat) (v : Value) (l : List Value), (pcL q ++ l).set (12 + j) v = pcL q ++ l.set j v := by
      intro j v l
      rw [List.set_append_right _ _ (by show 12 ≤ _; omega)]
      congr 2
      show 12 + j - 12 = j
      omega
    rw [e1, show (i + 1) * 12 + 1 + 1 = 12 + (i * 12 + 1 + 1) by omega, show 12 + (i * 12 + 1 + 1) + 1 = 12 + (i * 12 + 1 + 1 + 1) by omega, e2, e2, this]
    rfl
theorem rowP_cells {w : World} {base g cap : Nat} {t : TypeId} {qs : List Acre.Pc} (h : w.ownsRow base t 12 (.slice (some ⟨g, 0, none⟩) qs.length cap) qs.length (flatP qs)) (k : Nat) (hk : k < qs.length) :
    w.cell? ⟨g, k * 12 + 1 + 1, none⟩ = some (.int .i64 (Acre.pcAt qs k).1.2.1) ∧ w.cell? ⟨g, k * 12 + 1 + 1 + 1, none⟩ = some (.int .i64 (Acre.pcAt qs k).1.2.2) := by
  have e : Acre.pcAt qs k = qs[k] := by unfold Acre.pcAt; simp [hk]
  rw [e]
  exact ⟨row_at (f := pcL) (m := 12) (fun _ => rfl) h k 2 hk (by omega), row_at (f := pcL) (m := 12) (fun _ => rfl) h k 3 hk (by omega)⟩
/-- the whole of what the inner loop keeps -/
structure JF (w W wr : World) (B0 n₀ Bx : Nat) (ob : Array Value) (bv : Value) (bs : List (Acre.Ed × Acre.Ed)) (qs : List Acre.Pc) : Prop where
  jn : JnI w wr qs
  re : JRest w W wr B0 n₀ Bx ob bv bs
theorem JF.later {w W wr V : World} {B0 n₀ Bx : Nat} {ob : Array Value} {bv : Value} {bs : List (Acre.Ed × Acre.Ed)} {qs : List Acre.Pc} (h : JF w W wr B0 n₀ Bx ob bv bs qs) (hn₀ : n₀ ≤ w.heap.size) (hb : Below wr.heap.size wr V) : JF w W V B0 n₀ Bx ob bv bs qs := ⟨h.jn.later hb, h.re.later hn₀ hb⟩
theorem JF.set {w W wr : World} {B0 n₀ Bx : Nat} {ob : Array Value} {bv : Value} {bs : List (Acre.Ed × Acre.Ed)} {qs : List Acre.Pc} {gp cap : Nat} (h : JF w W wr B0 n₀ Bx ob bv bs qs) (hn₀ : n₀ ≤ w.heap.size) (hb : Boxed wr w.heap.size 34 (.slice (some ⟨gp, 0, none⟩) qs.length cap)) (hr : wr.ownsRow w.heap.size 44 12 (.slice (some ⟨gp, 0, none⟩) qs.length cap) qs.length (flatP qs)) (i : Nat) (hi : i < qs.length) (t : Acre.Fc) :
    JF w W ((wr.setCell ⟨gp, i * 12 + 1 + 1, none⟩ (.int .i64 t.1)).setCell ⟨gp, i * 12 + 1 + 1 + 1, none⟩ (.int .i64 t.2)) B0 n₀ Bx ob bv bs (qs.set i (((Acre.pcAt qs i).1.1, t), (Acre.pcAt qs i).2)) := by
  obtain ⟨r1, g1⟩ := hr.stored (i * 12 + 1 + 1) (.int .i64 t.1)
  obtain ⟨r2, g2⟩ := r1.stored (i * 12 + 1 + 1 + 1) (.int .i64 t.2)
  have t1 : RowTag wr (some gp) (some 44) := RowTag.of_row hr
  have t2 : RowTag (wr.setCell ⟨gp, i * 12 + 1 + 1, none⟩ (.int .i64 t.1)) (some gp) (some 44) := RowTag.of_row r1
  have lo : ∀ r, some gp = some r → w.heap.size ≤ r := fun r e => (hr.lt r e).1
  have R := (h.re.step hn₀ g1 t1 (by decide) (by decide) (by decide) lo (by simp)).step hn₀ g2 t2 (by decide) (by decide) (by decide) lo (by simp)
  obtain ⟨D, hD⟩ := h.jn.mv
  refine ⟨⟨⟨_, block_tag g2 t2 (block_tag g1 t1 hb (by simp [tagOf])) (by simp [tagOf]), ?_⟩, R.last, ⟨D, ?_⟩, R.bel⟩, R⟩
  · rw [List.length_set, ← flatP_set qs i hi]
    exact r2
  · rw [List.length_set, lastM_set qs i (((Acre.pcAt qs i).1.1, t), (Acre.pcAt qs i).2) rfl]
    exact mv_tag g2 t2 (mv_tag g1 t1 hD)
/-- between the map's turn and the append -/
structure JH (w W wr : World) (B0 n₀ Bx : Nat) (ob : Array Value) (bv : Value) (bs : List (Acre.Ed × Acre.Ed)) (pv : Value) (qs : List Acre.Pc) (p : Acre.Pc) : Prop where
  box : Boxed wr w.heap.size 34 pv
  row : wr.ownsRow w.heap.size 44 12 pv qs.length (flatP qs)
  mv : ∃ D, MV wr 106 keB WfB (w.heap.size + 1) (qs.length + 1) D (lastM (qs ++ [p]))
  re : JRest w W wr B0 n₀ Bx ob bv bs
theorem JF.half {w W wr V : World} {B0 n₀ Bx : Nat} {ob : Array Value} {bv pv : Value} {bs : List (Acre.Ed × Acre.Ed)} {qs : List Acre.Pc} {f t : Acre.Fc} {b : Acre.Ed × Acre.Ed} {D : DataW Value} (h : JF w W wr B0 n₀ Bx ob bv bs qs) (hn₀ : n₀ ≤ w.heap.size) (hB0 : w.heap.size + 3 ≤ B0) (hb : Boxed wr w.heap.size 34 pv) (hr : wr.ownsRow w.heap.size 44 12 pv qs.length (flatP qs)) (hg : wr.grownBy V (some (w.heap.size + 1))) (hm : MV V 106 keB WfB (w.heap.size + 1) (qs.length + 1) D (upd (lastM qs) b (.int .i64 qs.length))) : JH w W V B0 n₀ Bx ob bv bs pv qs ((f, t), b) := by
  obtain ⟨D0, hD⟩ := h.jn.mv
  have t1 : RowTag wr (some (w.heap.size + 1)) none := by
    intro r e
    cases e
    obtain ⟨es, clock, hb, _⟩ := hD.own
    exact ⟨_, hb, rfl⟩
  refine ⟨block_tag hg t1 hb (by simp [tagOf]), row_tag hg t1 hr (by simp), ⟨D, ?_⟩, h.re.step hn₀ hg t1 (by simp) (by simp) (by simp) (fun r e => by cases e; omega) (fun _ r e => by cases e; omega)⟩
  rw [← lastM_push]
  exact hm
theorem JH.push {w W wr w3 : World} {B0 n₀ Bx : Nat} {ob : Array Value} {bv pv v' : Value} {bs : List (Acre.Ed × Acre.Ed)} {qs : List Acre.Pc} {p : Acre.Pc} {tmp : Obj} (h : JH w W wr B0 n₀ Bx ob bv bs pv qs p) (hn₀ : n₀ ≤ w.heap.size) (hg : (wr.alloc tmp).grownBy w3 pv.ownBlock) (hr : w3.ownsRow w.heap.size 44 12 v' (qs.length + 1) (flatP qs ++ pcL p)) :
    Boxed w3 w.heap.size 34 pv ∧ JF w W (w3.setCell ⟨w.heap.size, 0, none⟩ v') B0 n₀ Bx ob bv bs (qs ++ [p]) := by
  have b1 := below1 wr tmp
  have t1 : RowTag (wr.alloc tmp) pv.ownBlock (some 44) := RowTag.of_row (h.row.alloc tmp)
  have hb3 : Boxed w3 w.heap.size 34 pv := block_tag hg t1 (Boxed.later h.box b1) (by simp [tagOf])
  have g2 := grownBy_setCell' w3 w.heap.size v'
  have t2 : RowTag w3 (some w.heap.size) (some 34) := fun r e => by cases e; exact ⟨_, hb3, rfl⟩
  obtain ⟨D, hD⟩ := h.mv
  have R := ((h.re.later hn₀ b1).step hn₀ hg t1 (by decide) (by decide) (by decide) (fun r e => (h.row.lt r e).1) (by simp)).step hn₀ g2 t2 (by decide) (by decide) (by decide) (fun r e => by cases e; omega) (by simp)
  refine ⟨hb3, ⟨⟨_, hb3.set v', ?_⟩, R.last, ⟨D, ?_⟩, R.bel⟩, R⟩
  · have e : flatP (qs ++ [p]) = flatP qs ++ pcL p := by simp [flatP]
    rw [e, List.length_append]
    exact row_tag g2 t2 hr (by decide)
  · rw [List.length_append]
    exact mv_tag g2 t2 (mv_tag hg t1 (hD.later b1))

set_option maxRecDepth 100000 in
set_option maxHeartbeats 2000000 in
theorem joined_in (g : Nat) (lb : Array Value) (eg : ∀ args w, (callFunc g args).run Tryz.prog w = .ok (.enter g args) w) (E : List Acre.Ed) (kk : Nat) (op : Int) (n₀ : Nat) (S Sp : List Sl → Prop) (N : Nat) (hN : N ≤ 100000) (w : World) (hn₀ : n₀ ≤ w.heap.size)
    (hsm : ∀ e ∈ E, SmE e) (hEl : E.length ≤ 24)
    (hseq : SeqAt Fence.wide 18 Tryz.prog g lb (fun x : Sl => #[slV4 x]) (Below n₀) (fun x W => SlabV n₀ W E kk op x.1.1 x.1.2 x.2.1 x.2.2) S Sp N w) :
    CallsIn Fence.wide 19 Tryz.prog 20 #[.func (.func g) #[] lb] w fun e w' => ∃ v xs, e = .returned v ∧ S xs ∧ w'.ownsRow w.heap.size 44 12 v (psOf E kk op xs).length (flatP (psOf E kk op xs)) ∧ Below w.heap.size w w' := by
  have hmm := @run_makeMap Tryz.prog
  obtain ⟨i0, hi, hz0, hz1, hz2⟩ := info_parts info39
  refine callsIn_of_wp_marks Tryz.func20 rfl trivial ?_ rfl
  simp only [Tryz.ntmps20, List.size_toArray, List.length_cons, List.length_nil, Nat.reduceAdd, Nat.reduceSub, Array.replicate_succ, Array.replicate_zero, List.push_toArray, List.append_toArray, List.nil_append, List.cons_append]
  gi_wp2
  have b0 := ((Boxed.new w 34 (.slice none 0 0)).alloc (.map #[] 0)).alloc (.cells #[.map (some (w.heap.size + 1))] 99)
  have b2 := Boxed.new ((w.alloc (.cells #[.slice none 0 0] 34)).alloc (.map #[] 0)) 99 (.map (some (w.heap.size + 1)))
  have m0 := (MV.new (kt := 106) (key := keB) (ok := WfB) (w.alloc (.cells #[.slice none 0 0] 34))).later (below1 _ (.cells #[.map (some (w.heap.size + 1))] 99))
  simp only [World.size_alloc] at b2 m0
  have hB := below3 w (.cells #[.slice none 0 0] 34) (.map #[] 0) (.cells #[.map (some (w.heap.size + 1))] 99)
  have hsz : (((w.alloc (.cells #[.slice none 0 0] 34)).alloc (.map #[] 0)).alloc (.cells #[.map (some (w.heap.size + 1))] 99)).heap.size = w.heap.size + 3 := by simp
  generalize ((w.alloc (.cells #[.slice none 0 0] 34)).alloc (.map #[] 0)).alloc (.cells #[.map (some (w.heap.size + 1))] 99) = W0 at *
  have hI0 : JnI w W0 [] := ⟨⟨_, b0, World.ownsRow_nil _ _ _ _⟩, b2, ⟨_, m0⟩, hB⟩
  refine wpIn_rangeFunc_at rfl (by omega) (gf := g) (lb := lb) rfl trivial eg hseq belowK_t (belowK_b (Nat.le_trans hn₀ (by omega))) hB (fun _ => rfl)
    (fun pre W => JnI w W (psOf E kk op pre)) (fun _ _ => False)
    (fun s A B row hs hg hr => hs.own (by omega) hg hr) (fun _ _ _ _ hs _ _ => hs)
    (fun x W r o' hl h => h.turn _ r o' hl) hI0
    (fun x a' W => ∃ Bx, w.heap.size + 3 ≤ Bx ∧ W.heap[Bx]? = some (.cells #[.int .i64 x.1.1.1, .int .i64 x.1.1.2, .int .i64 x.1.2.1, .int .i64 x.1.2.2, x.2.1, .map (some x.2.2)] 102 (0, 0)) ∧ a' = { tmps := #[.func (.func g) #[] lb, undef, .slice none 0 0, .pointer (some ⟨w.heap.size, 0, none⟩), .pointer (some ⟨w.heap.size + 1 + 1, 0, none⟩), .pointer (some ⟨Bx, 0, none⟩), undef, undef, undef, undef, .map (some (w.heap.size + 1)), .func (.func g) #[] lb, slV4 x, undef, undef, undef, undef, undef, undef, undef, undef, undef, undef, undef, undef, undef, undef, undef, undef, undef, undef, undef, undef, undef, undef, undef, undef, undef, undef, undef, undef, undef, undef, undef, undef, undef, undef, undef, undef, undef, undef, undef, undef, undef, undef, undef, undef, undef, undef, undef, undef], defers := [] })
    (fun x a' _ X Y row hs hg hr => by
      obtain ⟨Bx, h1, h2, h3⟩ := hs
      refine ⟨Bx, h1, (hg.block Bx (Array.getElem?_eq_some_iff.1 h2).1 (fun e' => ?_)).trans h2, h3⟩
      obtain ⟨_, o, ho, hc⟩ := hr Bx e'.symm
      rw [h2] at ho; cases ho; cases hc)
    ?assign ?body ?done ?stop
  case assign =>
    rintro l pre ⟨⟨⟨f1, f2⟩, ⟨t1, t2⟩⟩, ⟨lv, rb⟩⟩ W K hi hat hK
    dsimp only at hat hK
    obtain ⟨la, lg, lcap, rfl, _, _⟩ := row_form hat.row
    unfold slV4 at hK ⊢
    gi_wp2
    exact hK _ _ ((KeepsOthers.alloc _ _).from _) ((Below.refl _ W).alloc (by have := hi.bel.size; omega) _) (hi.later (below1 _ _)) (hat.later (below1 _ _)) ⟨W.heap.size, by have := hi.last.lt; omega, World.alloc_heap_new W _, rfl⟩
  case body =>
    rintro l pre ⟨⟨⟨f1, f2⟩, ⟨t1, t2⟩⟩, ⟨lv, rb⟩⟩ a' W hl hi hat ⟨Bx, hBx, bX, rfl⟩ _ hlen
    dsimp only at hat bX
    unfold slV4
    have hx : Box W Bx [.int .i64 f1, .int .i64 f2, .int .i64 t1, .int .i64 t2, lv, .map (some rb)] := box_of_heap bX
    obtain ⟨la, lg, lcap, rfl, _, _⟩ := row_form hat.row
    have s0 := hx.c 0 _ rfl
    have s1 := hx.c 1 _ rfl
    have s2 := hx.c 2 _ rfl
    have s3 := hx.c 3 _ rfl
    have s4 := hx.c 4 _ rfl
    have s5 := hx.c 5 _ rfl
    have hlL := layersP_len E kk op (f1, f2) (t1, t2) hEl
    have HC := hide (fun (V : World) (hb : Below W.heap.size W V) => bands_any (layersP E kk op (f1, f2) (t1, t2)) (.slice la (layersP E kk op (f1, f2) (t1, t2)).length lcap) (f1, f2) (t1, t2) n₀ rb V (row_call hat.row hb) hlL)
    gi_wp2_with (refine ⟨trivial, ?_⟩; gi_at_call 37; refine (CallsIn.inRound l (callsIn_wide.2 (HC.out W (Below.refl _ _)))).mono ?_; rintro e w1 ⟨u, rfl, hrowB, hb1⟩; rw [bands_layers] at hrowB; obtain ⟨ua, ub, ucap, rfl, hua, _⟩ := row_form hrowB)
    obtain ⟨bs, hbs⟩ : ∃ bs, Acre.bandsP E kk op (f1, f2) (t1, t2) = bs := ⟨_, rfl⟩
    have hbl := bandsP_len E kk op (f1, f2) (t1, t2) hEl
    have hbm : ∀ b ∈ Acre.bandsP E kk op (f1, f2) (t1, t2), SmE b.1 ∧ SmE b.2 := fun b hb => ⟨hsm _ (Acre.bandsP_mem hb).1.1, hsm _ (Acre.bandsP_mem hb).2.1⟩
    have hps := psOf_snoc E kk op pre (((f1, f2), (t1, t2)), (.slice la (layersP E kk op (f1, f2) (t1, t2)).length lcap, rb))
    dsimp only at hps
    have hpl := psOf_len E kk op hEl pre
    rw [hbs] at hrowB hua hbl hbm hps ⊢
    obtain ⟨ps, hpp⟩ : ∃ ps, psOf E kk op pre = ps := ⟨_, rfl⟩
    rw [hpp] at hi hps hpl
    have Hps := hide hps
    have H0 : Hid (JF w W w1 W0.heap.size n₀ Bx #[.int .i64 f1, .int .i64 f2, .int .i64 t1, .int .i64 t2, .slice la (layersP E kk op (f1, f2) (t1, t2)).length lcap, .map (some rb)] (.slice ua bs.length ucap) bs ((bs.take 0).foldl (Acre.joinB (f1, f2) (t1, t2)) ps)) :=
      ⟨hi.later hb1, ⟨(hi.later hb1).last, (hi.later hb1).bel, keepsFrom_below hb1, hb1.mono (by have := hi.bel.size; omega), (hb1.block Bx (hx.lt (by simp))).trans bX, hrowB⟩⟩
    have hBxW := hx.lt (by simp)
    have hWs := hi.last.lt
    clear hps hpp hbs hi hat hb1 hrowB hx bX HC s0 s1 s2 s3 s4 s5 hlL b0 b2 m0 hI0 hseq
    gi_wp2
    gi_loopw [16] (fun i wr => ∃ j : Nat, i = .int .i64 j ∧ j ≤ bs.length ∧ Hid (JF w W wr W0.heap.size n₀ Bx #[.int .i64 f1, .int .i64 f2, .int .i64 t1, .int .i64 t2, .slice la (layersP E kk op (f1, f2) (t1, t2)).length lcap, .map (some rb)] (.slice ua bs.length ucap) bs ((bs.take j).foldl (Acre.joinB (f1, f2) (t1, t2)) ps))) (fun i _ => bs.length - (intOf i).toNat)
    case atStart => exact ⟨0, rfl, Nat.zero_le _, H0⟩
    case round =>
      clear H0
      obtain ⟨j, rfl, hj, hr⟩ := hrel
      have hF := hr.out
      by_cases hlt : j < bs.length
      · obtain rfl := hua (by omega)
        obtain ⟨⟨y0, y1, y2, y3⟩, ⟨y4, y5, y6, y7⟩⟩ := rowB_cells hF.re.rb j hlt
        have hbj := hbm bs[j] (List.getElem_mem hlt)
        have hfold : (bs.take (j + 1)).foldl (Acre.joinB (f1, f2) (t1, t2)) ps = Acre.joinB (f1, f2) (t1, t2) ((bs.take j).foldl (Acre.joinB (f1, f2) (t1, t2)) ps) bs[j] := by
          rw [List.take_succ_eq_append_getElem hlt, List.foldl_append]; rfl
        have hql := foldB_len (f1, f2) (t1, t2) (bs.take j) ps
        rw [List.length_take] at hql
        obtain ⟨qs, hqs⟩ : ∃ qs, (bs.take j).foldl (Acre.joinB (f1, f2) (t1, t2)) ps = qs := ⟨_, rfl⟩
        rw [hqs] at hF hfold hql
        obtain ⟨⟨⟨⟨a0, a1⟩, ⟨a2, a3⟩⟩, ⟨⟨c0, c1⟩, ⟨c2, c3⟩⟩⟩, hb⟩ : ∃ b, bs[j] = b := ⟨_, rfl⟩
        rw [hb] at y0 y1 y2 y3 y4 y5 y6 y7 hbj hfold
        dsimp only at y0 y1 y2 y3 y4 y5 y6 y7
        have hqlen : qs.length ≤ 3000000 := by omega
        have Hfold := hide hfold
        have HWB := hide (WfB.mk (b := (((a0, a1), (a2, a3)), ((c0, c1), (c2, c3)))) hbj.1.wf hbj.2.wf)
        have q1 := below1 wr (.cells #[.int .i64 a0, .int .i64 a1, .int .i64 a2, .int .i64 a3, .int .i64 c0, .int .i64 c1, .int .i64 c2, .int .i64 c3] 106)
        have bB := World.alloc_heap_new wr (.cells #[.int .i64 a0, .int .i64 a1, .int .i64 a2, .int .i64 a3, .int .i64 c0, .int .i64 c1, .int .i64 c2, .int .i64 c3] 106)
        have HF2 := hide (hF.later hn₀ q1)
        have hRw : w.heap.size + 1 + 1 < wr.heap.size := by have := hF.re.bn.size; omega
        clear hqs hfold hbj hb q1 hr hF hql
        gi_upto_region 8 with fail
        clear y0 y1 y2 y3 y4 y5 y6 y7
        generalize hRs : wr.heap.size = R at *
        generalize wr.alloc (.cells #[.int .i64 a0, .int .i64 a1, .int .i64 a2, .int .i64 a3, .int .i64 c0, .int .i64 c1, .int .i64 c2, .int .i64 c3] 106) = WP at *
        have hF := HF2.out
        have bb := box_of_heap bB
        have z0 := bb.c 0 _ rfl
        have z1 := bb.c 1 _ rfl
        have z2 := bb.c 2 _ rfl
        have z3 := bb.c 3 _ rfl
        have z4 := bb.c 4 _ rfl
        have z5 := bb.c 5 _ rfl
        have z6 := bb.c 6 _ rfl
        have z7 := bb.c 7 _ rfl
        have bx := box_of_heap hF.re.bx
        have s0 := bx.c 0 _ rfl
        have s1 := bx.c 1 _ rfl
        have s2 := bx.c 2 _ rfl
        have s3 := bx.c 3 _ rfl
        have cl := hF.re.last.cell
        obtain ⟨D, hD⟩ := hF.jn.mv
        have hlk := hD.lookupOk ktB Tryz.underlying99 zero3 HWB.out
        obtain ⟨pv, hbox, hprow⟩ := hF.jn.row
        have cp := hbox.cell
        obtain ⟨pa, pg, pcap, rfl, hpa, _⟩ := row_form hprow
        unfold bdV at hlk
        dsimp only at hlk
        rcases hli : Acre.lastI (((a0, a1), (a2, a3)), ((c0, c1), (c2, c3))) qs with _ | i
        · have hj1 : Hid (Acre.joinB (f1, f2) (t1, t2) qs (((a0, a1), (a2, a3)), ((c0, c1), (c2, c3))) = qs ++ [(((f1, f2), (t1, t2)), (((a0, a1), (a2, a3)), ((c0, c1), (c2, c3))))]) := hide (by
            unfold Acre.joinB; rw [hli])
          simp only [lastM, hli, Option.map_none, Option.getD_none, Option.isSome_none] at hlk
          clear hli
          gi_upto_region 9 with fail
          clear hlk
          refine wpIn_weak (reg9_none l _ WP _ _ _ _ _ _ _ _ _ _ _ _ _ _ _ _ _ _ _ _ _ _ _ _ _ _ _ _ _ _ _ _ _ _ _ _ _ _ _ _ _ _ _ _ _ _ _ _ _ _ _ _ _ _ _ _ _ _ _ _) ?_
          rintro e a W' ⟨rfl, rfl, v26, v27, v28, v29, v30, v31, v32, v33, v34, v35, rfl⟩
          clear z0 z1 z2 z3 z4 z5 z6 z7 s0 s1 s2 s3 cl cp bb bx hF hD hprow hbox
          have HF3 := hide (HF2.out.later hn₀ ((Below.refl _ WP).drew))
          have bB3 : Hid (WP.drew.heap[R]? = some (.cells #[.int .i64 a0, .int .i64 a1, .int .i64 a2, .int .i64 a3, .int .i64 c0, .int .i64 c1, .int .i64 c2, .int .i64 c3] 106 (0, 0))) := hide bB
          clear HF2 bB
          generalize WP.drew = WD at *
          have hF := HF3.out
          obtain ⟨D, hD⟩ := hF.jn.mv
          have cl := hF.re.last.cell

          obtain ⟨pv, hbox, hprow⟩ := hF.jn.row
          have cp := hbox.cell
          obtain ⟨pa, pg, pcap, rfl, hpa, _⟩ := row_form hprow
          have bb := box_of_heap bB3.out
          have z0 := bb.c 0 _ rfl
          have z1 := bb.c 1 _ rfl
          have z2 := bb.c 2 _ rfl
          have z3 := bb.c 3 _ rfl
          have z4 := bb.c 4 _ rfl
          have z5 := bb.c 5 _ rfl
          have z6 := bb.c 6 _ rfl
          have z7 := bb.c 7 _ rfl
          have bx := box_of_heap hF.re.bx
          have s0 := bx.c 0 _ rfl
          have s1 := bx.c 1 _ rfl
          have s2 := bx.c 2 _ rfl
          have s3 := bx.c 3 _ rfl
          obtain ⟨w2, hup, hm2, hg2⟩ := hD.update ktB Tryz.underlying99 (by unfold maxLen; omega) HWB.out (.int .i64 qs.length)
          unfold bdV at hup
          dsimp only at hup
          have HH := hide (hF.half (f := (f1, f2)) (t := (t1, t2)) hn₀ (by omega) hbox hprow hg2 hm2)
          have bB2 : Hid (w2.heap[R]? = some (.cells #[.int .i64 a0, .int .i64 a1, .int .i64 a2, .int .i64 a3, .int .i64 c0, .int .i64 c1, .int .i64 c2, .int .i64 c3] 106 (0, 0))) := hide ((hg2.block R (Array.getElem?_eq_some_iff.1 bB3.out).1 (fun e => by cases e; omega)).trans bB3.out)
          clear hg2 hm2 hF hD HF3 hprow hbox bB3 hpa
          gi_upto_region 12 with fail
          clear z0 z1 z2 z3 z4 z5 z6 z7 s0 s1 s2 s3 cl cp hup bb bx
          have hH := HH.out
          have bb := box_of_heap bB2.out
          have z0 := bb.c 0 _ rfl
          have z1 := bb.c 1 _ rfl
          have z2 := bb.c 2 _ rfl
          have z3 := bb.c 3 _ rfl
          have z4 := bb.c 4 _ rfl
          have z5 := bb.c 5 _ rfl
          have z6 := bb.c 6 _ rfl
          have z7 := bb.c 7 _ rfl
          have bx := box_of_heap hH.re.bx
          have s0 := bx.c 0 _ rfl
          have s1 := bx.c 1 _ rfl
          have s2 := bx.c 2 _ rfl
          have s3 := bx.c 3 _ rfl
          have cp := hH.box.cell
          have hs1 := hH.re.bel.size
          gi_upto_region 13 with (first
            | (gi_at_builtin; refine wpListIn_append_own _ rfl _ _ 34 rfl w.heap.size 44 i0 _ 12 96 Tryz.underlying34 hi hz0 hz1 hz2 rfl (by decide) _ _ _ rfl (hH.row.alloc _) ⟨w2.heap.size, 0, none⟩ 1 1 (pcL (((f1, f2), (t1, t2)), (((a0, a1), (a2, a3)), ((c0, c1), (c2, c3))))) rfl rfl (World.news_of_block (cs := #[.int .i64 f1, .int .i64 f2, .int .i64 t1, .int .i64 t2, .int .i64 a0, .int .i64 a1, .int .i64 a2, .int .i64 a3, .int .i64 c0, .int .i64 c1, .int .i64 c2, .int .i64 c3]) (t := 44) (fr := (0, 0)) (heap_alloc_new w2 _)) (by simp [pcL, frL, edL, Value.oneCell']) (by unfold maxLen; omega) (by omega) (by simp; omega) ?_; intro v' w3 hown' hgrow _; obtain ⟨g', cap', rfl⟩ := row_succ hown'; have hJP := hH.push hn₀ hgrow hown'; have hc1 := hJP.1.cell; have hf1 := hJP.1.frozen; have HJ := hide hJP.2; clear hJP hown' hgrow)
            | gi_in)
          clear z0 z1 z2 z3 z4 z5 z6 z7 s0 s1 s2 s3 cp bb bx hH HH hc1 hf1 bB2
          have HN := hide (Hfold.out.trans (hj1.out))
          gi_wp2
          go_roundw
          case rel => exact ⟨j + 1, by go_num, by omega, HN.out ▸ HJ⟩
          case measure => simp [intOf]; omega

        · obtain ⟨hil, hib⟩ := Acre.lastI_spec hli
          have hjt : Hid ((Acre.pcAt qs i).1.2 = (f1, f2) → Acre.joinB (f1, f2) (t1, t2) qs (((a0, a1), (a2, a3)), ((c0, c1), (c2, c3))) = qs.set i (((Acre.pcAt qs i).1.1, (t1, t2)), (Acre.pcAt qs i).2)) := hide (fun h => by
            unfold Acre.joinB; rw [hli]; simp only [if_pos h, hib])
          have hjf : Hid (¬ (Acre.pcAt qs i).1.2 = (f1, f2) → Acre.joinB (f1, f2) (t1, t2) qs (((a0, a1), (a2, a3)), ((c0, c1), (c2, c3))) = qs ++ [(((f1, f2), (t1, t2)), (((a0, a1), (a2, a3)), ((c0, c1), (c2, c3))))]) := hide (fun h => by
            unfold Acre.joinB; rw [hli]; simp only [if_neg h])
          simp only [lastM, hli, Option.map_some, Option.getD_some, Option.isSome_some] at hlk
          obtain rfl := hpa (by omega)
          obtain ⟨p2, p3⟩ := rowP_cells hprow i hil
          obtain ⟨⟨x1, x2⟩, hTo⟩ : ∃ To, (Acre.pcAt qs i).1.2 = To := ⟨_, rfl⟩
          rw [hTo] at hjt hjf p2 p3
          dsimp only at p2 p3
          clear hli hib hTo
          gi_upto_region 9 with fail
          clear hlk
          refine wpIn_weak (reg9_some l _ WP _ _ i _ _ _ _ _ _ _ hil hqlen cp s0 s1 p2 p3 _ _ _ _ _ _ _ _ _ _ _ _ _ _ _ _ _ _ _ _ _ _ _ _ _ _ _ _ _ _ _ _ _ _ _ _ _ _ _ _ _ _ _ _ _ _ _ _ _ _ _ _ _ _ _ _ _) ?_
          rintro e a W' ⟨rfl, rfl, v26, v27, v28, v29, v30, v31, v32, v33, v34, v35, rfl⟩
          clear p2 p3
          clear z0 z1 z2 z3 z4 z5 z6 z7 s0 s1 s2 s3 cl cp bb bx hF hD hprow hbox
          have HF3 := hide (HF2.out.later hn₀ ((Below.refl _ WP).drew))
          have bB3 : Hid (WP.drew.heap[R]? = some (.cells #[.int .i64 a0, .int .i64 a1, .int .i64 a2, .int .i64 a3, .int .i64 c0, .int .i64 c1, .int .i64 c2, .int .i64 c3] 106 (0, 0))) := hide bB
          clear HF2 bB
          generalize WP.drew = WD at *
          have hF := HF3.out
          obtain ⟨D, hD⟩ := hF.jn.mv
          have cl := hF.re.last.cell

          by_cases hc : x1 = f1 ∧ x2 = f2
          · have hc1 : (x1 == f1 && x2 == f2) = true := by simp [hc]
            rw [hc1]
            obtain ⟨pv, hbox, hprow⟩ := hF.jn.row
            have cp := hbox.cell
            obtain ⟨pa, pg, pcap, rfl, hpa, _⟩ := row_form hprow
            obtain rfl := hpa (by omega)
            have bb := box_of_heap bB3.out
            have z0 := bb.c 0 _ rfl
            have z1 := bb.c 1 _ rfl
            have z2 := bb.c 2 _ rfl
            have z3 := bb.c 3 _ rfl
            have z4 := bb.c 4 _ rfl
            have z5 := bb.c 5 _ rfl
            have z6 := bb.c 6 _ rfl
            have z7 := bb.c 7 _ rfl
            have bx := box_of_heap hF.re.bx
            have s0 := bx.c 0 _ rfl
            have s1 := bx.c 1 _ rfl
            have s2 := bx.c 2 _ rfl
            have s3 := bx.c 3 _ rfl

            obtain ⟨p2, p3⟩ := rowP_cells hprow i hil
            have fz2 := hprow.frozenAt (i * 12 + 1 + 1)
            have fz3 := hprow.frozenAt (i * 12 + 1 + 1 + 1)
            have HS := hide (hF.set hn₀ hbox hprow i hil (t1, t2))
            have HN := hide (Hfold.out.trans (hjt.out (by rw [hc.1, hc.2])))
            clear hF hD HF3 hprow hbox bB3 hpa hc hc1 hjt hjf
            gi_wp2
            go_roundw
            case rel => exact ⟨j + 1, by go_num, by omega, HN.out ▸ HS⟩
            case measure => simp [intOf]; omega

          · have hc1 : (x1 == f1 && x2 == f2) = false := by simpa using hc
            rw [hc1]
            have HJ1 := hide (hjf.out (fun e => hc (by simpa using e)))
            clear hc hc1 hjt hjf
            obtain ⟨pv, hbox, hprow⟩ := hF.jn.row
            have cp := hbox.cell
            obtain ⟨pa, pg, pcap, rfl, hpa, _⟩ := row_form hprow
            have bb := box_of_heap bB3.out
            have z0 := bb.c 0 _ rfl
            have z1 := bb.c 1 _ rfl
            have z2 := bb.c 2 _ rfl
            have z3 := bb.c 3 _ rfl
            have z4 := bb.c 4 _ rfl
            have z5 := bb.c 5 _ rfl
            have z6 := bb.c 6 _ rfl
            have z7 := bb.c 7 _ rfl
            have bx := box_of_heap hF.re.bx
            have s0 := bx.c 0 _ rfl
            have s1 := bx.c 1 _ rfl
            have s2 := bx.c 2 _ rfl
            have s3 := bx.c 3 _ rfl
            obtain ⟨w2, hup, hm2, hg2⟩ := hD.update ktB Tryz.underlying99 (by unfold maxLen; omega) HWB.out (.int .i64 qs.length)
            unfold bdV at hup
            dsimp only at hup
            have HH := hide (hF.half (f := (f1, f2)) (t := (t1, t2)) hn₀ (by omega) hbox hprow hg2 hm2)
            have bB2 : Hid (w2.heap[R]? = some (.cells #[.int .i64 a0, .int .i64 a1, .int .i64 a2, .int .i64 a3, .int .i64 c0, .int .i64 c1, .int .i64 c2, .int .i64 c3] 106 (0, 0))) := hide ((hg2.block R (Array.getElem?_eq_some_iff.1 bB3.out).1 (fun e => by cases e; omega)).trans bB3.out)
            clear hg2 hm2 hF hD HF3 hprow hbox bB3 hpa
            gi_upto_region 12 with fail
            clear z0 z1 z2 z3 z4 z5 z6 z7 s0 s1 s2 s3 cl cp hup bb bx
            have hH := HH.out
            have bb := box_of_heap bB2.out
            have z0 := bb.c 0 _ rfl
            have z1 := bb.c 1 _ rfl
            have z2 := bb.c 2 _ rfl
            have z3 := bb.c 3 _ rfl
            have z4 := bb.c 4 _ rfl
            have z5 := bb.c 5 _ rfl
            have z6 := bb.c 6 _ rfl
            have z7 := bb.c 7 _ rfl
            have bx := box_of_heap hH.re.bx
            have s0 := bx.c 0 _ rfl
            have s1 := bx.c 1 _ rfl
            have s2 := bx.c 2 _ rfl
            have s3 := bx.c 3 _ rfl
            have cp := hH.box.cell
            have hs1 := hH.re.bel.size
            gi_upto_region 13 with (first
              | (gi_at_builtin; refine wpListIn_append_own _ rfl _ _ 34 rfl w.heap.size 44 i0 _ 12 96 Tryz.underlying34 hi hz0 hz1 hz2 rfl (by decide) _ _ _ rfl (hH.row.alloc _) ⟨w2.heap.size, 0, none⟩ 1 1 (pcL (((f1, f2), (t1, t2)), (((a0, a1), (a2, a3)), ((c0, c1), (c2, c3))))) rfl rfl (World.news_of_block (cs := #[.int .i64 f1, .int .i64 f2, .int .i64 t1, .int .i64 t2, .int .i64 a0, .int .i64 a1, .int .i64 a2, .int .i64 a3, .int .i64 c0, .int .i64 c1, .int .i64 c2, .int .i64 c3]) (t := 44) (fr := (0, 0)) (heap_alloc_new w2 _)) (by simp [pcL, frL, edL, Value.oneCell']) (by unfold maxLen; omega) (by omega) (by simp; omega) ?_; intro v' w3 hown' hgrow _; obtain ⟨g', cap', rfl⟩ := row_succ hown'; have hJP := hH.push hn₀ hgrow hown'; have hc1 := hJP.1.cell; have hf1 := hJP.1.frozen; have HJ := hide hJP.2; clear hJP hown' hgrow)
              | gi_in)
            clear z0 z1 z2 z3 z4 z5 z6 z7 s0 s1 s2 s3 cp bb bx hH HH hc1 hf1 bB2
            have HN := hide (Hfold.out.trans (HJ1.out))
            gi_wp2
            go_roundw
            case rel => exact ⟨j + 1, by go_num, by omega, HN.out ▸ HJ⟩
            case measure => simp [intOf]; omega

      · obtain rfl : j = bs.length := by omega
        rw [List.take_of_length_le (Nat.le_refl _), ← Hps.out] at hF
        have HF := hide hF
        clear hF hr
        gi_wp2
        exact ⟨HF.out.re.kf, HF.out.re.bn, HF.out.jn⟩
  case done =>
    rintro D xs W hD hS hi hK
    obtain ⟨pv, b, hrow⟩ := hi.row
    have cv := b.cell
    gi_wp2
    refine ⟨by simp, .inl ⟨_, _, rfl, run_takeDeferred hK, ?_⟩⟩
    exact ⟨_, results_tmp rfl _ _ _, pv, xs, rfl, hS, ownsRow_putObj hrow _ hK rfl, hi.bel.trans (belowK_b (w := w) (Nat.le_refl _) W D _ _ (by omega) hK rfl rfl)⟩
  case stop =>
    rintro D pre W _ _ h _
    exact h.elim

end Go.Proofs.YtkjlkbgdkdcboaaGreatDoor

