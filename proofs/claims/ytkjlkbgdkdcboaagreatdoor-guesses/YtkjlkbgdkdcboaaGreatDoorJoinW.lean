import Derived.Test.YtkjlkbgdkdcboaaGreatDoorKsA
import Derived.Test.YtkjlkbgdkdcboaaGreatDoorGyA
import Derived.Test.YtkjlkbgdkdcboaaGreatDoorSlabB
import Derived.Test.YtkjlkbgdkdcboaaGreatDoorJnA
import Derived.Stop.RegionWithIn
import Derived.Sort.CutIn

set_option linter.unusedSimpArgs false
set_option linter.unusedVariables false

set_option linter.unusedSimpArgs false
set_option linter.unusedVariables false
namespace Go.Proofs.YtkjlkbgdkdcboaaGreatDoor
open Go.RowKit Go.Maps Go.Shelf
attribute [local go_sem] Oper.semAt_some
theorem info39 : (Tryz.prog.info? 44).map (fun i => (i.zero, i.size, i.bytes)) = some (some (.agg #[.int .i64 0, .int .i64 0, .int .i64 0, .int .i64 0, .int .i64 0, .int .i64 0, .int .i64 0, .int .i64 0, .int .i64 0, .int .i64 0, .int .i64 0, .int .i64 0]), 12, 96) := by kernel_rfl
theorem bandsG_len {α : Type} : ∀ (l : List (Bool × α)) (i : Bool) (lo : α), (Slab.bandsG i lo l).length ≤ l.length
  | [], _, _ => by simp [Slab.bandsG]
  | (fl, e) :: t, i, lo => by
    unfold Slab.bandsG
    split
    · have := bandsG_len t true e; simp; omega
    · split
      · have := bandsG_len t false lo; simp; omega
      · have := bandsG_len t fl lo; simp; omega
theorem bandsP_len (E : List Acre.Ed) (kk : Nat) (op : Int) (f t : Acre.Fc) (hE : E.length ≤ 24) : (Acre.bandsP E kk op f t).length ≤ 24 := by
  rw [← bands_layers]
  unfold bandsOfL
  refine Nat.le_trans (bandsG_len _ _ _) ?_
  unfold layersP layTo
  simp only [List.length_map, List.length_range]
  unfold Acre.hts
  have a1 := sortD_len ((E.filter (fun e => !Acre.upr e)).map (fun e => Acre.hgt e (Acre.mdn f t)))
  have a2 := List.length_filter_le (fun e => !Acre.upr e) E
  rw [List.length_map] at a1
  omega
theorem layersP_len (E : List Acre.Ed) (kk : Nat) (op : Int) (f t : Acre.Fc) (hE : E.length ≤ 24) : (layersP E kk op f t).length ≤ 24 := by
  unfold layersP layTo
  simp only [List.length_map, List.length_range]
  unfold Acre.hts
  have a1 := sortD_len ((E.filter (fun e => !Acre.upr e)).map (fun e => Acre.hgt e (Acre.mdn f t)))
  have a2 := List.length_filter_le (fun e => !Acre.upr e) E
  rw [List.length_map] at a1
  omega
theorem joinB_len (f t : Acre.Fc) (ps : List Acre.Pc) (b : Acre.Ed × Acre.Ed) : (Acre.joinB f t ps b).length ≤ ps.length + 1 := by
  unfold Acre.joinB
  split
  · split <;> simp
  · simp
theorem foldB_len (f t : Acre.Fc) (l : List (Acre.Ed × Acre.Ed)) (ps : List Acre.Pc) : (l.foldl (Acre.joinB f t) ps).length ≤ ps.length + l.length := by
  induction l generalizing ps with
  | nil => simp
  | cons b r ih =>
    have := ih (Acre.joinB f t ps b)
    have := joinB_len f t ps b
    simp only [List.foldl_cons, List.length_cons]
    omega
theorem zero3 (u : World) : (zeroValue 3).run Tryz.prog u = .ok (.int .i64 0) u := by kernel_rfl
theorem MV.lookupOk {κ : Type} {kt : TypeId} {kv : κ → Value} {key : κ → Lit} {ok : κ → Prop} {w : World} {t e : TypeId} {b n : Nat} {D : DataW Value} {m : κ → Option Value} (h : MV w kt key ok b n D m) (K : KT kt kv key ok) (ht : Tryz.prog.underlying t = some (.map kt e)) {z : Value} (hz : ∀ u : World, (zeroValue e).run Tryz.prog u = .ok z u) {x : κ} (hx : ok x) :
    (Instr.lookup t (.map (some b)) (kv x) true).run Tryz.prog w = .ok (.tuple #[(m x).getD z, .bool (m x).isSome]) w := by
  have ha := h.at' x hx
  obtain ⟨es, clock, hb, F, hs, hD⟩ := id h.own
  rw [hD] at ha
  rcases Maps.fit_look true (Keyed.of_law K.law) ht (hz w) hb F (K.reads x hx) with ⟨h1, _, h3⟩ | ⟨e0, y, _, _, h1, h4, h5, _⟩
  · have hn : m x = none := by
      cases hm : m x with
      | none => rfl
      | some v =>
        have a1 := (ha (.bool true)).symm.trans (h3 _)
        have a2 := (ha (.bool false)).symm.trans (h3 _)
        rw [hm] at a1 a2
        simp at a1 a2
        rw [a1] at a2
        simp at a2
    rw [h1, hn]
    rfl
  · have hy : y.1 = .held e0.val := by unfold Raw at h4; simp at h4; rw [← h4]
    have hn : m x = some e0.val := by
      cases hm : m x with
      | none =>
        have a1 := (ha (.bool true)).symm.trans (h5 _)
        have a2 := (ha (.bool false)).symm.trans (h5 _)
        rw [hm, hy] at a1 a2
        simp at a1 a2
        rw [← a1] at a2
        simp at a2
      | some v =>
        have a1 := (ha (.bool true)).symm.trans (h5 _)
        rw [hm, hy] at a1
        simp at a1
        rw [a1]
    rw [h1, hn]
    rfl
structure JnI (w W : World) (ps : List Acre.Pc) : Prop where
  row : ∃ pv, Boxed W w.heap.size 34 pv ∧ W.ownsRow w.heap.size 44 12 pv ps.length (flatP ps)
  last : Boxed W (w.heap.size + 1 + 1) 99 (.map (some (w.heap.size + 1)))
  mv : ∃ D, MV W 106 keB WfB (w.heap.size + 1) ps.length D (lastM ps)
  bel : Below w.heap.size w W
theorem Boxed.later {W W' : World} {B : Nat} {t : TypeId} {v : Value} (h : Boxed W B t v) (hb : Below W.heap.size W W') : Boxed W' B t v := (hb.block B h.lt).trans h
theorem JnI.later {w W W' : World} {ps : List Acre.Pc} (h : JnI w W ps) (hb : Below W.heap.size W W') : JnI w W' ps := by
  obtain ⟨pv, h1, h2⟩ := h.row
  obtain ⟨D, hD⟩ := h.mv
  exact ⟨⟨pv, Boxed.later h1 hb, row_call h2 hb⟩, Boxed.later h.last hb, ⟨D, hD.later hb⟩, below_call hb h.bel⟩
theorem row_turn {W W' : World} {row : Option Nat} {base : Nat} {e : TypeId} {size : Nat} {v : Value} {k : Nat} {xs : List Value} (h : W.ownsRow base e size v k xs) (hg : W.grownBy W' row) (hr : ∀ r, row = some r → ∃ o : Obj, W.heap[r]? = some o ∧ o.isCells = false) : W'.ownsRow base e size v k xs := by
  refine h.kept hg ?_
  rcases h.2 with ⟨rfl, _⟩ | ⟨g, cap, cur, rfl, _, hgb, _⟩
  · exact .inl rfl
  · refine .inr fun e' => ?_
    obtain ⟨o, ho, hc⟩ := hr g (by simpa [Value.ownBlock] using e'.symm)
    rw [hgb] at ho; cases ho; cases hc
theorem JnI.own {w W W' : World} {B : Nat} {row : Option Nat} {ps : List Acre.Pc} (hB : w.heap.size + 3 ≤ B) (h : JnI w W ps) (hg : W.grownBy W' row) (hr : ∀ r, row = some r → B ≤ r ∧ ∃ o : Obj, W.heap[r]? = some o ∧ o.isCells = false) : JnI w W' ps := by
  have ne : ∀ k, k < B → row ≠ some k := fun k hk e => by have := (hr k e).1; omega
  obtain ⟨pv, h1, h2⟩ := h.row
  obtain ⟨D, hD⟩ := h.mv
  exact ⟨⟨pv, h1.kept hg (fun e => ne _ (by omega) e.symm), row_turn h2 hg (fun r e => (hr r e).2)⟩, h.last.kept hg (fun e => ne _ (by omega) e.symm), ⟨D, hD.grown hg (ne _ (by omega))⟩, h.bel.grown hg h.bel.size (fun c hc => by have := (hr c hc).1; omega)⟩
theorem SlabV.turn {n₀ : Nat} {W : World} {E : List Acre.Ed} {kk : Nat} {op : Int} {f t : Acre.Fc} {lv : Value} {rb : Nat} (h : SlabV n₀ W E kk op f t lv rb) (l : Nat) (r : Loop) (o' : Obj) (hl : W.heap[l]? = some (.loop r)) : SlabV n₀ (W.putObj l o') E kk op f t lv rb := by
  obtain ⟨m, D, hD⟩ := h.mv
  have hg := grownBy_putObj' W l o'
  refine ⟨row_turn h.row hg (fun q e => by cases e; exact ⟨_, hl, rfl⟩), h.lo, m, D, hD.grown hg (fun e => ?_)⟩
  cases e
  obtain ⟨es, clock, hb, _⟩ := hD.own
  rw [hl] at hb
  cases hb
theorem box_of_heap {W : World} {n : Nat} {l : List Value} {t : TypeId} (h : W.heap[n]? = some (.cells l.toArray t (0, 0))) : Box W n l := by
  refine ⟨fun k v hk => ?_, fun k hk => ?_⟩
  · simp [World.cell?, h, hk]
  · simp [World.frozen?, h]
theorem keepsFrom_below {B : Nat} {W W' : World} (h : Below W.heap.size W W') : KeepsFrom B W W' := ⟨h.size, fun k o _ hk _ => (h.block k (Array.getElem?_eq_some_iff.1 hk).1).trans hk⟩
theorem rowB_cells {w : World} {base g cap : Nat} {t : TypeId} {bs : List (Acre.Ed × Acre.Ed)} (h : w.ownsRow base t 8 (.slice (some ⟨g, 0, none⟩) bs.length cap) bs.length (flatB bs)) (k : Nat) (hk : k < bs.length) :
    (w.cell? ⟨g, k * 8, none⟩ = some (.int .i64 bs[k].1.1.1) ∧ w.cell? ⟨g, k * 8 + 1, none⟩ = some (.int .i64 bs[k].1.1.2) ∧ w.cell? ⟨g, k * 8 + 1 + 1, none⟩ = some (.int .i64 bs[k].1.2.1) ∧ w.cell? ⟨g, k * 8 + 1 + 1 + 1, none⟩ = some (.int .i64 bs[k].1.2.2)) ∧
    (w.cell? ⟨g, k * 8 + 1 + 1 + 1 + 1, none⟩ = some (.int .i64 bs[k].2.1.1) ∧ w.cell? ⟨g, k * 8 + 1 + 1 + 1 + 1 + 1, none⟩ = some (.int .i64 bs[k].2.1.2) ∧ w.cell? ⟨g, k * 8 + 1 + 1 + 1 + 1 + 1 + 1, none⟩ = some (.int .i64 bs[k].2.2.1) ∧ w.cell? ⟨g, k * 8 + 1 + 1 + 1 + 1 + 1 + 1 + 1, none⟩ = some (.int .i64 bs[k].2.2.2)) :=
  ⟨⟨row_at (f := bandL) (m := 8) (fun _ => rfl) h k 0 hk (by omega), row_at (f := bandL) (m := 8) (fun _ => rfl) h k 1 hk (by omega), row_at (f := bandL) (m := 8) (fun _ => rfl) h k 2 hk (by omega), row_at (f := bandL) (m := 8) (fun _ => rfl) h k 3 hk (by omega)⟩,
   ⟨row_at (f := bandL) (m := 8) (fun _ => rfl) h k 4 hk (by omega), row_at (f := bandL) (m := 8) (fun _ => rfl) h k 5 hk (by omega), row_at (f := bandL) (m := 8) (fun _ => rfl) h k 6 hk (by omega), row_at (f := bandL) (m := 8) (fun _ => rfl) h k 7 hk (by omega)⟩⟩
theorem wpIn_weak {F : Fence} {n : Nat} {P : Program} {c : Code} {Q Q' : Exit → Act → World → Prop} {a : Act} {w : World} (h : Code.wpIn F n P c Q a w) (hq : ∀ e a w, Q e a w → Q' e a w) : Code.wpIn F n P c Q' a w :=
  fun b k cs hro hb hr => let ⟨e, a', w', q, r⟩ := h b k cs hro hb hr; ⟨e, a', w', hq _ _ _ q, r⟩
def tagOf : Obj → Option TypeId
  | .cells _ t _ => some t
  | _ => none
def RowTag (W : World) (row : Option Nat) (T : Option TypeId) : Prop := ∀ r, row = some r → ∃ o, W.heap[r]? = some o ∧ tagOf o = T
theorem RowTag.of_row {W : World} {base size k : Nat} {e : TypeId} {v : Value} {xs : List Value} (h : W.ownsRow base e size v k xs) : RowTag W v.ownBlock (some e) := by
  intro r hr
  rcases h.2 with ⟨rfl, _⟩ | ⟨g, cap, cur, rfl, _, hg, _⟩
  · simp [Value.ownBlock] at hr
  · have : g = r := by simpa [Value.ownBlock] using hr
    subst this
    exact ⟨_, hg, rfl⟩
theorem block_tag {W V : World} {row : Option Nat} {T : Option TypeId} {n : Nat} {o : Obj} (hg : W.grownBy V row) (ht : RowTag W row T) (hn : W.heap[n]? = some o) (hne : tagOf o ≠ T) : V.heap[n]? = some o := by
  refine (hg.block n (Array.getElem?_eq_some_iff.1 hn).1 (fun e => ?_)).trans hn
  obtain ⟨o', h1, h2⟩ := ht n e.symm
  rw [hn] at h1
  cases h1
  exact hne h2
theorem row_tag {W V : World} {row : Option Nat} {T : Option TypeId} {base size k : Nat} {e : TypeId} {v : Value} {xs : List Value} (hg : W.grownBy V row) (ht : RowTag W row T) (h : W.ownsRow base e size v k xs) (hne : some e ≠ T) : V.ownsRow base e size v k xs := by
  refine h.kept hg ?_
  rcases h.2 with ⟨rfl, _⟩ | ⟨g, cap, cur, rfl, _, hgb, _⟩
  · exact .inl rfl
  · refine .inr fun e' => ?_
    obtain ⟨o, h1, h2⟩ := ht g (by simpa [Value.ownBlock] using e'.symm)
    rw [hgb] at h1
    cases h1
    exact hne h2
theorem mv_tag {W V : World} {row : Option Nat} {t : TypeId} {κ : Type} {kt : TypeId} {key : κ → Lit} {ok : κ → Prop} {b n : Nat} {D : DataW Value} {m : κ → Option Value} (hg : W.grownBy V row) (ht : RowTag W row (some t)) (h : MV W kt key ok b n D m) : MV V kt key ok b n D m := by
  refine h.grown hg (fun e => ?_)
  obtain ⟨o, h1, h2⟩ := ht b e
  obtain ⟨es, clock, hb, _⟩ := h.own
  rw [hb] at h1
  cases h1
  cases h2
theorem flatP_set : ∀ (qs : List Acre.Pc) (i : Nat) (hi : i < qs.length) (t : Acre.Fc), ((flatP qs).set (i * 12 + 1 + 1) (.int .i64 t.1)).set (i * 12 + 1 + 1 + 1) (.int .i64 t.2) = flatP (qs.set i (((Acre.pcAt qs i).1.1, t), (Acre.pcAt qs i).2))
  | [], _, hi, _ => by simp at hi
  | q :: r, 0, _, t => rfl
  | q :: r, i + 1, hi, t => by
    have := flatP_set r i (by simpa using hi) t
    have e1 : flatP (q :: r) = pcL q ++ flatP r := rfl
    have e2 : ∀ (j : Nat) (v : Value) (l : List Value), (pcL q ++ l).set (12 + j) v = pcL q ++ l.set j v := by
      intro j v l
      rw [List.set_append_right _ _ (by show 12 ≤ _; omega)]
      congr 2
      show 12 + j - 12 = j
      omega
    rw [e1, show (i + 1) * 12 + 1 + 1 = 12 + (i * 12 + 1 + 1) by omega, show 12 + (i * 12 + 1 + 1) + 1 = 12 + (i * 12 + 1 + 1 + 1) by omega, e2, e2, this]
    rfl
theorem rowP_cells {w : World} {base g cap : Nat} {t : TypeId} {qs : List Acre.Pc} (h : w.ownsRow base t 12 (.slice (some ⟨g, 0, none⟩) qs.length cap) qs.length (flatP qs)) (k : Nat) (hk : k < qs.length) :
    w.cell? ⟨g, k * 12 + 1 + 1, none⟩ = some (.int .i64 (Acre.pcAt qs k).1.2.1) ∧ w.cell? ⟨g, k * 12 + 1 + 1 + 1, none⟩ = some (.int .i64 (Acre.pcAt qs k).1.2.2) := by
  have e : Acre.pcAt qs k = qs[k] := by unfold Acre.pcAt; simp [hk]
  rw [e]
  exact ⟨row_at (f := pcL) (m := 12) (fun _ => rfl) h k 2 hk (by omega), row_at (f := pcL) (m := 12) (fun _ => rfl) h k 3 hk (by omega)⟩
end Go.Proofs.YtkjlkbgdkdcboaaGreatDoor
