import Derived.Test.YtkjlkbgdkdcboaaGreatSmall
import Derived.Test.YtkjlkbgdkdcboaaGreatLaid

set_option linter.unusedSimpArgs false
set_option linter.unusedVariables false

namespace Go.Proofs.YtkjlkbgdkdcboaaGreat
open Go.RowKit Go.Maps Go.Shelf Go.Sort Go.Proofs
attribute [local go_sem ↓] Go.wp_at_zero Go.wp_at_succ

/-- fractions that can be sorted: in lowest terms, of small numbers -/
abbrev SF : Type := { f : Acre.Fc // Acre.Red f ∧ SmF f }
theorem sfI : Nonempty SF := ⟨⟨(0, 1), Acre.one_red 0, ⟨⟨by decide, by decide⟩, ⟨by decide, by decide⟩⟩⟩⟩
def frL (f : Acre.Fc) : List Value := [.int .i64 f.1, .int .i64 f.2]
def encF (x : SF) : List Value := frL x.1
def cfF (x y : SF) : Int := Acre.ordF x.1 y.1

theorem ltF_iff (x y : SF) : ltOf cfF x y = decide (Acre.Lt x.1 y.1) := by
  unfold ltOf cfF Acre.ordF Acre.Lt
  apply decide_eq_decide.2
  rw [Acre.sgn_lt]
  omega
theorem swoF : SWO (ltOf cfF) := by
  refine ⟨fun x => ?_, fun x y z => ?_, fun x y z => ?_⟩
  · rw [ltF_iff]; exact decide_eq_false (Acre.Lt.irrefl _)
  · rw [ltF_iff, ltF_iff, ltF_iff, decide_eq_true_eq, decide_eq_true_eq, decide_eq_true_eq]
    exact Acre.Lt.trans x.2.1.1 y.2.1.1 z.2.1.1
  · rw [ltF_iff, ltF_iff, ltF_iff, decide_eq_false_iff_not, decide_eq_false_iff_not, decide_eq_false_iff_not]
    intro h1 h2 h3
    by_cases e : x.1 = y.1
    · rw [e] at h3; exact h2 h3
    · rcases Acre.Lt.total x.2.1 y.2.1 e with h | h
      · exact h1 h
      · exact h2 (h.trans y.2.1.1 x.2.1.1 z.2.1.1 h3)
theorem totF (x y : SF) (h1 : ltOf cfF x y = false) (h2 : ltOf cfF y x = false) : x = y := by
  rw [ltF_iff, decide_eq_false_iff_not] at h1 h2
  apply Subtype.ext
  by_cases e : x.1 = y.1
  · exact e
  · rcases Acre.Lt.total x.2.1 y.2.1 e with h | h
    · exact absurd h h1
    · exact absurd h h2

set_option maxHeartbeats 400000 in
theorem order_exact (f h : Acre.Fc) (w : World) (hf : SmF f) (hh : SmF h) :
    Calls Tryz.prog 103 #[frV f, frV h] w fun e w' => e = .returned (.int .i64 (Acre.ordF f h)) ∧ w' = (w.alloc (.cells #[.int .i64 f.1, .int .i64 f.2] 33)).alloc (.cells #[.int .i64 h.1, .int .i64 h.2] 33) := by
  obtain ⟨⟨a1, a2⟩, ⟨a3, a4⟩⟩ := hf
  obtain ⟨⟨b1, b2⟩, ⟨b3, b4⟩⟩ := hh
  have m1 := Acre.mul_bd f.1 h.2 100000000 100000000 (by omega) (by omega)
  have m2 := Acre.mul_bd h.1 f.2 100000000 100000000 (by omega) (by omega)
  unfold frV
  go_enter Tryz.func103, Tryz.ntmps103
  go_wp2_with fail
  refine (signL_any _ _).mono ?_
  rintro e w2 ⟨rfl, h2⟩
  subst h2
  go_wp2
  go_ret
  exact ⟨rfl, rfl⟩

theorem grow_two (w : World) (a b : Obj) : (w.alloc a).alloc b = grow w #[a, b] := by
  unfold grow World.alloc
  simp only
  congr 1

theorem cmp_lays [Inhabited SF] (blk off size : Nat) (w : World) : CmpLays Tryz.prog 103 #[] encF 2 cfF blk off size w := by
  intro m os dk _ x y
  refine (order_exact x.1 y.1 _ x.2.2 y.2.2).mono ?_
  rintro e w' ⟨rfl, rfl⟩
  exact ⟨rfl, 0, _, by rw [grow_two]; rfl⟩

theorem flatK_list [Inhabited SF] (ts : List SF) : (flatK encF 2 ts.toArray).toList = ts.flatMap encF := by
  apply List.ext_getElem?
  intro j
  by_cases hj : j < ts.length * 2
  · have h1 : j / 2 < ts.length := by omega
    have h2 : j % 2 < 2 := by omega
    have e : j = j / 2 * 2 + j % 2 := by omega
    rw [Array.getElem?_toList, getElem?_pos _ j (by simpa using hj)]
    have := get_flatK encF 2 ts.toArray j (by simpa using hj)
    rw [getElem!_pos _ j (by simpa using hj)] at this
    rw [this]
    have h3 := flat_get encF 2 (fun _ => rfl) ts (j / 2) (j % 2) h1 h2
    rw [← e] at h3
    rw [h3]
    have h4 : ts.toArray[j / 2]! = ts[j / 2] := by rw [getElem!_pos _ _ (by simpa using h1)]; simp
    rw [h4]
    have h5 : j % 2 < (encF ts[j / 2]).length := h2
    rw [List.getElem?_eq_getElem h5, getElem!_pos (encF ts[j / 2]) (j % 2) h5]
  · rw [List.getElem?_eq_none (by simp; omega), List.getElem?_eq_none]
    have : (ts.flatMap encF).length = ts.length * 2 := by
      clear hj
      induction ts with
      | nil => rfl
      | cons a r ih => simp only [List.flatMap_cons, List.length_append, ih, List.length_cons]; show 2 + _ = _; omega
    omega

theorem flat_len (ks : List SF) : (ks.flatMap encF).length = ks.length * 2 := by
  induction ks with
  | nil => rfl
  | cons a r ih => simp only [List.flatMap_cons, List.length_append, ih, List.length_cons]; show 2 + _ = _; omega

theorem heap_sortedK {w : World} {g n : Nat} {os : Array Obj} {cur : Array Value} {e : TypeId} {fr : Nat × Nat} (d : Array Value) (hb : w.heap[g]? = some (.cells cur e fr)) :
    (grow (putRow id (Sort.ahead w n) g 0 d) os).heap[g]? = some (.cells (putCells id 0 d cur) e fr) := by
  have hg : g < w.heap.size := (Array.getElem?_eq_some_iff.1 hb).1
  rw [heap_grow_old _ _ (by simpa using hg)]
  simp [putRow, mapBlock, Sort.ahead, Array.getElem?_modify, hb, onCells]
theorem grownBy_sortedK {w : World} {g n : Nat} {os : Array Obj} (d : Array Value) : w.grownBy (grow (putRow id (Sort.ahead w n) g 0 d) os) (some g) := by
  refine ⟨rfl, rfl, rfl, by simp, fun k hk hne => ?_⟩
  rw [heap_grow_old _ _ (by simpa using hk)]
  have : g ≠ k := fun e => hne (by rw [e])
  simp [putRow, mapBlock, Sort.ahead, Array.getElem?_modify, this]
theorem take_putCellsK (cur d : Array Value) (h : d.size ≤ cur.size) : (putCells id 0 d cur).toList.take d.size = d.toList := by
  apply List.ext_getElem?
  intro j
  by_cases hj : j < d.size
  · rw [List.getElem?_take_of_lt hj, Array.getElem?_toList]
    simp [putCells, hj, show j < cur.size by omega]
  · rw [List.getElem?_take_eq_none (by omega), List.getElem?_eq_none (by simp; omega)]

/-- the keys of a map, in order -/
def srt (ks : List SF) : List SF := ks.mergeSort fun x y => !(ltOf cfF) y x

theorem sort_row (ks : List SF) (g cap base : Nat) (w : World) (hrow : w.ownsRow base 33 2 (.slice (some ⟨g, 0, none⟩) ks.length cap) ks.length (ks.flatMap encF)) (hn : ks.length ≤ 1000000) :
    Calls Tryz.prog 127 #[.slice (some ⟨g, 0, none⟩) ks.length cap, .func (.func 103) #[] #[]] w fun e w' => e = .returned (.tuple #[]) ∧ w'.ownsRow base 33 2 (.slice (some ⟨g, 0, none⟩) ks.length cap) ks.length ((srt ks).flatMap encF) ∧ w.grownBy w' (some g) := by
  haveI : Inhabited SF := Classical.inhabited_of_nonempty sfI
  obtain ⟨g', cap', cur, hv, hbase, hb, h1, h2, h3, h4⟩ : ∃ g' cap' cur, Value.slice (some ⟨g, 0, none⟩) ks.length cap = .slice (some ⟨g', 0, none⟩) ks.length cap' ∧ base ≤ g' ∧ w.heap[g']? = some (.cells cur 33 (0, 0)) ∧ ks.length ≤ cap' ∧ cap' ≤ maxLen ∧ cur.size = cap' * 2 ∧ cur.toList.take (ks.length * 2) = ks.flatMap encF := by
    rcases hrow.2 with ⟨h, _⟩ | h
    · cases h
    · exact h
  cases hv
  have hH : HoldsK encF 2 w g 0 ks.toArray := by
    intro j hj
    rw [size_flatK] at hj
    have hj' : j < ks.length * 2 := by simpa using hj
    refine ⟨?_, by simp [World.frozen?, hb]⟩
    rw [Nat.zero_add, hrow.cellAt j hj', ← flatK_list, Array.getElem?_toList, getElem?_pos _ j (by simpa using hj'), getElem!_pos _ j (by simpa using hj')]
    rfl
  refine (AnyQ.slices_SortFunc_total Tryz.sort127 2 (fun w => by kernel_rfl) (fun w => by kernel_rfl) encF (fun _ => rfl) (fun x v hv => by simp [encF, frL] at hv; rcases hv with rfl | rfl <;> rfl) cfF swoF 103 #[] g 0 cap ks.toArray w (enters_of Tryz.func103 (by kernel_rfl) rfl) (cmp_lays _ _ _ _) hH (Array.getElem?_eq_some_iff.1 hb).1 (by simp; omega) totF).mono ?_
  rintro e w' ⟨rfl, n, os, rfl⟩
  have hl : (srt ks).length = ks.length := by unfold srt; exact List.length_mergeSort _
  have hF : (flatK encF 2 (srt ks).toArray).size = ks.length * 2 := by simp [hl]
  refine ⟨rfl, ⟨by rw [flat_len, hl], .inr ⟨g, cap, _, rfl, hbase, heap_sortedK (flatK encF 2 (srt ks).toArray) hb, h1, h2, by simp [putCells, h3], ?_⟩⟩, grownBy_sortedK _⟩
  rw [← hF, take_putCellsK _ _ (by rw [hF, h3]; exact Nat.mul_le_mul_right 2 h1), flatK_list]

theorem srt_mem (ks : List SF) (x : SF) : x ∈ srt ks ↔ x ∈ ks := by unfold srt; exact List.mem_mergeSort
/-- sorted keys, each once, are the row of them in order -/
theorem srt_eq (ks : List SF) (hnd : (ks.map (·.1)).Nodup) (l : List Acre.Fc) (hl : ∀ z ∈ l, Acre.Red z) (h : ∀ x, x ∈ l ↔ x ∈ ks.map (·.1)) : (srt ks).map (·.1) = Acre.sortD l := by
  refine Acre.sortD_one hl ?_ (fun x => ?_)
  · have hp : (srt ks).Perm ks := List.mergeSort_perm _ _
    have hnd' : ((srt ks).map (·.1)).Nodup := (hp.map _).nodup_iff.2 hnd
    have hs : (srt ks).Pairwise (fun x y => (!(ltOf cfF) y x) = true) := by
      refine List.pairwise_mergeSort ?_ ?_ ks
      · intro a b c h1 h2
        simp only [Bool.not_eq_true'] at h1 h2 ⊢
        exact swoF.ntrans c b a h2 h1
      · intro a b
        simp only [Bool.or_eq_true, Bool.not_eq_true']
        cases h1 : ltOf cfF b a with
        | false => exact .inl rfl
        | true =>
          right
          cases h2 : ltOf cfF a b with
          | false => rfl
          | true => have := swoF.trans _ _ _ h1 h2; rw [swoF.irrefl] at this; exact this.symm
    rw [List.pairwise_map]
    have hne : (srt ks).Pairwise (fun x y => x.1 ≠ y.1) := List.pairwise_map.1 hnd'
    refine (hs.and hne).imp ?_
    rintro a b ⟨h1, h2⟩
    simp only [Bool.not_eq_true'] at h1
    rw [ltF_iff, decide_eq_false_iff_not] at h1
    exact (Acre.Lt.total a.2.1 b.2.1 h2).resolve_right h1
  · rw [h x, List.mem_map, List.mem_map]
    constructor
    · rintro ⟨a, ha, rfl⟩; exact ⟨a, (srt_mem ks a).1 ha, rfl⟩
    · rintro ⟨a, ha, rfl⟩; exact ⟨a, (srt_mem ks a).2 ha, rfl⟩

end Go.Proofs.YtkjlkbgdkdcboaaGreat
