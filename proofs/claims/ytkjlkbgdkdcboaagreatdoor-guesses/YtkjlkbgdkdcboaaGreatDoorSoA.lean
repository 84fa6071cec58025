import Derived.Test.YtkjlkbgdkdcboaaGreatDoorProg
import Derived.Test.YtkjlkbgdkdcboaaGreatDoorBsA
import Derived.Test.YtkjlkbgdkdcboaaGreatDoorKsA
import Derived.Shelf.SlGeneric
import Derived.Shelf.SlSortCmp.NoneTotal
import Derived.Maps.AppendAt
import Derived.RangeFuncBox

set_option linter.unusedSimpArgs false
set_option linter.unusedVariables false

set_option linter.unusedSimpArgs false
set_option linter.unusedVariables false
namespace Go.Proofs
open Go.Shelf
def Tryz.sort127_ren : Go.Shelf.Ren := ⟨fun | 6 => 150 | 15 => 179 | 14 => 178 | 28 => 194 | 29 => 172 | 20 => 186 | 21 => 187 | 22 => 188 | 23 => 189 | 24 => 190 | 25 => 191 | 26 => 192 | 27 => 193 | 46 => 198 | 47 => 199 | 48 => 200 | 49 => 201 | 50 => 202 | 57 => 203 | n => n, fun | 22 => 143 | 24 => 38 | 25 => 222 | 3 => 3 | 39 => 285 | 0 => 0 | 53 => 283 | 55 => 253 | 4 => 4 | 46 => 293 | 45 => 292 | 50 => 107 | 5 => 5 | 9 => 9 | 66 => 300 | 70 => 304 | 76 => 306 | 77 => 29 | n => n, fun | n => n⟩
theorem Tryz.sort127 : Go.Proofs.SlLaysF0.n6 Tryz.prog Tryz.sort127_ren := {
  mixed := by kernel_rfl
  f6 := ⟨Tryz.f150.name, by decide, Tryz.func150.trans (congrArg some (by kernel_rfl))⟩
  f14 := ⟨Tryz.f178.name, by decide, Tryz.func178.trans (congrArg some (by kernel_rfl))⟩
  f15 := Tryz.func179.trans (congrArg some (by kernel_rfl))
  f20 := ⟨Tryz.f186.name, by decide, Tryz.func186.trans (congrArg some (by kernel_rfl))⟩
  f21 := ⟨Tryz.f187.name, by decide, Tryz.func187.trans (congrArg some (by kernel_rfl))⟩
  f22 := ⟨Tryz.f188.name, by decide, Tryz.func188.trans (congrArg some (by kernel_rfl))⟩
  f23 := ⟨Tryz.f189.name, by decide, Tryz.func189.trans (congrArg some (by kernel_rfl))⟩
  f24 := ⟨Tryz.f190.name, by decide, Tryz.func190.trans (congrArg some (by kernel_rfl))⟩
  f25 := ⟨Tryz.f191.name, by decide, Tryz.func191.trans (congrArg some (by kernel_rfl))⟩
  f26 := ⟨Tryz.f192.name, by decide, Tryz.func192.trans (congrArg some (by kernel_rfl))⟩
  f27 := ⟨Tryz.f193.name, by decide, Tryz.func193.trans (congrArg some (by kernel_rfl))⟩
  f28 := Tryz.func194.trans (congrArg some (by kernel_rfl))
  f29 := Tryz.func172.trans (congrArg some (by kernel_rfl))
  f46 := ⟨Tryz.f198.name, by decide, Tryz.func198.trans (congrArg some (by kernel_rfl))⟩
  f47 := Tryz.func199.trans (congrArg some (by kernel_rfl))
  f48 := Tryz.func200.trans (congrArg some (by kernel_rfl))
  f49 := ⟨Tryz.f201.name, by decide, Tryz.func201.trans (congrArg some (by kernel_rfl))⟩
  f50 := ⟨Tryz.f202.name, by decide, Tryz.func202.trans (congrArg some (by kernel_rfl))⟩
  f57 := ⟨Tryz.f203.name, by decide, Tryz.func203.trans (congrArg some (by kernel_rfl))⟩
  t0 := Tryz.underlying0
  a0 := Tryz.isAgg0
  z0 := Tryz.sizeOf0
  v0 := Tryz.zeroValue0
  t3 := Tryz.underlying3
  a3 := Tryz.isAgg3
  z3 := Tryz.sizeOf3
  v3 := Tryz.zeroValue3
  t4 := Tryz.underlying4
  a4 := Tryz.isAgg4
  z4 := Tryz.sizeOf4
  v4 := Tryz.zeroValue4
  t5 := Tryz.underlying5
  a5 := Tryz.isAgg5
  z5 := Tryz.sizeOf5
  v5 := Tryz.zeroValue5
  t9 := Tryz.underlying9
  a9 := Tryz.isAgg9
  z9 := Tryz.sizeOf9
  v9 := Tryz.zeroValue9
  t22 := Tryz.underlying143
  a22 := Tryz.isAgg143
  z22 := Tryz.sizeOf143
  v22 := Tryz.zeroValue143
  t25 := Tryz.underlying222
  a25 := Tryz.isAgg222
  z25 := Tryz.sizeOf222
  v25 := Tryz.zeroValue222
  t39 := Tryz.underlying285
  a39 := Tryz.isAgg285
  z39 := Tryz.sizeOf285
  v39 := Tryz.zeroValue285
  t45 := Tryz.underlying292
  a45 := Tryz.isAgg292
  z45 := Tryz.sizeOf292
  v45 := Tryz.zeroValue292
  t46 := Tryz.underlying293
  a46 := Tryz.isAgg293
  z46 := Tryz.sizeOf293
  v46 := Tryz.zeroValue293
  t50 := Tryz.underlying107
  a50 := Tryz.isAgg107
  z50 := Tryz.sizeOf107
  v50 := Tryz.zeroValue107
  t53 := Tryz.underlying283
  a53 := Tryz.isAgg283
  z53 := Tryz.sizeOf283
  v53 := Tryz.zeroValue283
  t55 := Tryz.underlying253
  a55 := Tryz.isAgg253
  z55 := Tryz.sizeOf253
  v55 := Tryz.zeroValue253
  t66 := Tryz.underlying300
  a66 := Tryz.isAgg300
  z66 := Tryz.sizeOf300
  v66 := Tryz.zeroValue300
  t70 := Tryz.underlying304
  a70 := Tryz.isAgg304
  z70 := Tryz.sizeOf304
  v70 := Tryz.zeroValue304
  t76 := Tryz.underlying306
  a76 := Tryz.isAgg306
  z76 := Tryz.sizeOf306
  v76 := Tryz.zeroValue306
  t77 := Tryz.underlying29
  a77 := Tryz.isAgg29
  z77 := Tryz.sizeOf29
  v77 := Tryz.zeroValue29 }
end Go.Proofs
namespace Go.Proofs.YtkjlkbgdkdcboaaGreatDoor
open Go.RowKit Go.Maps Go.Shelf Go.Sort Go.Proofs
attribute [local go_sem ↓] Go.wp_at_zero Go.wp_at_succ
abbrev SF : Type := { f : Acre.Fc // Acre.Red f ∧ SmF f }
theorem sfI : Nonempty SF := ⟨⟨(0, 1), Acre.one_red 0, ⟨⟨by decide, by decide⟩, ⟨by decide, by decide⟩⟩⟩⟩
def frL (f : Acre.Fc) : List Value := [.int .i64 f.1, .int .i64 f.2]
def encF (x : SF) : List Value := frL x.1
def cfF (x y : SF) : Int := Acre.ordF x.1 y.1
theorem ltF_iff (x y : SF) : ltOf cfF x y = decide (Acre.Lt x.1 y.1) := by
  unfold ltOf cfF Acre.ordF Acre.Lt
  apply decide_eq_decide.2
  rw [Acre.sgn_lt]
  omega
theorem swoF : SWO (ltOf cfF) := by
  refine ⟨fun x => ?_, fun x y z => ?_, fun x y z => ?_⟩
  · rw [ltF_iff]; exact decide_eq_false (Acre.Lt.irrefl _)
  · rw [ltF_iff, ltF_iff, ltF_iff, decide_eq_true_eq, decide_eq_true_eq, decide_eq_true_eq]
    exact Acre.Lt.trans x.2.1.1 y.2.1.1 z.2.1.1
  · rw [ltF_iff, ltF_iff, ltF_iff, decide_eq_false_iff_not, decide_eq_false_iff_not, decide_eq_false_iff_not]
    intro h1 h2 h3
    by_cases e : x.1 = y.1
    · rw [e] at h3; exact h2 h3
    · rcases Acre.Lt.total x.2.1 y.2.1 e with h | h
      · exact h1 h
      · exact h2 (h.trans y.2.1.1 x.2.1.1 z.2.1.1 h3)
theorem totF (x y : SF) (h1 : ltOf cfF x y = false) (h2 : ltOf cfF y x = false) : x = y := by
  rw [ltF_iff, decide_eq_false_iff_not] at h1 h2
  apply Subtype.ext
  by_cases e : x.1 = y.1
  · exact e
  · rcases Acre.Lt.total x.2.1 y.2.1 e with h | h
    · exact absurd h h1
    · exact absurd h h2
set_option maxHeartbeats 400000 in
theorem order_exact (f h : Acre.Fc) (w : World) (hf : SmF f) (hh : SmF h) :
    Calls Tryz.prog 107 #[frV f, frV h] w fun e w' => e = .returned (.int .i64 (Acre.ordF f h)) ∧ w' = (w.alloc (.cells #[.int .i64 f.1, .int .i64 f.2] 38)).alloc (.cells #[.int .i64 h.1, .int .i64 h.2] 38) := by
  obtain ⟨⟨a1, a2⟩, ⟨a3, a4⟩⟩ := hf
  obtain ⟨⟨b1, b2⟩, ⟨b3, b4⟩⟩ := hh
  have m1 := Acre.mul_bd f.1 h.2 100000000 100000000 (by omega) (by omega)
  have m2 := Acre.mul_bd h.1 f.2 100000000 100000000 (by omega) (by omega)
  unfold frV
  go_enter Tryz.func107, Tryz.ntmps107
  go_wp2_with fail
  refine (signL_any _ _).mono ?_
  rintro e w2 ⟨rfl, h2⟩
  subst h2
  go_wp2
  go_ret
  exact ⟨rfl, rfl⟩
theorem grow_two (w : World) (a b : Obj) : (w.alloc a).alloc b = grow w #[a, b] := by
  unfold grow World.alloc
  simp only
  congr 1
theorem cmp_lays [Inhabited SF] (blk off size : Nat) (w : World) : CmpLays Tryz.prog 107 #[] encF 2 cfF blk off size w := by
  intro m os dk _ x y
  refine (order_exact x.1 y.1 _ x.2.2 y.2.2).mono ?_
  rintro e w' ⟨rfl, rfl⟩
  exact ⟨rfl, 0, _, by rw [grow_two]; rfl⟩
theorem flatK_list [Inhabited SF] (ts : List SF) : (flatK encF 2 ts.toArray).toList = ts.flatMap encF := by
  apply List.ext_getElem?
  intro j
  by_cases hj : j < ts.length * 2
  · have h1 : j / 2 < ts.length := by omega
    have h2 : j % 2 < 2 := by omega
    have e : j = j / 2 * 2 + j % 2 := by omega
    rw [Array.getElem?_toList, getElem?_pos _ j (by simpa using hj)]
    have := get_flatK encF 2 ts.toArray j (by simpa using hj)
    rw [getElem!_pos _ j (by simpa using hj)] at this
    rw [this]
    have h3 := flat_get encF 2 (fun _ => rfl) ts (j / 2) (j % 2) h1 h2
    rw [← e] at h3
    rw [h3]
    have h4 : ts.toArray[j / 2]! = ts[j / 2] := by rw [getElem!_pos _ _ (by simpa using h1)]; simp
    rw [h4]
    have h5 : j % 2 < (encF ts[j / 2]).length := h2
    rw [List.getElem?_eq_getElem h5, getElem!_pos (encF ts[j / 2]) (j % 2) h5]
  · rw [List.getElem?_eq_none (by simp; omega), List.getElem?_eq_none]
    have : (ts.flatMap encF).length = ts.length * 2 := by
      clear hj
      induction ts with
      | nil => rfl
      | cons a r ih => simp only [List.flatMap_cons, List.length_append, ih, List.length_cons]; show 2 + _ = _; omega
    omega
theorem flat_len (ks : List SF) : (ks.flatMap encF).length = ks.length * 2 := by
  induction ks with
  | nil => rfl
  | cons a r ih => simp only [List.flatMap_cons, List.length_append, ih, List.length_cons]; show 2 + _ = _; omega
theorem heap_sortedK {w : World} {g n : Nat} {os : Array Obj} {cur : Array Value} {e : TypeId} {fr : Nat × Nat} (d : Array Value) (hb : w.heap[g]? = some (.cells cur e fr)) :
    (grow (putRow id (Sort.ahead w n) g 0 d) os).heap[g]? = some (.cells (putCells id 0 d cur) e fr) := by
  have hg : g < w.heap.size := (Array.getElem?_eq_some_iff.1 hb).1
  rw [heap_grow_old _ _ (by simpa using hg)]
  simp [putRow, mapBlock, Sort.ahead, Array.getElem?_modify, hb, onCells]
theorem grownBy_sortedK {w : World} {g n : Nat} {os : Array Obj} (d : Array Value) : w.grownBy (grow (putRow id (Sort.ahead w n) g 0 d) os) (some g) := by
  refine ⟨rfl, rfl, rfl, by simp, fun k hk hne => ?_⟩
  rw [heap_grow_old _ _ (by simpa using hk)]
  have : g ≠ k := fun e => hne (by rw [e])
  simp [putRow, mapBlock, Sort.ahead, Array.getElem?_modify, this]
theorem take_putCellsK (cur d : Array Value) (h : d.size ≤ cur.size) : (putCells id 0 d cur).toList.take d.size = d.toList := by
  apply List.ext_getElem?
  intro j
  by_cases hj : j < d.size
  · rw [List.getElem?_take_of_lt hj, Array.getElem?_toList]
    simp [putCells, hj, show j < cur.size by omega]
  · rw [List.getElem?_take_eq_none (by omega), List.getElem?_eq_none (by simp; omega)]
def srt (ks : List SF) : List SF := ks.mergeSort fun x y => !(ltOf cfF) y x
theorem sort_row (ks : List SF) (g cap base : Nat) (w : World) (hrow : w.ownsRow base 38 2 (.slice (some ⟨g, 0, none⟩) ks.length cap) ks.length (ks.flatMap encF)) (hn : ks.length ≤ 1000000) :
    Calls Tryz.prog 150 #[.slice (some ⟨g, 0, none⟩) ks.length cap, .func (.func 107) #[] #[]] w fun e w' => e = .returned (.tuple #[]) ∧ w'.ownsRow base 38 2 (.slice (some ⟨g, 0, none⟩) ks.length cap) ks.length ((srt ks).flatMap encF) ∧ w.grownBy w' (some g) := by
  haveI : Inhabited SF := Classical.inhabited_of_nonempty sfI
  obtain ⟨g', cap', cur, hv, hbase, hb, h1, h2, h3, h4⟩ : ∃ g' cap' cur, Value.slice (some ⟨g, 0, none⟩) ks.length cap = .slice (some ⟨g', 0, none⟩) ks.length cap' ∧ base ≤ g' ∧ w.heap[g']? = some (.cells cur 38 (0, 0)) ∧ ks.length ≤ cap' ∧ cap' ≤ maxLen ∧ cur.size = cap' * 2 ∧ cur.toList.take (ks.length * 2) = ks.flatMap encF := by
    rcases hrow.2 with ⟨h, _⟩ | h
    · cases h
    · exact h
  cases hv
  have hH : HoldsK encF 2 w g 0 ks.toArray := by
    intro j hj
    rw [size_flatK] at hj
    have hj' : j < ks.length * 2 := by simpa using hj
    refine ⟨?_, by simp [World.frozen?, hb]⟩
    rw [Nat.zero_add, hrow.cellAt j hj', ← flatK_list, Array.getElem?_toList, getElem?_pos _ j (by simpa using hj'), getElem!_pos _ j (by simpa using hj')]
    rfl
  refine (AnyQ.slices_SortFunc_total Tryz.sort127 2 (fun w => by kernel_rfl) (fun w => by kernel_rfl) encF (fun _ => rfl) (fun x v hv => by simp [encF, frL] at hv; rcases hv with rfl | rfl <;> rfl) cfF swoF 107 #[] g 0 cap ks.toArray w (enters_of Tryz.func107 (by kernel_rfl) rfl) (cmp_lays _ _ _ _) hH (Array.getElem?_eq_some_iff.1 hb).1 (by simp; omega) totF).mono ?_
  rintro e w' ⟨rfl, n, os, rfl⟩
  have hl : (srt ks).length = ks.length := by unfold srt; exact List.length_mergeSort _
  have hF : (flatK encF 2 (srt ks).toArray).size = ks.length * 2 := by simp [hl]
  refine ⟨rfl, ⟨by rw [flat_len, hl], .inr ⟨g, cap, _, rfl, hbase, heap_sortedK (flatK encF 2 (srt ks).toArray) hb, h1, h2, by simp [putCells, h3], ?_⟩⟩, grownBy_sortedK _⟩
  rw [← hF, take_putCellsK _ _ (by rw [hF, h3]; exact Nat.mul_le_mul_right 2 h1), flatK_list]
theorem srt_mem (ks : List SF) (x : SF) : x ∈ srt ks ↔ x ∈ ks := by unfold srt; exact List.mem_mergeSort
theorem srt_eq (ks : List SF) (hnd : (ks.map (·.1)).Nodup) (l : List Acre.Fc) (hl : ∀ z ∈ l, Acre.Red z) (h : ∀ x, x ∈ l ↔ x ∈ ks.map (·.1)) : (srt ks).map (·.1) = Acre.sortD l := by
  refine Acre.sortD_one hl ?_ (fun x => ?_)
  · have hp : (srt ks).Perm ks := List.mergeSort_perm _ _
    have hnd' : ((srt ks).map (·.1)).Nodup := (hp.map _).nodup_iff.2 hnd
    have hs : (srt ks).Pairwise (fun x y => (!(ltOf cfF) y x) = true) := by
      refine List.pairwise_mergeSort ?_ ?_ ks
      · intro a b c h1 h2
        simp only [Bool.not_eq_true'] at h1 h2 ⊢
        exact swoF.ntrans c b a h2 h1
      · intro a b
        simp only [Bool.or_eq_true, Bool.not_eq_true']
        cases h1 : ltOf cfF b a with
        | false => exact .inl rfl
        | true =>
          right
          cases h2 : ltOf cfF a b with
          | false => rfl
          | true => have := swoF.trans _ _ _ h1 h2; rw [swoF.irrefl] at this; exact this.symm
    rw [List.pairwise_map]
    have hne : (srt ks).Pairwise (fun x y => x.1 ≠ y.1) := List.pairwise_map.1 hnd'
    refine (hs.and hne).imp ?_
    rintro a b ⟨h1, h2⟩
    simp only [Bool.not_eq_true'] at h1
    rw [ltF_iff, decide_eq_false_iff_not] at h1
    exact (Acre.Lt.total a.2.1 b.2.1 h2).resolve_right h1
  · rw [h x, List.mem_map, List.mem_map]
    constructor
    · rintro ⟨a, ha, rfl⟩; exact ⟨a, (srt_mem ks a).1 ha, rfl⟩
    · rintro ⟨a, ha, rfl⟩; exact ⟨a, (srt_mem ks a).2 ha, rfl⟩
end Go.Proofs.YtkjlkbgdkdcboaaGreatDoor
namespace Go.Proofs.YtkjlkbgdkdcboaaGreatDoor
open Go.RowKit Go.Maps Go.Shelf Go.WideElems
attribute [local go_sem] Oper.semAt_some
theorem info33 : (Tryz.prog.info? 38).map (fun i => (i.zero, i.size, i.bytes)) = some (some (.agg #[.int .i64 0, .int .i64 0]), 2, 16) := by kernel_rfl
theorem keeps_walks {W W' : World} (h : KeepsOthers W W') : KeepsWalks W W' := ⟨h.size, fun k o hk hw => h.same k o hk (Obj.not_cells_of_walk hw)⟩
set_option maxRecDepth 100000 in
set_option maxHeartbeats 2000000 in
theorem appendSeq_in (F : Fence) (n : Nat) (hF : F.fn 177) (hro : F.round = none) (hn : 2 ≤ n) (g : Nat) (lb : Array Value) (hFg : F.fn g) (eg : ∀ args w, (callFunc g args).run Tryz.prog w = .ok (.enter g args) w)
    (S Sp : List Acre.Fc → Prop) (N : Nat) (hN : N ≤ 1000000) (w : World) (hseq : SeqStopsK F (n - 1) Tryz.prog g lb (fun x : Acre.Fc => #[frV x]) KeepsWalks S Sp N w) :
    CallsIn F n Tryz.prog 177 #[.slice none 0 0, .func (.func g) #[] lb] w fun e w' => ∃ (v : Value) (ks : List Acre.Fc), e = .returned v ∧ S ks ∧ w'.ownsRow w.heap.size 38 2 v ks.length (ks.flatMap frL) ∧ Below w.heap.size w w' := by
  obtain ⟨i0, hi, hz0, hz1, hz2⟩ := info_parts info33
  have h1 : 1 ≤ n := by omega
  refine callsIn_of_wp_marks Tryz.func177 rfl hF ?_ hro
  simp only [Tryz.ntmps177, List.size_toArray, List.length_cons, List.length_nil, Nat.reduceAdd, Nat.reduceSub, Array.replicate_succ, Array.replicate_zero, List.push_toArray, List.append_toArray, List.nil_append, List.cons_append]
  gi_wp2
  have bS := Boxed.new w 143 (.slice none 0 0)
  have hB0 : Below w.heap.size w (w.alloc (.cells #[.slice none 0 0] 143)) := (Below.refl _ w).alloc (Nat.le_refl _) _
  have hsz : (w.alloc (.cells #[.slice none 0 0] 143)).heap.size = w.heap.size + 1 := by simp
  obtain ⟨W0, hW0⟩ : ∃ W0, w.alloc (.cells #[.slice none 0 0] 143) = W0 := ⟨_, rfl⟩
  rw [hW0] at bS hB0 hsz ⊢
  clear hW0
  refine wpIn_rangeFunc_ownH hro h1 (gf := g) (lb := lb) rfl hFg eg hseq walksK_t walksK_b hB0 (fun _ => rfl)
    (fun pre W => (∃ v, Boxed W w.heap.size 143 v ∧ W.ownsRow w.heap.size 38 2 v pre.length (pre.flatMap frL) ∧ True) ∧ Below w.heap.size w W)
    (fun _ _ _ => False)
    (OwnFrom.and (Own.from (holdsRow_own w.heap.size w.heap.size 143 38 2 (fun pre : List Acre.Fc => pre.length) (fun pre => pre.flatMap frL) (fun _ _ => True)) _) (ownFrom_below (Nat.le_refl _) (by omega)))
    (fun _ _ _ _ _ hs _ _ => hs)
    ⟨⟨_, bS, World.ownsRow_nil _ _ _ _, trivial⟩, hB0⟩
    (fun x a' W => ∃ Bx, w.heap.size < Bx ∧ W.heap[Bx]? = some (.cells #[.int .i64 x.1, .int .i64 x.2] 38 (0, 0)) ∧ a' = { tmps := #[.slice none 0 0, .func (.func g) #[] lb, .pointer (some ⟨w.heap.size, 0, none⟩), undef, .slice none 0 0, .pointer (some ⟨Bx, 0, none⟩), .func (.func g) #[] lb, frV x, undef, undef, undef, undef, undef], defers := [] })
    (fun x a' _ X Y row hs hg hr => by
      obtain ⟨Bx, h1, h2, h3⟩ := hs
      refine ⟨Bx, h1, (hg.block Bx (Array.getElem?_eq_some_iff.1 h2).1 (fun e' => ?_)).trans h2, h3⟩
      obtain ⟨_, o, ho, hc⟩ := hr Bx e'.symm
      rw [h2] at ho; cases ho; cases hc)
    ?assign ?body ?done ?stop
  case assign =>
    rintro l pre x W K ⟨⟨v, bv, hrow, _⟩, hB1⟩ hK
    unfold frV at hK ⊢
    gi_wp2
    refine hK _ _ ((KeepsOthers.alloc _ _).from _) (keeps_walks (KeepsOthers.alloc _ _)) ⟨⟨v, bv.alloc _, hrow.alloc _, trivial⟩, hB1.alloc hB1.size _⟩ ⟨W.heap.size, bv.lt, World.alloc_heap_new W _, rfl⟩
  case body =>
    rintro l pre x a' W hl ⟨r, hr⟩ ⟨⟨v, bv, hrow, _⟩, hB1⟩ ⟨Bx, hBx, bX, rfl⟩ hlt
    have cv := bv.cell
    have x0 : W.cell? ⟨Bx, 0, none⟩ = some (.int .i64 x.1) := by simp [World.cell?, bX]
    have x1 : W.cell? ⟨Bx, 1, none⟩ = some (.int .i64 x.2) := by simp [World.cell?, bX]
    have hs1 := hB1.size
    gi_wp2_with (first
      | (gi_at_builtin; refine wpListIn_append_own _ rfl _ _ 143 rfl w.heap.size 38 i0 _ 2 16 Tryz.underlying143 hi hz0 hz1 hz2 rfl (by decide) _ _ _ rfl (hrow.alloc _) ⟨W.heap.size, 0, none⟩ 1 1 (frL x) rfl rfl (World.news_of_block (cs := #[.int .i64 x.1, .int .i64 x.2]) (t := 38) (fr := (0, 0)) (heap_alloc_new W _)) (by simp [frL, Value.oneCell']) (by unfold maxLen; omega) (by omega) (by simp; omega) ?_; intro v' w1 hown' hgrow _; obtain ⟨g', cap', rfl⟩ := row_succ hown'; obtain ⟨hv1, hv2, hr2, hk2, hb2⟩ := bv.appended (by decide) hrow hs1 (Nat.le_refl _) hown' hgrow; have hc1 := hv1.cell; have hf1 := hv1.frozen)
      | gi_in)
    exact ⟨hk2.from _, keeps_walks hk2, ⟨_, hv2, by rw [List.length_append, List.flatMap_append]; simpa using hr2, trivial⟩, hB1.trans hb2⟩
  case done =>
    rintro D ks W hD hS ⟨⟨v, bv, hrow, _⟩, hB1⟩ hK
    have cv := bv.cell
    gi_wp2
    refine ⟨by simp, .inl ⟨_, _, rfl, run_takeDeferred hK, ?_⟩⟩
    exact ⟨_, results_tmp rfl _ _ _, v, ks, rfl, hS, ownsRow_putObj hrow _ hK rfl, hB1.trans (belowK_b (w := w) (Nat.le_refl _) W D _ _ (by omega) hK rfl rfl)⟩
  case stop =>
    rintro D c pre W _ _ h _
    exact h.elim
set_option maxHeartbeats 1000000 in
theorem collect_in (F : Fence) (n : Nat) (hF : F.fn 149) (hF2 : F.fn 177) (hro : F.round = none) (hn : 3 ≤ n) (g : Nat) (lb : Array Value) (hFg : F.fn g) (eg : ∀ args w, (callFunc g args).run Tryz.prog w = .ok (.enter g args) w)
    (S Sp : List Acre.Fc → Prop) (N : Nat) (hN : N ≤ 1000000) (w : World) (hseq : SeqStopsK F (n - 1 - 1) Tryz.prog g lb (fun x : Acre.Fc => #[frV x]) KeepsWalks S Sp N w) :
    CallsIn F n Tryz.prog 149 #[.func (.func g) #[] lb] w fun e w' => ∃ (v : Value) (ks : List Acre.Fc), e = .returned v ∧ S ks ∧ w'.ownsRow w.heap.size 38 2 v ks.length (ks.flatMap frL) ∧ Below w.heap.size w w' := by
  have h1 : 1 ≤ n := by omega
  refine callsIn_of_wp Tryz.func149 rfl hF ?_ hro
  simp only [Tryz.ntmps149, List.size_toArray, List.length_cons, List.length_nil, Nat.reduceAdd, Nat.reduceSub, Array.replicate_succ, Array.replicate_zero, List.push_toArray, List.append_toArray, List.nil_append, List.cons_append]
  gi_wp2_with (gi_at_call 177; refine (appendSeq_in F (n - 1) hF2 hro (by omega) g lb hFg eg S Sp N hN _ hseq).mono ?_; rintro e w' ⟨v, ks, rfl, hS, hrow, hb⟩)
  go_ret
  exact ⟨v, ks, rfl, hS, hrow, hb⟩
theorem insF_len (x : Acre.Fc) (l : List Acre.Fc) : (Acre.insF x l).length ≤ l.length + 1 := by
  induction l with
  | nil => simp [Acre.insF]
  | cons y r ih =>
    unfold Acre.insF
    split
    · simp
    · split
      · simp
      · simp; omega
theorem sortD_len (l : List Acre.Fc) : (Acre.sortD l).length ≤ l.length := by
  induction l with
  | nil => simp [Acre.sortD]
  | cons y r ih =>
    have := insF_len y (Acre.sortD r)
    show (Acre.insF y (Acre.sortD r)).length ≤ _
    simp
    omega
theorem lift_sf : ∀ (ks : List Acre.Fc), (∀ x ∈ ks, Acre.Red x ∧ SmF x) → ∃ ss : List SF, ss.map (·.1) = ks
  | [], _ => ⟨[], rfl⟩
  | a :: r, h => by
    obtain ⟨ss, hs⟩ := lift_sf r (fun x hx => h x (by simp [hx]))
    exact ⟨⟨a, h a (by simp)⟩ :: ss, by rw [List.map_cons, hs]⟩
theorem flat_sf (ss : List SF) : (ss.map (·.1)).flatMap frL = ss.flatMap encF := by
  induction ss with
  | nil => rfl
  | cons a r ih => rw [List.map_cons, List.flatMap_cons, List.flatMap_cons, ih]; rfl
theorem sort_none (p : Option Addr) (cap : Nat) (fv : Value) (w : World) : Calls Tryz.prog 150 #[.slice p 0 cap, fv] w fun e w' => e = .returned (.tuple #[]) ∧ w' = w := AnyF.slices_SortFunc_none Tryz.sort127 p cap fv w
set_option maxRecDepth 100000 in
set_option maxHeartbeats 1000000 in
theorem sorted_in (g : Nat) (lb : Array Value) (eg : ∀ args w, (callFunc g args).run Tryz.prog w = .ok (.enter g args) w)
    {H : Type} (D0 : DataW H) (Sp : List Acre.Fc → Prop) (N : Nat) (hN : N ≤ 1000000) (w : World) (hseq : SeqStopsK Fence.wide 10 Tryz.prog g lb (fun x : Acre.Fc => #[frV x]) KeepsWalks (fun ks => AllF D0 ks) Sp N w)
    (l : List Acre.Fc) (hll : l.length ≤ 1000000) (hl : ∀ x ∈ l, Acre.Red x ∧ SmF x) (hD : ∀ x, WfF x → (Maps.has D0 (kf x) = true ↔ x ∈ l)) :
    Calls Tryz.prog 105 #[.func (.func g) #[] lb, .func (.func 107) #[] #[]] w fun e w' => ∃ v, e = .returned v ∧ w'.ownsRow w.heap.size 38 2 v (Acre.sortD l).length ((Acre.sortD l).flatMap frL) ∧ Below w.heap.size w w' := by
  go_enter Tryz.func105, Tryz.ntmps105
  go_wp2_with fail
  refine (callsIn_wide.1 (collect_in Fence.wide 12 trivial trivial rfl (by omega) g lb trivial eg _ Sp N hN w hseq)).mono ?_
  rintro e w1 ⟨v, ks, rfl, hA, hrow, hb⟩
  have hks : ∀ x ∈ ks, Acre.Red x ∧ SmF x := fun x hx => hl x ((hD x (hA.wf x hx)).1 ((hA.mem x (hA.wf x hx)).1 hx))
  obtain ⟨ss, hss⟩ := lift_sf ks hks
  have hlen : ss.length = ks.length := by rw [← hss, List.length_map]
  have heq : (srt ss).map (·.1) = Acre.sortD l := srt_eq ss (by rw [hss]; exact hA.nodup) l (fun z hz => (hl z hz).1) (fun x => by
    rw [hss]
    constructor
    · intro hx
      have hw := (hl x hx).2.wf
      exact (hA.mem x hw).2 ((hD x hw).2 hx)
    · intro hx
      exact (hD x (hA.wf x hx)).1 ((hA.mem x (hA.wf x hx)).1 hx))
  have hl2 : (Acre.sortD l).length = ks.length := by rw [← heq, List.length_map]; unfold srt; rw [List.length_mergeSort, hlen]
  have hfl : (Acre.sortD l).flatMap frL = (srt ss).flatMap encF := by rw [← heq, flat_sf]
  rw [← hss, flat_sf, List.length_map] at hrow
  have hsl := sortD_len l
  have hsz : ss.length ≤ 1000000 := by omega
  have fin : ∀ (W : World) (V : Value), W.ownsRow w.heap.size 38 2 V ss.length ((srt ss).flatMap encF) → W.ownsRow w.heap.size 38 2 V (Acre.sortD l).length ((Acre.sortD l).flatMap frL) := fun W V h => by rw [hl2, hfl, ← hlen]; exact h
  have Fin : Hid _ := fin
  clear fin hl2 hfl hlen heq hss hks hA hl hD hseq hsl
  obtain ⟨ga, gb, gcap, rfl, hga⟩ := rowE_form hrow
  by_cases h0 : ss.length = 0
  · obtain rfl : ss = [] := List.length_eq_zero_iff.1 h0
    rw [List.length_nil] at hrow
    rw [List.length_nil]
    have hrow' : w1.ownsRow w.heap.size 38 2 (.slice ga 0 gcap) ([] : List SF).length ((srt []).flatMap encF) := by
      have e : srt [] = [] := by unfold srt; simp
      rw [e]; exact hrow
    have HR : Hid _ := hrow'
    clear h0 hga hsz hrow hrow'
    go_wp2_with (go_at_call 150; refine (sort_none ga gcap _ _).mono ?_; rintro e w2 ⟨rfl, rfl⟩)
    go_ret
    exact ⟨_, rfl, Fin.out _ _ HR.out, hb⟩
  · obtain rfl := hga (by omega)
    have hlt := (hrow.lt gb rfl).1
    have HR : Hid _ := hrow
    clear hrow h0 hga
    go_wp2_with (go_at_call 150; refine (sort_row ss gb gcap w.heap.size _ HR.out hsz).mono ?_; rintro e w2 ⟨rfl, hrow2, hg⟩)
    go_ret
    exact ⟨_, rfl, Fin.out _ _ hrow2, hb.grown hg (by have := hb.size; omega) (fun c hc => by cases hc; exact hlt)⟩
end Go.Proofs.YtkjlkbgdkdcboaaGreatDoor
