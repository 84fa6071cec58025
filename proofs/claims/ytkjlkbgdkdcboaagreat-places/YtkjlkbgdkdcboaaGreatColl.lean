import Derived.Test.YtkjlkbgdkdcboaaGreatKeys
import Derived.Test.YtkjlkbgdkdcboaaGreatSort
import Derived.Maps.AppendAt
import Derived.RangeFuncBox

set_option linter.unusedSimpArgs false
set_option linter.unusedVariables false

namespace Go.Proofs.YtkjlkbgdkdcboaaGreat
open Go.RowKit Go.Maps Go.Shelf Go.WideElems
attribute [local go_sem] Oper.semAt_some

theorem info33 : (Tryz.prog.info? 33).map (fun i => (i.zero, i.size, i.bytes)) = some (some (.agg #[.int .i64 0, .int .i64 0]), 2, 16) := by kernel_rfl
theorem keeps_walks {W W' : World} (h : KeepsOthers W W') : KeepsWalks W W' := ⟨h.size, fun k o hk hw => h.same k o hk (Obj.not_cells_of_walk hw)⟩

set_option maxRecDepth 100000 in
set_option maxHeartbeats 2000000 in
/-- slices.AppendSeq(nil, seq): what the iterator gave, in that order -/
theorem appendSeq_in (F : Fence) (n : Nat) (hF : F.fn 132) (hro : F.round = none) (hn : 2 ≤ n) (g : Nat) (lb : Array Value) (hFg : F.fn g) (eg : ∀ args w, (callFunc g args).run Tryz.prog w = .ok (.enter g args) w)
    (S Sp : List Acre.Fc → Prop) (N : Nat) (hN : N ≤ 1000000) (w : World) (hseq : SeqStopsK F (n - 1) Tryz.prog g lb (fun x : Acre.Fc => #[frV x]) KeepsWalks S Sp N w) :
    CallsIn F n Tryz.prog 132 #[.slice none 0 0, .func (.func g) #[] lb] w fun e w' => ∃ (v : Value) (ks : List Acre.Fc), e = .returned v ∧ S ks ∧ w'.ownsRow w.heap.size 33 2 v ks.length (ks.flatMap frL) ∧ Below w.heap.size w w' := by
  obtain ⟨i0, hi, hz0, hz1, hz2⟩ := info_parts info33
  have h1 : 1 ≤ n := by omega
  refine callsIn_of_wp_marks Tryz.func132 rfl hF ?_ hro
  simp only [Tryz.ntmps132, List.size_toArray, List.length_cons, List.length_nil, Nat.reduceAdd, Nat.reduceSub, Array.replicate_succ, Array.replicate_zero, List.push_toArray, List.append_toArray, List.nil_append, List.cons_append]
  gi_wp2
  have bS := Boxed.new w 156 (.slice none 0 0)
  have hB0 : Below w.heap.size w (w.alloc (.cells #[.slice none 0 0] 156)) := (Below.refl _ w).alloc (Nat.le_refl _) _
  have hsz : (w.alloc (.cells #[.slice none 0 0] 156)).heap.size = w.heap.size + 1 := by simp
  obtain ⟨W0, hW0⟩ : ∃ W0, w.alloc (.cells #[.slice none 0 0] 156) = W0 := ⟨_, rfl⟩
  rw [hW0] at bS hB0 hsz ⊢
  clear hW0
  refine wpIn_rangeFunc_ownH hro h1 (gf := g) (lb := lb) rfl hFg eg hseq walksK_t walksK_b hB0 (fun _ => rfl)
    (fun pre W => (∃ v, Boxed W w.heap.size 156 v ∧ W.ownsRow w.heap.size 33 2 v pre.length (pre.flatMap frL) ∧ True) ∧ Below w.heap.size w W)
    (fun _ _ _ => False)
    (OwnFrom.and (Own.from (holdsRow_own w.heap.size w.heap.size 156 33 2 (fun pre : List Acre.Fc => pre.length) (fun pre => pre.flatMap frL) (fun _ _ => True)) _) (ownFrom_below (Nat.le_refl _) (by omega)))
    (fun _ _ _ _ _ hs _ _ => hs)
    ⟨⟨_, bS, World.ownsRow_nil _ _ _ _, trivial⟩, hB0⟩
    (fun x a' W => ∃ Bx, w.heap.size < Bx ∧ W.heap[Bx]? = some (.cells #[.int .i64 x.1, .int .i64 x.2] 33 (0, 0)) ∧ a' = { tmps := #[.slice none 0 0, .func (.func g) #[] lb, .pointer (some ⟨w.heap.size, 0, none⟩), undef, .slice none 0 0, .pointer (some ⟨Bx, 0, none⟩), .func (.func g) #[] lb, frV x, undef, undef, undef, undef, undef], defers := [] })
    (fun x a' _ X Y row hs hg hr => by
      obtain ⟨Bx, h1, h2, h3⟩ := hs
      refine ⟨Bx, h1, (hg.block Bx (Array.getElem?_eq_some_iff.1 h2).1 (fun e' => ?_)).trans h2, h3⟩
      obtain ⟨_, o, ho, hc⟩ := hr Bx e'.symm
      rw [h2] at ho; cases ho; cases hc)
    ?assign ?body ?done ?stop
  case assign =>
    rintro l pre x W K ⟨⟨v, bv, hrow, _⟩, hB1⟩ hK
    unfold frV at hK ⊢
    gi_wp2
    refine hK _ _ ((KeepsOthers.alloc _ _).from _) (keeps_walks (KeepsOthers.alloc _ _)) ⟨⟨v, bv.alloc _, hrow.alloc _, trivial⟩, hB1.alloc hB1.size _⟩ ⟨W.heap.size, bv.lt, World.alloc_heap_new W _, rfl⟩
  case body =>
    rintro l pre x a' W hl ⟨r, hr⟩ ⟨⟨v, bv, hrow, _⟩, hB1⟩ ⟨Bx, hBx, bX, rfl⟩ hlt
    have cv := bv.cell
    have x0 : W.cell? ⟨Bx, 0, none⟩ = some (.int .i64 x.1) := by simp [World.cell?, bX]
    have x1 : W.cell? ⟨Bx, 1, none⟩ = some (.int .i64 x.2) := by simp [World.cell?, bX]
    have hs1 := hB1.size
    gi_wp2_with (first
      | (gi_at_builtin; refine wpListIn_append_own _ rfl _ _ 156 rfl w.heap.size 33 i0 _ 2 16 Tryz.underlying156 hi hz0 hz1 hz2 rfl (by decide) _ _ _ rfl (hrow.alloc _) ⟨W.heap.size, 0, none⟩ 1 1 (frL x) rfl rfl (World.news_of_block (cs := #[.int .i64 x.1, .int .i64 x.2]) (t := 33) (fr := (0, 0)) (heap_alloc_new W _)) (by simp [frL, Value.oneCell']) (by unfold maxLen; omega) (by omega) (by simp; omega) ?_; intro v' w1 hown' hgrow _; obtain ⟨g', cap', rfl⟩ := row_succ hown'; obtain ⟨hv1, hv2, hr2, hk2, hb2⟩ := bv.appended (by decide) hrow hs1 (Nat.le_refl _) hown' hgrow; have hc1 := hv1.cell; have hf1 := hv1.frozen)
      | gi_in)
    exact ⟨hk2.from _, keeps_walks hk2, ⟨_, hv2, by rw [List.length_append, List.flatMap_append]; simpa using hr2, trivial⟩, hB1.trans hb2⟩
  case done =>
    rintro D ks W hD hS ⟨⟨v, bv, hrow, _⟩, hB1⟩ hK
    have cv := bv.cell
    gi_wp2
    refine ⟨by simp, .inl ⟨_, _, rfl, run_takeDeferred hK, ?_⟩⟩
    exact ⟨_, results_tmp rfl _ _ _, v, ks, rfl, hS, ownsRow_putObj hrow _ hK rfl, hB1.trans (belowK_b (w := w) (Nat.le_refl _) W D _ _ (by omega) hK rfl rfl)⟩
  case stop =>
    rintro D c pre W _ _ h _
    exact h.elim

set_option maxHeartbeats 1000000 in
/-- slices.Collect(seq) -/
theorem collect_in (F : Fence) (n : Nat) (hF : F.fn 126) (hF2 : F.fn 132) (hro : F.round = none) (hn : 3 ≤ n) (g : Nat) (lb : Array Value) (hFg : F.fn g) (eg : ∀ args w, (callFunc g args).run Tryz.prog w = .ok (.enter g args) w)
    (S Sp : List Acre.Fc → Prop) (N : Nat) (hN : N ≤ 1000000) (w : World) (hseq : SeqStopsK F (n - 1 - 1) Tryz.prog g lb (fun x : Acre.Fc => #[frV x]) KeepsWalks S Sp N w) :
    CallsIn F n Tryz.prog 126 #[.func (.func g) #[] lb] w fun e w' => ∃ (v : Value) (ks : List Acre.Fc), e = .returned v ∧ S ks ∧ w'.ownsRow w.heap.size 33 2 v ks.length (ks.flatMap frL) ∧ Below w.heap.size w w' := by
  have h1 : 1 ≤ n := by omega
  refine callsIn_of_wp Tryz.func126 rfl hF ?_ hro
  simp only [Tryz.ntmps126, List.size_toArray, List.length_cons, List.length_nil, Nat.reduceAdd, Nat.reduceSub, Array.replicate_succ, Array.replicate_zero, List.push_toArray, List.append_toArray, List.nil_append, List.cons_append]
  gi_wp2_with (gi_at_call 132; refine (appendSeq_in F (n - 1) hF2 hro (by omega) g lb hFg eg S Sp N hN _ hseq).mono ?_; rintro e w' ⟨v, ks, rfl, hS, hrow, hb⟩)
  go_ret
  exact ⟨v, ks, rfl, hS, hrow, hb⟩

theorem insF_len (x : Acre.Fc) (l : List Acre.Fc) : (Acre.insF x l).length ≤ l.length + 1 := by
  induction l with
  | nil => simp [Acre.insF]
  | cons y r ih =>
    unfold Acre.insF
    split
    · simp
    · split
      · simp
      · simp; omega
theorem sortD_len (l : List Acre.Fc) : (Acre.sortD l).length ≤ l.length := by
  induction l with
  | nil => simp [Acre.sortD]
  | cons y r ih =>
    have := insF_len y (Acre.sortD r)
    show (Acre.insF y (Acre.sortD r)).length ≤ _
    simp
    omega
/-- the fractions of a row, each with what the sort wants to know of it -/
theorem lift_sf : ∀ (ks : List Acre.Fc), (∀ x ∈ ks, Acre.Red x ∧ SmF x) → ∃ ss : List SF, ss.map (·.1) = ks
  | [], _ => ⟨[], rfl⟩
  | a :: r, h => by
    obtain ⟨ss, hs⟩ := lift_sf r (fun x hx => h x (by simp [hx]))
    exact ⟨⟨a, h a (by simp)⟩ :: ss, by rw [List.map_cons, hs]⟩
theorem flat_sf (ss : List SF) : (ss.map (·.1)).flatMap frL = ss.flatMap encF := by
  induction ss with
  | nil => rfl
  | cons a r ih => rw [List.map_cons, List.flatMap_cons, List.flatMap_cons, ih]; rfl

theorem sort_none (p : Option Addr) (cap : Nat) (fv : Value) (w : World) : Calls Tryz.prog 127 #[.slice p 0 cap, fv] w fun e w' => e = .returned (.tuple #[]) ∧ w' = w := AnyF.slices_SortFunc_none Tryz.sort127 p cap fv w

set_option maxRecDepth 100000 in
set_option maxHeartbeats 1000000 in
/-- slices.SortedFunc(maps.Keys(m), order): the keys, in order -/
theorem sorted_in (g : Nat) (lb : Array Value) (eg : ∀ args w, (callFunc g args).run Tryz.prog w = .ok (.enter g args) w)
    {H : Type} (D0 : DataW H) (Sp : List Acre.Fc → Prop) (N : Nat) (hN : N ≤ 1000000) (w : World) (hseq : SeqStopsK Fence.wide 10 Tryz.prog g lb (fun x : Acre.Fc => #[frV x]) KeepsWalks (fun ks => AllF D0 ks) Sp N w)
    (l : List Acre.Fc) (hll : l.length ≤ 1000000) (hl : ∀ x ∈ l, Acre.Red x ∧ SmF x) (hD : ∀ x, WfF x → (Maps.has D0 (kf x) = true ↔ x ∈ l)) :
    Calls Tryz.prog 107 #[.func (.func g) #[] lb, .func (.func 103) #[] #[]] w fun e w' => ∃ v, e = .returned v ∧ w'.ownsRow w.heap.size 33 2 v (Acre.sortD l).length ((Acre.sortD l).flatMap frL) ∧ Below w.heap.size w w' := by
  go_enter Tryz.func107, Tryz.ntmps107
  go_wp2_with fail
  refine (callsIn_wide.1 (collect_in Fence.wide 12 trivial trivial rfl (by omega) g lb trivial eg _ Sp N hN w hseq)).mono ?_
  rintro e w1 ⟨v, ks, rfl, hA, hrow, hb⟩
  have hks : ∀ x ∈ ks, Acre.Red x ∧ SmF x := fun x hx => hl x ((hD x (hA.wf x hx)).1 ((hA.mem x (hA.wf x hx)).1 hx))
  obtain ⟨ss, hss⟩ := lift_sf ks hks
  have hlen : ss.length = ks.length := by rw [← hss, List.length_map]
  have heq : (srt ss).map (·.1) = Acre.sortD l := srt_eq ss (by rw [hss]; exact hA.nodup) l (fun z hz => (hl z hz).1) (fun x => by
    rw [hss]
    constructor
    · intro hx
      have hw := (hl x hx).2.wf
      exact (hA.mem x hw).2 ((hD x hw).2 hx)
    · intro hx
      exact (hD x (hA.wf x hx)).1 ((hA.mem x (hA.wf x hx)).1 hx))
  have hl2 : (Acre.sortD l).length = ks.length := by rw [← heq, List.length_map]; unfold srt; rw [List.length_mergeSort, hlen]
  have hfl : (Acre.sortD l).flatMap frL = (srt ss).flatMap encF := by rw [← heq, flat_sf]
  rw [← hss, flat_sf, List.length_map] at hrow
  have hsl := sortD_len l
  have hsz : ss.length ≤ 1000000 := by omega
  have fin : ∀ (W : World) (V : Value), W.ownsRow w.heap.size 33 2 V ss.length ((srt ss).flatMap encF) → W.ownsRow w.heap.size 33 2 V (Acre.sortD l).length ((Acre.sortD l).flatMap frL) := fun W V h => by rw [hl2, hfl, ← hlen]; exact h
  have Fin : Hid _ := fin
  clear fin hl2 hfl hlen heq hss hks hA hl hD hseq hsl
  obtain ⟨ga, gb, gcap, rfl, hga⟩ := rowE_form hrow
  by_cases h0 : ss.length = 0
  · obtain rfl : ss = [] := List.length_eq_zero_iff.1 h0
    rw [List.length_nil] at hrow
    rw [List.length_nil]
    have hrow' : w1.ownsRow w.heap.size 33 2 (.slice ga 0 gcap) ([] : List SF).length ((srt []).flatMap encF) := by
      have e : srt [] = [] := by unfold srt; simp
      rw [e]; exact hrow
    have HR : Hid _ := hrow'
    clear h0 hga hsz hrow hrow'
    go_wp2_with (go_at_call 127; refine (sort_none ga gcap _ _).mono ?_; rintro e w2 ⟨rfl, rfl⟩)
    go_ret
    exact ⟨_, rfl, Fin.out _ _ HR.out, hb⟩
  · obtain rfl := hga (by omega)
    have hlt := (hrow.lt gb rfl).1
    have HR : Hid _ := hrow
    clear hrow h0 hga
    go_wp2_with (go_at_call 127; refine (sort_row ss gb gcap w.heap.size _ HR.out hsz).mono ?_; rintro e w2 ⟨rfl, hrow2, hg⟩)
    go_ret
    exact ⟨_, rfl, Fin.out _ _ hrow2, hb.grown hg (by have := hb.size; omega) (fun c hc => by cases hc; exact hlt)⟩

end Go.Proofs.YtkjlkbgdkdcboaaGreat
