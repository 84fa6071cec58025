import Derived.Test.YtkjlkbgdkdcboaaGreatDoorSF
import Derived.Test.YtkjlkbgdkdcboaaGreatDoorJoinW

set_option linter.unusedSimpArgs false
set_option linter.unusedVariables false

set_option linter.unusedSimpArgs false
set_option linter.unusedVariables false
namespace Go.Proofs.YtkjlkbgdkdcboaaGreatDoor
open Go.RowKit Go.Maps Fl
attribute [local go_sem ↓] Go.wp_at_zero Go.wp_at_succ
attribute [local go_sem] run_store_complex'
theorem info163 : (Tryz.prog.info? 163).map (fun i => (i.zero, i.size, i.bytes)) = some (some (.agg #[.int .i64 0, .int .i64 0, .int .i64 0, .int .i64 0, .bool false, .bool false]), 6, 40) := by kernel_rfl
theorem heap_set {W : World} {B o : Nat} {cs : Array Value} {t : TypeId} {fr : Nat × Nat} (h : W.heap[B]? = some (.cells cs t fr)) (v : Value) : (W.setCell ⟨B, o, none⟩ v).heap[B]? = some (.cells (cs.setIfInBounds o v) t fr) := by
  obtain ⟨hlt, hk⟩ := Array.getElem?_eq_some_iff.1 h
  show (W.heap.modify B _)[B]? = _
  rw [Array.getElem?_eq_getElem (by rw [Array.size_modify]; exact hlt), Array.getElem_modify_self, hk]
  rfl
theorem grown_set (W : World) (b o : Nat) (v : Value) : W.grownBy (W.setCell ⟨b, o, none⟩ v) (some b) :=
  ⟨rfl, rfl, rfl, (KeepsWalks.setCell W _ v).size, fun k _ hk => Below.heap_setCell _ _ _ k (fun e => hk (by rw [e]))⟩
theorem below_heap {wr w' : World} {b : Nat} {o : Obj} (hb : Below wr.heap.size wr w') (h : wr.heap[b]? = some o) : w'.heap[b]? = some o := (hb.block b (Array.getElem?_eq_some_iff.1 h).1).trans h
theorem last_of {α : Type} {L : List α} (h : 0 < L.length) : ∃ M y, L = M ++ [y] := by
  cases L with
  | nil => simp at h
  | cons a r => exact ⟨_, _, (List.dropLast_concat_getLast (List.cons_ne_nil a r)).symm⟩
structure LyK (W wr : World) (E : List Acre.Ed) (u : Value) (kk : Nat) (op : Int) (x P3 P8 P9 : Nat) (l : Value) (L : List (Acre.Ed × Bool × Bool)) (b0 b1 : Nat) : Prop where
  lv : ∃ g cap, l = .slice (some ⟨g, 0, none⟩) L.length cap
  row : wr.ownsRow W.heap.size 163 6 l L.length (flatL L)
  ed : ∀ y ∈ L, y.1 ∈ E
  b3 : wr.heap[P3]? = some (.cells #[u, .int .i64 kk, .int .i64 op] 48 (0, 0))
  b8 : wr.heap[P8]? = some (.cells #[.int .i64 (b0 : Int), .int .i64 (b1 : Int)] 183 (0, 0))
  b9 : wr.heap[P9]? = some (.cells #[.float .f64 x] 116 (0, 0))
  bel : Below W.heap.size W wr
  p8 : W.heap.size ≤ P8
theorem LyK.call {w' : World} {W wr : World} {E : List Acre.Ed} {u : Value} {kk : Nat} {op : Int} {x P3 P8 P9 : Nat} {l : Value} {L : List (Acre.Ed × Bool × Bool)} {b0 b1 : Nat} (h : LyK W wr E u kk op x P3 P8 P9 l L b0 b1) (hb : Below wr.heap.size wr w') : LyK W w' E u kk op x P3 P8 P9 l L b0 b1 :=
  ⟨h.lv, row_call h.row hb, h.ed, below_heap hb h.b3, below_heap hb h.b8, below_heap hb h.b9, below_more h.bel hb, h.p8⟩
theorem LyK.push {w1 : World} {W wr : World} {E : List Acre.Ed} {u : Value} {kk : Nat} {op : Int} {x P3 P8 P9 : Nat} {l : Value} {L : List (Acre.Ed × Bool × Bool)} {b0 b1 : Nat} (h : LyK W wr E u kk op x P3 P8 P9 l L b0 b1) {v' : Value} {y : Acre.Ed × Bool × Bool} (o : Obj) (hown : w1.ownsRow W.heap.size 163 6 v' (L.length + 1) (flatL L ++ layV y)) (hg : (wr.alloc o).grownBy w1 l.ownBlock) (hv : ∃ g cap, v' = .slice (some ⟨g, 0, none⟩) (L.length + 1) cap) (hy : y.1 ∈ E) : LyK W w1 E u kk op x P3 P8 P9 v' (L ++ [y]) b0 b1 := by
  have b1' := below1 wr o
  have t1 : RowTag (wr.alloc o) l.ownBlock (some 163) := RowTag.of_row (row_call h.row b1')
  have e1 : (L ++ [y]).length = L.length + 1 := by simp
  have e2 : flatL (L ++ [y]) = flatL L ++ layV y := by simp [flatL]
  refine ⟨by rw [e1]; exact hv, by rw [e1, e2]; exact hown, fun z hz => ?_, block_tag hg t1 (below_heap b1' h.b3) (by simp [tagOf]), block_tag hg t1 (below_heap b1' h.b8) (by simp [tagOf]), block_tag hg t1 (below_heap b1' h.b9) (by simp [tagOf]), (below_more h.bel b1').grown hg (by have := h.bel.size; have := b1'.size; omega) (fun c hc => (h.row.lt c hc).1), h.p8⟩
  rcases List.mem_append.1 hz with hz | hz
  · exact h.ed z hz
  · rw [List.mem_singleton.1 hz]; exact hy
theorem LyK.keep11 {w1 : World} {W wr : World} {E : List Acre.Ed} {u : Value} {kk : Nat} {op : Int} {x P3 P8 P9 : Nat} {l : Value} {L : List (Acre.Ed × Bool × Bool)} {b0 b1 : Nat} (h : LyK W wr E u kk op x P3 P8 P9 l L b0 b1) {o : Obj} (hg : (wr.alloc o).grownBy w1 l.ownBlock) {P : Nat} {cs : Array Value} (hP : wr.heap[P]? = some (.cells cs 167 (0, 0))) : w1.heap[P]? = some (.cells cs 167 (0, 0)) :=
  block_tag hg (RowTag.of_row (row_call h.row (below1 wr o))) (below_heap (below1 wr o) hP) (by simp [tagOf])
theorem LyK.set8 {W wr : World} {E : List Acre.Ed} {u : Value} {kk : Nat} {op : Int} {x P3 P8 P9 : Nat} {l : Value} {L : List (Acre.Ed × Bool × Bool)} {b0 b1 : Nat} (h : LyK W wr E u kk op x P3 P8 P9 l L b0 b1) (o : Nat) (v : Value) {c0 c1 : Nat} (hc : (#[.int .i64 (b0 : Int), .int .i64 (b1 : Int)] : Array Value).setIfInBounds o v = #[.int .i64 (c0 : Int), .int .i64 (c1 : Int)]) : LyK W (wr.setCell ⟨P8, o, none⟩ v) E u kk op x P3 P8 P9 l L c0 c1 := by
  have g1 := grown_set wr P8 o v
  have t1 : RowTag wr (some P8) (some 183) := fun r e => by cases e; exact ⟨_, h.b8, rfl⟩
  refine ⟨h.lv, row_tag g1 t1 h.row (by decide), h.ed, block_tag g1 t1 h.b3 (by simp [tagOf]), ?_, block_tag g1 t1 h.b9 (by simp [tagOf]), h.bel.grown g1 h.bel.size (fun c e => by cases e; exact h.p8), h.p8⟩
  rw [heap_set h.b8, hc]
theorem LyK.more0 {W wr : World} {E : List Acre.Ed} {u : Value} {kk : Nat} {op : Int} {x P3 P8 P9 : Nat} {l : Value} {L : List (Acre.Ed × Bool × Bool)} {b0 b1 : Nat} (h : LyK W wr E u kk op x P3 P8 P9 l L b0 b1) : LyK W (wr.setCell ⟨P8, 0, none⟩ (.int .i64 ((b0 : Int) + 1))) E u kk op x P3 P8 P9 l L (b0 + 1) b1 := h.set8 0 _ rfl
theorem LyK.more1 {W wr : World} {E : List Acre.Ed} {u : Value} {kk : Nat} {op : Int} {x P3 P8 P9 : Nat} {l : Value} {L : List (Acre.Ed × Bool × Bool)} {b0 b1 : Nat} (h : LyK W wr E u kk op x P3 P8 P9 l L b0 b1) : LyK W (wr.setCell ⟨P8, 1, none⟩ (.int .i64 ((b1 : Int) + 1))) E u kk op x P3 P8 P9 l L b0 (b1 + 1) := h.set8 1 _ rfl
theorem flatL_len (M : List (Acre.Ed × Bool × Bool)) : (flatL M).length = M.length * 6 := by
  induction M with
  | nil => rfl
  | cons a r ih => unfold flatL at ih ⊢; rw [List.flatMap_cons, List.length_append, ih, List.length_cons]; show 6 + _ = _; omega
theorem flatL_last (M : List (Acre.Ed × Bool × Bool)) (y : Acre.Ed × Bool × Bool) : flatL (M ++ [y]) = flatL M ++ layV y := by simp [flatL]
theorem LyK.cell5 {W wr : World} {E : List Acre.Ed} {u : Value} {kk : Nat} {op : Int} {x P3 P8 P9 g cap : Nat} {n : Nat} {M : List (Acre.Ed × Bool × Bool)} {y : Acre.Ed × Bool × Bool} {b0 b1 : Nat} (h : LyK W wr E u kk op x P3 P8 P9 (.slice (some ⟨g, 0, none⟩) n cap) (M ++ [y]) b0 b1) : wr.cell? ⟨g, M.length * 6 + 5, none⟩ = some (.bool y.2.2) := by
  obtain ⟨g', cap', hl⟩ := h.lv
  cases hl
  have hr := h.row
  rw [hr.cellAt _ (by simp; omega), flatL_last, List.getElem?_append_right (by rw [flatL_len]; omega), flatL_len]
  rw [show M.length * 6 + 5 - M.length * 6 = 5 by omega]
  rfl
theorem LyK.froz5 {W wr : World} {E : List Acre.Ed} {u : Value} {kk : Nat} {op : Int} {x P3 P8 P9 g cap : Nat} {n : Nat} {M : List (Acre.Ed × Bool × Bool)} {y : Acre.Ed × Bool × Bool} {b0 b1 : Nat} (h : LyK W wr E u kk op x P3 P8 P9 (.slice (some ⟨g, 0, none⟩) n cap) (M ++ [y]) b0 b1) : wr.frozen? ⟨g, M.length * 6 + 5, none⟩ = false := by
  obtain ⟨g', cap', hl⟩ := h.lv
  cases hl
  exact h.row.frozenAt _
theorem LyK.mark {W wr : World} {E : List Acre.Ed} {u : Value} {kk : Nat} {op : Int} {x P3 P8 P9 g cap : Nat} {n : Nat} {M : List (Acre.Ed × Bool × Bool)} {y : Acre.Ed × Bool × Bool} {b0 b1 : Nat} (h : LyK W wr E u kk op x P3 P8 P9 (.slice (some ⟨g, 0, none⟩) n cap) (M ++ [y]) b0 b1) (ins : Bool) : LyK W (wr.setCell ⟨g, M.length * 6 + 5, none⟩ (.bool ins)) E u kk op x P3 P8 P9 (.slice (some ⟨g, 0, none⟩) n cap) (M ++ [(y.1, y.2.1, ins)]) b0 b1 := by
  obtain ⟨g', cap', hl⟩ := h.lv
  cases hl
  obtain ⟨r1, g1⟩ := h.row.stored (M.length * 6 + 5) (.bool ins)
  have t1 : RowTag wr (some g) (some 163) := RowTag.of_row h.row
  have e : (flatL (M ++ [y])).set (M.length * 6 + 5) (.bool ins) = flatL (M ++ [(y.1, y.2.1, ins)]) := by
    rw [flatL_last, flatL_last, List.set_append_right _ _ (by rw [flatL_len]; omega), flatL_len, show M.length * 6 + 5 - M.length * 6 = 5 by omega]
    rfl
  rw [e] at r1
  have e3 : (M ++ [(y.1, y.2.1, ins)]).length = (M ++ [y]).length := by simp
  refine ⟨⟨g, cap, by rw [e3]⟩, by rw [e3]; exact r1, fun z hz => ?_, block_tag g1 t1 h.b3 (by simp [tagOf]), block_tag g1 t1 h.b8 (by simp [tagOf]), block_tag g1 t1 h.b9 (by simp [tagOf]), h.bel.grown g1 h.bel.size (fun c e => (h.row.lt c e).1), h.p8⟩
  rcases List.mem_append.1 hz with hz | hz
  · exact h.ed z (by simp [hz])
  · rw [List.mem_singleton.1 hz]; exact h.ed y (by simp)
def LyS (I : World → Prop) (P9 P11 gl j x : Nat) (s t : Sk) (wr : World) : Prop :=
  wr.cell? ⟨gl, j * 3, none⟩ = some (.int .i64 (t.1 : Int)) ∧ wr.cell? ⟨gl, j * 3 + 1, none⟩ = some (.complex .f64 t.2.1.1 t.2.1.2) ∧ wr.cell? ⟨gl, j * 3 + 2, none⟩ = some (.complex .f64 t.2.2.1 t.2.2.2) ∧
  wr.cell? ⟨P11, 0, none⟩ = some (.int .i64 (s.1 : Int)) ∧ wr.cell? ⟨P11, 1, none⟩ = some (.complex .f64 s.2.1.1 s.2.1.2) ∧ wr.cell? ⟨P11, 2, none⟩ = some (.complex .f64 s.2.2.1 s.2.2.2) ∧
  wr.cell? ⟨P9, 0, none⟩ = some (.float .f64 x) ∧ Hid (I wr) ∧ Hid (wr.heap[P11]? = some (.cells #[.int .i64 (s.1 : Int), .complex .f64 s.2.1.1 s.2.1.2, .complex .f64 s.2.2.1 s.2.2.2] 167 (0, 0)))
theorem LyS.call {I : World → Prop} (hI : ∀ wr w', I wr → Below wr.heap.size wr w' → I w') {P9 P11 gl j x : Nat} {s t : Sk} {wr w' : World} (h : LyS I P9 P11 gl j x s t wr) (hb : Below wr.heap.size wr w') : LyS I P9 P11 gl j x s t w' := by
  obtain ⟨a1, a2, a3, a4, a5, a6, a7, a8, a9⟩ := h
  exact ⟨below_cell hb a1, below_cell hb a2, below_cell hb a3, below_cell hb a4, below_cell hb a5, below_cell hb a6, below_cell hb a7, hide (hI _ _ a8.out hb), hide (below_heap hb a9.out)⟩
def LyS0 (I : World → Prop) (P11 : Nat) (s : Sk) (wr : World) : Prop :=
  Hid (I wr) ∧ Hid (wr.heap[P11]? = some (.cells #[.int .i64 (s.1 : Int), .complex .f64 s.2.1.1 s.2.1.2, .complex .f64 s.2.2.1 s.2.2.2] 167 (0, 0)))
set_option maxRecDepth 100000 in
set_option maxHeartbeats 4000000 in
theorem layersAt_any (E : List Acre.Ed) (u : Value) (base kk : Nat) (op : Int) (x base2 gl capl n : Nat) (T : Nat → Sk) (W : World) (hE : W.ownsRow base 42 4 u E.length (flatE E)) (h : SR W base2 gl capl n T) (hEl : E.length ≤ 24) (hn : n ≤ 24) (hx : Md x 24) (hkk : kk ≤ 24) (hok : ∀ t, t < n → (T t).1 < E.length ∧ ∃ a b c d, SkOk (T t) a b c d) :
    Calls Tryz.prog 47 #[.agg #[u, .int .i64 kk, .int .i64 op], .float .f64 x, .slice (some ⟨gl, 0, none⟩) n capl] W fun e w' => ∃ l L, e = .returned l ∧ w'.ownsRow W.heap.size 163 6 l L.length (flatL L) ∧ L.length ≤ n ∧ (∀ y ∈ L, y.1 ∈ E) ∧ Below W.heap.size W w' := by
  obtain ⟨ga, gb, gcap, rfl, hga, hcap⟩ := row_form hE
  obtain ⟨i0, hi, hz0, hz1, hz2⟩ := info_parts info163
  obtain ⟨W0, hW0⟩ : ∃ W0, W.alloc (.cells #[.slice ga E.length gcap, .int .i64 kk, .int .i64 op] 48) = W0 := ⟨_, rfl⟩
  have hb0 := below1 W (.cells #[.slice ga E.length gcap, .int .i64 kk, .int .i64 op] 48)
  have hn0 := World.alloc_heap_new W (.cells #[.slice ga E.length gcap, .int .i64 kk, .int .i64 op] 48)
  rw [hW0] at hb0 hn0
  have hs0 := hb0.size
  obtain ⟨W1, hm, ho, hg⟩ := run_make_own (P := Tryz.prog) W0 W.heap.size 100 163 i0 _ 6 Tryz.underlying100 hi hz0 hz1 .i64 .i64 n (by rw [hz2]; omega) (by unfold maxLen; omega) hs0
  go_enter Tryz.func47, Tryz.ntmps47
  have b01 : Below W0.heap.size W0 W1 := (Below.refl _ _).grown hg (Nat.le_refl _) (fun c hc => by simp at hc)
  go_upto_region 1 with fail
  go_wp2_with fail
  refine (riseAt_any x _).mono ?_
  rintro e w9 ⟨rfl, hw9⟩
  rw [hw9]
  clear hw9
  have b12 := below1 W1 (.cells #[.int .i64 0, .int .i64 0] 183)
  have n12 := World.alloc_heap_new W1 (.cells #[.int .i64 0, .int .i64 0] 183)
  generalize W1.alloc (.cells #[.int .i64 0, .int .i64 0] 183) = W2 at *
  have b23 := below1 W2 (.cells #[.float .f64 x] 116)
  have n23 := World.alloc_heap_new W2 (.cells #[.float .f64 x] 116)
  generalize W2.alloc (.cells #[.float .f64 x] 116) = W3 at *
  obtain ⟨g0, c0, hv0⟩ : ∃ g0 c0, W1.ownsRow W.heap.size 163 6 (.slice (some ⟨g0, 0, none⟩) 0 c0) 0 [] := ⟨_, _, ho⟩
  have H0 : Hid (LyK W W3 E (.slice ga E.length gcap) kk op x W.heap.size W1.heap.size W2.heap.size _ [] 0 0) := hide ⟨⟨_, _, rfl⟩, row_call (row_call ho b12) b23, by simp, below_heap b23 (below_heap b12 (below_heap b01 hn0)), below_heap b23 n12, n23, below_more (below_more (below_more hb0 b01) b12) b23, Nat.le_trans hs0 hg.size⟩
  clear hv0 ho hg hm hn0 n12 n23 b12 b23 b01 hb0 hW0 hcap hi hz0 hz1 hz2
  clear i0
  generalize hP8 : W1.heap.size = P8 at *
  generalize hP9 : W2.heap.size = P9 at *
  obtain ⟨P3, hP3⟩ : ∃ P3, W.heap.size = P3 := ⟨_, rfl⟩
  rw [hP3] at H0
  unfold fnV
  go_wp2
  go_loopw [7, 19] (fun l v wr => ∃ k : Nat, v = .int .i64 (k : Nat) ∧ k ≤ n ∧ ∃ L b0 b1, L.length ≤ k ∧ (0 < k → 0 < L.length) ∧ b0 ≤ k ∧ b1 ≤ k ∧ Hid (LyK W wr E (.slice ga E.length gcap) kk op x P3 P8 P9 l L b0 b1)) (fun _ v _ => n - (intOf v).toNat)
  case atStart => exact ⟨0, rfl, Nat.zero_le _, [], 0, 0, Nat.le_refl _, fun h => by omega, Nat.le_refl _, Nat.le_refl _, H0.out⟩
  case round =>
    obtain ⟨k, rfl, hk, L, b0, b1, hLk, hL0, hb0k, hb1k, hr⟩ := hrel
    clear H0
    by_cases hlt : k < n
    · obtain ⟨hsn, hsk⟩ := hok k hlt
      obtain rfl := hga (by omega)
      obtain ⟨x0, x1, x2⟩ := h.at hlt
      have y0 := cell_later hr.out.bel x0
      have y1 := cell_later hr.out.bel x1
      have y2 := cell_later hr.out.bel x2
      have hCm := cmp_ok P9 x hx
      obtain ⟨⟨sn, ⟨sa, sb⟩, ⟨sc, sd⟩⟩, hS0⟩ : ∃ s, T k = s := ⟨_, rfl⟩
      rw [hS0] at y0 y1 y2 hsn hsk
      dsimp only at y0 y1 y2 hsn
      obtain ⟨e0, e1, e2, e3⟩ := rowE_cells hE sn hsn
      have HEk : Hid (E[sn] ∈ E) := hide (List.getElem_mem hsn)
      obtain ⟨⟨⟨q0, q1⟩, ⟨q2, q3⟩⟩, hEk⟩ : ∃ e, E[sn] = e := ⟨_, rfl⟩
      rw [hEk] at e0 e1 e2 e3 HEk
      dsimp only at e0 e1 e2 e3
      have d1 : decide ((k : Int) < (n : Int)) = true := decide_eq_true (by omega)
      have d1' : decide (k < n) = true := decide_eq_true hlt
      have dsn : (sn : Int) < (E.length : Int) := by omega
      have bk : k ≤ 1000000 := by omega
      have bsn : sn ≤ 1000000 := by omega
      have hM : L.length ≤ 1000 := by omega
      have bb0 : b0 ≤ 1000 := by omega
      have bb1 : b1 ≤ 1000 := by omega
      have hN11 := World.alloc_heap_new wr (.cells #[.int .i64 (sn : Int), .complex .f64 sa sb, .complex .f64 sc sd] 167)
      have hbN := below1 wr (.cells #[.int .i64 (sn : Int), .complex .f64 sa sb, .complex .f64 sc sd] 167)
      have HR := hide (hr.out.call hbN)
      clear x0 x1 x2 hr hEk
      by_cases hk0 : k = 0
      · subst hk0
        have hS : LyS0 (fun wr => LyK W wr E (.slice (some ⟨gb, 0, none⟩) E.length gcap) kk op x P3 P8 P9 u7 L b0 b1) wr.heap.size (sn, (sa, sb), (sc, sd)) (wr.alloc (.cells #[.int .i64 (sn : Int), .complex .f64 sa sb, .complex .f64 sc sd] 167)).drew := ⟨hide (HR.out.call (Below.drew (Below.refl _ _))), hide hN11⟩
        clear hCm hok h hE HR hN11 hbN hsk hS0
        have hCm : True := trivial
        have HCm := hCm
        go_upto_region 7 with fail
        clear y0 y1 y2
        generalize wr.alloc (.cells #[.int .i64 (sn : Int), .complex .f64 sa sb, .complex .f64 sc sd] 167) = WP at *
        generalize wr.heap.size = P11 at *
        refine wp_region_noPanic ?_
        refine wp_region_held_drew (S := LyS0 (fun wr => LyK W wr E (.slice (some ⟨gb, 0, none⟩) E.length gcap) kk op x P3 P8 P9 u7 L b0 b1) P11 (sn, (sa, sb), (sc, sd))) (by kernel_rfl) hS (fun hHeld => ?_)
        refine wpAnyH_take (i := 0) (oi := { dst := some 24, op := Op.move (Operand.tmp 10), type := 3, pos := _, after := #[], guard := none }) (v := .int .i64 0) rfl (by kernel_rfl) (by kernel_rfl) (by kernel_rfl) (fun _ _ _ h => h) (Or.inl ⟨by rfl, ?_⟩) hHeld ?_
        · intro Wx hSw
          skip
          clear hHeld hS HCm HEk
          go_simp
        try simp only [Act.put, List.setIfInBounds_toArray, List.set_cons_zero, List.set_cons_succ]
        refine wpAnyH_take (i := 1) (oi := { dst := some 25, op := Op.binOp BinOp.eql 3 (Operand.tmp 24) (Operand.const (Value.int IntKind.i64 0)) 3, type := 4, pos := _, after := #[{ on := 0, ground := Ground.data }], guard := none }) (v := .bool true) rfl (by kernel_rfl) (by kernel_rfl) (by kernel_rfl) (fun _ _ _ h => h) (Or.inl ⟨by rfl, ?_⟩) hHeld ?_
        · intro Wx hSw
          skip
          clear hHeld hS HCm HEk
          go_simp
        try simp only [Act.put, List.setIfInBounds_toArray, List.set_cons_zero, List.set_cons_succ]
        refine wpAnyH_take (i := 2) (oi := { dst := some 26, op := Op.move (Operand.tmp 25), type := 4, pos := _, after := #[{ on := 1, ground := Ground.data }], guard := none }) (v := .bool true) rfl (by kernel_rfl) (by kernel_rfl) (by kernel_rfl) (fun _ _ _ h => h) (Or.inl ⟨by rfl, ?_⟩) hHeld ?_
        · intro Wx hSw
          skip
          clear hHeld hS HCm HEk
          go_simp
        try simp only [Act.put, List.setIfInBounds_toArray, List.set_cons_zero, List.set_cons_succ]
        refine wpAnyH_take (i := 3) (oi := { dst := some 27, op := Op.move (Operand.tmp 9), type := 174, pos := _, after := #[{ on := 2, ground := Ground.guard }], guard := some (2, false) }) (v := undef) rfl (by kernel_rfl) (by kernel_rfl) (by kernel_rfl) (fun _ _ _ h => h) (Or.inr ⟨by rfl, rfl⟩) hHeld ?_
        try simp only [Act.put, List.setIfInBounds_toArray, List.set_cons_zero, List.set_cons_succ]
        refine wpAnyH_take (i := 4) (oi := { dst := some 28, op := Op.move (Operand.tmp 2), type := 109, pos := _, after := #[{ on := 2, ground := Ground.guard }], guard := some (2, false) }) (v := undef) rfl (by kernel_rfl) (by kernel_rfl) (by kernel_rfl) (fun _ _ _ h => h) (Or.inr ⟨by rfl, rfl⟩) hHeld ?_
        try simp only [Act.put, List.setIfInBounds_toArray, List.set_cons_zero, List.set_cons_succ]
        refine wpAnyH_take (i := 5) (oi := { dst := some 29, op := Op.move (Operand.tmp 10), type := 3, pos := _, after := #[{ on := 2, ground := Ground.guard }], guard := some (2, false) }) (v := undef) rfl (by kernel_rfl) (by kernel_rfl) (by kernel_rfl) (fun _ _ _ h => h) (Or.inr ⟨by rfl, rfl⟩) hHeld ?_
        try simp only [Act.put, List.setIfInBounds_toArray, List.set_cons_zero, List.set_cons_succ]
        refine wpAnyH_take (i := 6) (oi := { dst := some 30, op := Op.binOp BinOp.sub 3 (Operand.tmp 29) (Operand.const (Value.int IntKind.i64 1)) 3, type := 3, pos := _, after := #[{ on := 5, ground := Ground.data }, { on := 2, ground := Ground.guard }], guard := some (2, false) }) (v := undef) rfl (by kernel_rfl) (by kernel_rfl) (by kernel_rfl) (fun _ _ _ h => h) (Or.inr ⟨by rfl, rfl⟩) hHeld ?_
        try simp only [Act.put, List.setIfInBounds_toArray, List.set_cons_zero, List.set_cons_succ]
        refine wpAnyH_take (i := 7) (oi := { dst := some 31, op := Op.indexAddr 109 (Operand.tmp 28) (Operand.tmp 30), type := 0, pos := _, after := #[{ on := 4, ground := Ground.data }, { on := 6, ground := Ground.data }, { on := 2, ground := Ground.guard }], guard := some (2, false) }) (v := undef) rfl (by kernel_rfl) (by kernel_rfl) (by kernel_rfl) (fun _ _ _ h => h) (Or.inr ⟨by rfl, rfl⟩) hHeld ?_
        try simp only [Act.put, List.setIfInBounds_toArray, List.set_cons_zero, List.set_cons_succ]
        refine wpAnyH_take (i := 8) (oi := { dst := some 32, op := Op.load 167 (Operand.tmp 31), type := 167, pos := _, after := #[{ on := 7, ground := Ground.data }, { on := 2, ground := Ground.guard }], guard := some (2, false) }) (v := undef) rfl (by kernel_rfl) (by kernel_rfl) (by kernel_rfl) (fun _ _ _ h => h) (Or.inr ⟨by rfl, rfl⟩) hHeld ?_
        try simp only [Act.put, List.setIfInBounds_toArray, List.set_cons_zero, List.set_cons_succ]
        refine wpAnyH_take (i := 9) (oi := { dst := some 33, op := Op.load 167 (Operand.tmp 11), type := 167, pos := _, after := #[{ on := 2, ground := Ground.guard }], guard := some (2, false) }) (v := undef) rfl (by kernel_rfl) (by kernel_rfl) (by kernel_rfl) (fun _ _ _ h => h) (Or.inr ⟨by rfl, rfl⟩) hHeld ?_
        try simp only [Act.put, List.setIfInBounds_toArray, List.set_cons_zero, List.set_cons_succ]
        refine wpAnyH_take (i := 10) (oi := { dst := some 34, op := Op.call { callee := Callee.value (Operand.tmp 27), args := #[Operand.tmp 32, Operand.tmp 33], argTypes := #[167, 167] }, type := 3, pos := _, after := #[{ on := 3, ground := Ground.data }, { on := 8, ground := Ground.data }, { on := 9, ground := Ground.data }, { on := 2, ground := Ground.chain }, { on := 2, ground := Ground.guard }], guard := some (2, false) }) (v := undef) rfl (by kernel_rfl) (by kernel_rfl) (by kernel_rfl) (fun _ _ _ h => h) (Or.inr ⟨by rfl, rfl⟩) hHeld ?_
        try simp only [Act.put, List.setIfInBounds_toArray, List.set_cons_zero, List.set_cons_succ]
        refine wpAnyH_take (i := 11) (oi := { dst := some 35, op := Op.binOp BinOp.neq 3 (Operand.tmp 34) (Operand.const (Value.int IntKind.i64 0)) 3, type := 4, pos := _, after := #[{ on := 10, ground := Ground.data }, { on := 2, ground := Ground.guard }], guard := some (2, false) }) (v := undef) rfl (by kernel_rfl) (by kernel_rfl) (by kernel_rfl) (fun _ _ _ h => h) (Or.inr ⟨by rfl, rfl⟩) hHeld ?_
        try simp only [Act.put, List.setIfInBounds_toArray, List.set_cons_zero, List.set_cons_succ]
        refine wpAnyH_take (i := 12) (oi := { dst := some 36, op := Op.pick (Operand.tmp 26) (Operand.const (Value.bool true)) (Operand.tmp 35), type := 4, pos := _, after := #[{ on := 2, ground := Ground.data }, { on := 11, ground := Ground.data }], guard := none }) (v := .bool true) rfl (by kernel_rfl) (by kernel_rfl) (by kernel_rfl) (fun _ _ _ h => h) (Or.inl ⟨by rfl, ?_⟩) hHeld ?_
        · intro Wx hSw
          skip
          clear hHeld hS HCm HEk
          go_simp
        try simp only [Act.put, List.setIfInBounds_toArray, List.set_cons_zero, List.set_cons_succ]
        refine wpAnyH_done (by kernel_rfl) ?_ _
        refine NoPanic.normal ?_
        obtain ⟨HI, H11⟩ := hHeld
        clear hS
        generalize WP.drew = w'' at *
        obtain ⟨i0, hi, hz0, hz1, hz2⟩ := info_parts info163
        obtain ⟨g1, cap1, hl⟩ := HI.out.lv
        subst hl
        have p3 := box_of_heap (l := [_, _, _]) HI.out.b3
        have p11 := box_of_heap (l := [_, _, _]) H11.out
        have c30 := p3.c 0 _ rfl
        have c110 := p11.c 0 _ rfl
        have hbs := HI.out.bel.size
        have o1 := HI.out.row
        have w0' := cell_later HI.out.bel e0
        have w1' := cell_later HI.out.bel e1
        have w2' := cell_later HI.out.bel e2
        have w3' := cell_later HI.out.bel e3
        clear p3 p11
        go_upto_region 9 with (first
          | (at_builtin; refine wpList_append_own_at _ rfl _ _ 100 rfl W.heap.size 163 i0 _ 6 40 Tryz.underlying100 hi hz0 hz1 hz2 rfl (by decide) _ _ _ rfl (o1.alloc _) ⟨w''.heap.size, 0, none⟩ 1 1 (layV (((q0, q1), (q2, q3)), false, false)) rfl rfl (World.news_of_block (cs := #[.int .i64 q0, .int .i64 q1, .int .i64 q2, .int .i64 q3, .bool false, .bool false]) (t := 163) (fr := (0, 0)) (heap_alloc_new w'' _)) (by simp [layV, Value.oneCell']) (by unfold maxLen; omega) (by omega) (by simp [layV]; omega) ?_; intro v' wc hown' hgrow hnil hloc; obtain ⟨g', cap', rfl⟩ := row_succ hown')
          | go_in)
        have HN := hide (HI.out.push _ hown' hgrow ⟨_, _, rfl⟩ HEk.out)
        have H11' := hide (HI.out.keep11 hgrow H11.out)
        clear H11
        have H11 := H11'
        clear H11' hown' hgrow hnil hloc o1 HI c30 c110 w0' w1' w2' w3' e0 e1 e2 e3
        have p3 := box_of_heap (l := [_, _, _]) HN.out.b3
        have p11 := box_of_heap (l := [_, _, _]) H11.out
        have c30 := p3.c 0 _ rfl
        have c31 := p3.c 1 _ rfl
        have c32 := p3.c 2 _ rfl
        have c110 := p11.c 0 _ rfl
        clear p3 p11
        go_wp2_with fail
        refine (owner_any (.slice (some ⟨gb, 0, none⟩) E.length gcap) sn kk op _ _ _ _ rfl).mono ?_
        rintro e w3 ⟨rfl, hb3⟩
        have HJ3 := hide (HN.out.call hb3)
        clear c30 c31 c32 c110 HN H11 hb3
        by_cases hnk : (sn : Int) < (kk : Int)
        · rw [if_pos hnk]
          have p8 := box_of_heap (l := [_, _]) HJ3.out.b8
          have k0 := p8.c 0 _ rfl
          have kf := p8.f 0 (by simp)
          have HJ4 := hide (HJ3.out.more0)
          clear p8 HJ3
          go_upto_region 10 with fail
          clear k0 kf
          generalize w3.setCell ⟨P8, 0, none⟩ (.int .i64 ((b0 : Int) + 1)) = W5 at *
          have p3 := box_of_heap (l := [_, _, _]) HJ4.out.b3
          have p8 := box_of_heap (l := [_, _]) HJ4.out.b8
          have c30 := p3.c 0 _ rfl
          have c31 := p3.c 1 _ rfl
          have c32 := p3.c 2 _ rfl
          have c80 := p8.c 0 _ rfl
          have c81 := p8.c 1 _ rfl
          clear p3 p8
          go_wp2_with fail
          refine (keeps_any (.slice (some ⟨gb, 0, none⟩) E.length gcap) kk op (b0 + 1) b1 _ _ _ _ rfl (by omega) (by omega)).mono ?_
          rintro e w6 ⟨rfl, hb6⟩
          generalize Acre.keepsB op (b0 + 1) b1 = ins at *
          have HJ6 := hide (HJ4.out.call hb6)
          have l5 := HJ6.out.cell5
          have f5 := HJ6.out.froz5
          have HN := hide (HJ6.out.mark ins)
          clear HJ4 HJ6 hb6 c30 c31 c32 c80 c81
          go_wp2
          go_roundw
          case rel => exact ⟨0 + 1, by go_num, by omega, _, (b0 + 1), b1, by simp only [List.length_append, List.length_cons, List.length_nil] at *; omega, fun _ => by simp, by omega, by omega, HN.out⟩
          case measure => simp [intOf]; omega
        · rw [if_neg hnk]
          have p8 := box_of_heap (l := [_, _]) HJ3.out.b8
          have k0 := p8.c 1 _ rfl
          have kf := p8.f 1 (by simp)
          have HJ4 := hide (HJ3.out.more1)
          clear p8 HJ3
          go_upto_region 10 with fail
          clear k0 kf
          generalize w3.setCell ⟨P8, 1, none⟩ (.int .i64 ((b1 : Int) + 1)) = W5 at *
          have p3 := box_of_heap (l := [_, _, _]) HJ4.out.b3
          have p8 := box_of_heap (l := [_, _]) HJ4.out.b8
          have c30 := p3.c 0 _ rfl
          have c31 := p3.c 1 _ rfl
          have c32 := p3.c 2 _ rfl
          have c80 := p8.c 0 _ rfl
          have c81 := p8.c 1 _ rfl
          clear p3 p8
          go_wp2_with fail
          refine (keeps_any (.slice (some ⟨gb, 0, none⟩) E.length gcap) kk op b0 (b1 + 1) _ _ _ _ rfl (by omega) (by omega)).mono ?_
          rintro e w6 ⟨rfl, hb6⟩
          generalize Acre.keepsB op b0 (b1 + 1) = ins at *
          have HJ6 := hide (HJ4.out.call hb6)
          have l5 := HJ6.out.cell5
          have f5 := HJ6.out.froz5
          have HN := hide (HJ6.out.mark ins)
          clear HJ4 HJ6 hb6 c30 c31 c32 c80 c81
          go_wp2
          go_roundw
          case rel => exact ⟨0 + 1, by go_num, by omega, _, b0, (b1 + 1), by simp only [List.length_append, List.length_cons, List.length_nil] at *; omega, fun _ => by simp, by omega, by omega, HN.out⟩
          case measure => simp [intOf]; omega
      · obtain ⟨j, rfl⟩ : ∃ j, k = j + 1 := ⟨k - 1, by omega⟩
        have hL0 := hL0 (by omega)
        obtain ⟨x0, x1, x2⟩ := h.at (show j < n by omega)
        obtain ⟨_, htk⟩ := hok j (by omega)
        obtain ⟨⟨tn, ⟨ta, tb⟩, ⟨tc, td⟩⟩, hT0⟩ : ∃ s, T j = s := ⟨_, rfl⟩
        rw [hT0] at x0 x1 x2 htk
        dsimp only at x0 x1 x2
        have p11 := box_of_heap (l := [_, _, _]) hN11
        have p9 := box_of_heap (l := [_]) HR.out.b9
        have hS : LyS (fun wr => LyK W wr E (.slice (some ⟨gb, 0, none⟩) E.length gcap) kk op x P3 P8 P9 u7 L b0 b1) P9 wr.heap.size gl j x (sn, (sa, sb), (sc, sd)) (tn, (ta, tb), (tc, td)) (wr.alloc (.cells #[.int .i64 (sn : Int), .complex .f64 sa sb, .complex .f64 sc sd] 167)).drew :=
          ⟨cell_later (HR.out.call (Below.drew (Below.refl _ _))).bel x0, cell_later (HR.out.call (Below.drew (Below.refl _ _))).bel x1, cell_later (HR.out.call (Below.drew (Below.refl _ _))).bel x2, p11.c 0 _ rfl, p11.c 1 _ rfl, p11.c 2 _ rfl, p9.c 0 _ rfl, hide (HR.out.call (Below.drew (Below.refl _ _))), hide hN11⟩
        have HCm := hide (fun V (hc : V.cell? ⟨P9, 0, none⟩ = some (.float .f64 x)) => hCm V (tn, (ta, tb), (tc, td)) (sn, (sa, sb), (sc, sd)) hc htk hsk)
        unfold skV at HCm
        dsimp only at HCm
        have kj0 : (0 : Int) ≤ (j : Int) := Int.natCast_nonneg _
        have kj1 : (j : Int) < (n : Int) := by omega
        have hwj : IntKind.i64.wrap (j : Int) = (j : Int) := IntWalk.i64_in _ (by omega)
        have dj : decide ((j : Int) + 1 = 0) = false := decide_eq_false (by omega)
        have dj' : ¬ ((j : Int) + 1 = 0) := by omega
        clear hCm hok h hE HR hN11 hbN hsk htk hS0 hT0 p11 p9 x0 x1 x2
        go_upto_region 7 with fail
        clear y0 y1 y2
        generalize wr.alloc (.cells #[.int .i64 (sn : Int), .complex .f64 sa sb, .complex .f64 sc sd] 167) = WP at *
        generalize wr.heap.size = P11 at *
        refine wp_region_noPanic ?_
        refine wp_region_held_drew (S := LyS (fun wr => LyK W wr E (.slice (some ⟨gb, 0, none⟩) E.length gcap) kk op x P3 P8 P9 u7 L b0 b1) P9 P11 gl j x (sn, (sa, sb), (sc, sd)) (tn, (ta, tb), (tc, td))) (by kernel_rfl) hS (fun hHeld => ?_)
        refine wpAnyH_take (i := 0) (oi := { dst := some 24, op := Op.move (Operand.tmp 10), type := 3, pos := _, after := #[], guard := none }) (v := .int .i64 ((j + 1 : Nat) : Int)) rfl (by kernel_rfl) (by kernel_rfl) (by kernel_rfl) (fun _ _ _ h => h) (Or.inl ⟨by rfl, ?_⟩) hHeld ?_
        · intro Wx hSw
          obtain ⟨t0, t1, t2, s0, s1, s2, _⟩ := hSw
          clear hHeld hS HCm HEk
          go_simp
        try simp only [Act.put, List.setIfInBounds_toArray, List.set_cons_zero, List.set_cons_succ]
        refine wpAnyH_take (i := 1) (oi := { dst := some 25, op := Op.binOp BinOp.eql 3 (Operand.tmp 24) (Operand.const (Value.int IntKind.i64 0)) 3, type := 4, pos := _, after := #[{ on := 0, ground := Ground.data }], guard := none }) (v := .bool false) rfl (by kernel_rfl) (by kernel_rfl) (by kernel_rfl) (fun _ _ _ h => h) (Or.inl ⟨by rfl, ?_⟩) hHeld ?_
        · intro Wx hSw
          obtain ⟨t0, t1, t2, s0, s1, s2, _⟩ := hSw
          clear hHeld hS HCm HEk
          go_simp
        try simp only [Act.put, List.setIfInBounds_toArray, List.set_cons_zero, List.set_cons_succ]
        refine wpAnyH_take (i := 2) (oi := { dst := some 26, op := Op.move (Operand.tmp 25), type := 4, pos := _, after := #[{ on := 1, ground := Ground.data }], guard := none }) (v := .bool false) rfl (by kernel_rfl) (by kernel_rfl) (by kernel_rfl) (fun _ _ _ h => h) (Or.inl ⟨by rfl, ?_⟩) hHeld ?_
        · intro Wx hSw
          obtain ⟨t0, t1, t2, s0, s1, s2, _⟩ := hSw
          clear hHeld hS HCm HEk
          go_simp
        try simp only [Act.put, List.setIfInBounds_toArray, List.set_cons_zero, List.set_cons_succ]
        refine wpAnyH_take (i := 3) (oi := { dst := some 27, op := Op.move (Operand.tmp 9), type := 174, pos := _, after := #[{ on := 2, ground := Ground.guard }], guard := some (2, false) }) (v := .func (.func 124) #[] #[.pointer (some ⟨P9, 0, none⟩)]) rfl (by kernel_rfl) (by kernel_rfl) (by kernel_rfl) (fun _ _ _ h => h) (Or.inl ⟨by rfl, ?_⟩) hHeld ?_
        · intro Wx hSw
          obtain ⟨t0, t1, t2, s0, s1, s2, _⟩ := hSw
          clear hHeld hS HCm HEk
          go_simp
        try simp only [Act.put, List.setIfInBounds_toArray, List.set_cons_zero, List.set_cons_succ]
        refine wpAnyH_take (i := 4) (oi := { dst := some 28, op := Op.move (Operand.tmp 2), type := 109, pos := _, after := #[{ on := 2, ground := Ground.guard }], guard := some (2, false) }) (v := .slice (some ⟨gl, 0, none⟩) n capl) rfl (by kernel_rfl) (by kernel_rfl) (by kernel_rfl) (fun _ _ _ h => h) (Or.inl ⟨by rfl, ?_⟩) hHeld ?_
        · intro Wx hSw
          obtain ⟨t0, t1, t2, s0, s1, s2, _⟩ := hSw
          clear hHeld hS HCm HEk
          go_simp
        try simp only [Act.put, List.setIfInBounds_toArray, List.set_cons_zero, List.set_cons_succ]
        refine wpAnyH_take (i := 5) (oi := { dst := some 29, op := Op.move (Operand.tmp 10), type := 3, pos := _, after := #[{ on := 2, ground := Ground.guard }], guard := some (2, false) }) (v := .int .i64 ((j + 1 : Nat) : Int)) rfl (by kernel_rfl) (by kernel_rfl) (by kernel_rfl) (fun _ _ _ h => h) (Or.inl ⟨by rfl, ?_⟩) hHeld ?_
        · intro Wx hSw
          obtain ⟨t0, t1, t2, s0, s1, s2, _⟩ := hSw
          clear hHeld hS HCm HEk
          go_simp
        try simp only [Act.put, List.setIfInBounds_toArray, List.set_cons_zero, List.set_cons_succ]
        refine wpAnyH_take (i := 6) (oi := { dst := some 30, op := Op.binOp BinOp.sub 3 (Operand.tmp 29) (Operand.const (Value.int IntKind.i64 1)) 3, type := 3, pos := _, after := #[{ on := 5, ground := Ground.data }, { on := 2, ground := Ground.guard }], guard := some (2, false) }) (v := .int .i64 (j : Int)) rfl (by kernel_rfl) (by kernel_rfl) (by kernel_rfl) (fun _ _ _ h => h) (Or.inl ⟨by rfl, ?_⟩) hHeld ?_
        · intro Wx hSw
          obtain ⟨t0, t1, t2, s0, s1, s2, _⟩ := hSw
          clear hHeld hS HCm HEk
          go_simp
        try simp only [Act.put, List.setIfInBounds_toArray, List.set_cons_zero, List.set_cons_succ]
        refine wpAnyH_take (i := 7) (oi := { dst := some 31, op := Op.indexAddr 109 (Operand.tmp 28) (Operand.tmp 30), type := 0, pos := _, after := #[{ on := 4, ground := Ground.data }, { on := 6, ground := Ground.data }, { on := 2, ground := Ground.guard }], guard := some (2, false) }) (v := .pointer (some ⟨gl, j * 3, none⟩)) rfl (by kernel_rfl) (by kernel_rfl) (by kernel_rfl) (fun _ _ _ h => h) (Or.inl ⟨by rfl, ?_⟩) hHeld ?_
        · intro Wx hSw
          obtain ⟨t0, t1, t2, s0, s1, s2, _⟩ := hSw
          clear hHeld hS HCm HEk
          go_simp
        try simp only [Act.put, List.setIfInBounds_toArray, List.set_cons_zero, List.set_cons_succ]
        refine wpAnyH_take (i := 8) (oi := { dst := some 32, op := Op.load 167 (Operand.tmp 31), type := 167, pos := _, after := #[{ on := 7, ground := Ground.data }, { on := 2, ground := Ground.guard }], guard := some (2, false) }) (v := .agg #[.int .i64 (tn : Int), .complex .f64 ta tb, .complex .f64 tc td]) rfl (by kernel_rfl) (by kernel_rfl) (by kernel_rfl) (fun _ _ _ h => h) (Or.inl ⟨by rfl, ?_⟩) hHeld ?_
        · intro Wx hSw
          obtain ⟨t0, t1, t2, s0, s1, s2, _⟩ := hSw
          clear hHeld hS HCm HEk
          go_simp
        try simp only [Act.put, List.setIfInBounds_toArray, List.set_cons_zero, List.set_cons_succ]
        refine wpAnyH_take (i := 9) (oi := { dst := some 33, op := Op.load 167 (Operand.tmp 11), type := 167, pos := _, after := #[{ on := 2, ground := Ground.guard }], guard := some (2, false) }) (v := .agg #[.int .i64 (sn : Int), .complex .f64 sa sb, .complex .f64 sc sd]) rfl (by kernel_rfl) (by kernel_rfl) (by kernel_rfl) (fun _ _ _ h => h) (Or.inl ⟨by rfl, ?_⟩) hHeld ?_
        · intro Wx hSw
          obtain ⟨t0, t1, t2, s0, s1, s2, _⟩ := hSw
          clear hHeld hS HCm HEk
          go_simp
        try simp only [Act.put, List.setIfInBounds_toArray, List.set_cons_zero, List.set_cons_succ]
        refine wpAnyH_ready (rs := [10]) (by kernel_rfl) (by simp) ?_
        refine AllReadyH.cons (o := { dst := some 34, op := Op.call { callee := Callee.value (Operand.tmp 27), args := #[Operand.tmp 32, Operand.tmp 33], argTypes := #[167, 167] }, type := 3, pos := _, after := #[{ on := 3, ground := Ground.data }, { on := 8, ground := Ground.data }, { on := 9, ground := Ground.data }, { on := 2, ground := Ground.chain }, { on := 2, ground := Ground.guard }], guard := some (2, false) }) rfl (fun K hK => ?_) AllReadyH.nil
        go_simp
        refine (HCm.out _ hHeld.2.2.2.2.2.2.1).mono ?_
        rintro e w'' ⟨⟨r, rfl⟩, hb'⟩
        try go_wp2_with fail
        have hS2 := LyS.call (fun _ _ h hb => LyK.call h hb) hHeld hb'
        refine hK.out _ _ hS2 (fun hHeld2 => ?_)
        clear hK K hHeld hb' hS2
        have hHeld := hHeld2
        clear hHeld2
        try simp only [Act.put, List.setIfInBounds_toArray, List.set_cons_zero, List.set_cons_succ]
        by_cases hr0 : r = 0
        · subst hr0
          refine wpAnyH_take (i := 11) (oi := { dst := some 35, op := Op.binOp BinOp.neq 3 (Operand.tmp 34) (Operand.const (Value.int IntKind.i64 0)) 3, type := 4, pos := _, after := #[{ on := 10, ground := Ground.data }, { on := 2, ground := Ground.guard }], guard := some (2, false) }) (v := .bool false) rfl (by kernel_rfl) (by kernel_rfl) (by kernel_rfl) (fun _ _ _ h => h) (Or.inl ⟨by rfl, ?_⟩) hHeld ?_
          · intro Wx hSw
            obtain ⟨t0, t1, t2, s0, s1, s2, _⟩ := hSw
            clear hHeld hS HCm HEk
            go_simp
          try simp only [Act.put, List.setIfInBounds_toArray, List.set_cons_zero, List.set_cons_succ]
          refine wpAnyH_take (i := 12) (oi := { dst := some 36, op := Op.pick (Operand.tmp 26) (Operand.const (Value.bool true)) (Operand.tmp 35), type := 4, pos := _, after := #[{ on := 2, ground := Ground.data }, { on := 11, ground := Ground.data }], guard := none }) (v := .bool false) rfl (by kernel_rfl) (by kernel_rfl) (by kernel_rfl) (fun _ _ _ h => h) (Or.inl ⟨by rfl, ?_⟩) hHeld ?_
          · intro Wx hSw
            obtain ⟨t0, t1, t2, s0, s1, s2, _⟩ := hSw
            clear hHeld hS HCm HEk
            go_simp
          try simp only [Act.put, List.setIfInBounds_toArray, List.set_cons_zero, List.set_cons_succ]
          refine wpAnyH_done (by kernel_rfl) ?_ _
          refine NoPanic.normal ?_
          obtain ⟨_, _, _, _, _, _, _, HI, H11⟩ := hHeld
          clear hS
          obtain ⟨M, y, hMy⟩ := last_of hL0
          subst hMy
          obtain ⟨g1, cap1, hl⟩ := HI.out.lv
          rw [List.length_append, List.length_singleton] at hl
          subst hl
          have HN := HI
          clear HI e0 e1 e2 e3
          have hM : M.length ≤ 1000 := by simp at hLk; omega
          go_upto_region 9 with fail
          have p3 := box_of_heap (l := [_, _, _]) HN.out.b3
          have p11 := box_of_heap (l := [_, _, _]) H11.out
          have c30 := p3.c 0 _ rfl
          have c31 := p3.c 1 _ rfl
          have c32 := p3.c 2 _ rfl
          have c110 := p11.c 0 _ rfl
          clear p3 p11
          go_wp2_with fail
          refine (owner_any (.slice (some ⟨gb, 0, none⟩) E.length gcap) sn kk op _ _ _ _ rfl).mono ?_
          rintro e w3 ⟨rfl, hb3⟩
          have HJ3 := hide (HN.out.call hb3)
          clear c30 c31 c32 c110 HN H11 hb3
          by_cases hnk : (sn : Int) < (kk : Int)
          · rw [if_pos hnk]
            have p8 := box_of_heap (l := [_, _]) HJ3.out.b8
            have k0 := p8.c 0 _ rfl
            have kf := p8.f 0 (by simp)
            have HJ4 := hide (HJ3.out.more0)
            clear p8 HJ3
            go_upto_region 10 with fail
            clear k0 kf
            generalize w3.setCell ⟨P8, 0, none⟩ (.int .i64 ((b0 : Int) + 1)) = W5 at *
            have p3 := box_of_heap (l := [_, _, _]) HJ4.out.b3
            have p8 := box_of_heap (l := [_, _]) HJ4.out.b8
            have c30 := p3.c 0 _ rfl
            have c31 := p3.c 1 _ rfl
            have c32 := p3.c 2 _ rfl
            have c80 := p8.c 0 _ rfl
            have c81 := p8.c 1 _ rfl
            clear p3 p8
            go_wp2_with fail
            refine (keeps_any (.slice (some ⟨gb, 0, none⟩) E.length gcap) kk op (b0 + 1) b1 _ _ _ _ rfl (by omega) (by omega)).mono ?_
            rintro e w6 ⟨rfl, hb6⟩
            generalize Acre.keepsB op (b0 + 1) b1 = ins at *
            have HJ6 := hide (HJ4.out.call hb6)
            have l5 := HJ6.out.cell5
            have f5 := HJ6.out.froz5
            have HN := hide (HJ6.out.mark ins)
            clear HJ4 HJ6 hb6 c30 c31 c32 c80 c81
            go_wp2
            go_roundw
            case rel => exact ⟨(j + 1) + 1, by go_num, by omega, _, (b0 + 1), b1, by simp only [List.length_append, List.length_cons, List.length_nil] at *; omega, fun _ => by simp, by omega, by omega, HN.out⟩
            case measure => simp [intOf]; omega
          · rw [if_neg hnk]
            have p8 := box_of_heap (l := [_, _]) HJ3.out.b8
            have k0 := p8.c 1 _ rfl
            have kf := p8.f 1 (by simp)
            have HJ4 := hide (HJ3.out.more1)
            clear p8 HJ3
            go_upto_region 10 with fail
            clear k0 kf
            generalize w3.setCell ⟨P8, 1, none⟩ (.int .i64 ((b1 : Int) + 1)) = W5 at *
            have p3 := box_of_heap (l := [_, _, _]) HJ4.out.b3
            have p8 := box_of_heap (l := [_, _]) HJ4.out.b8
            have c30 := p3.c 0 _ rfl
            have c31 := p3.c 1 _ rfl
            have c32 := p3.c 2 _ rfl
            have c80 := p8.c 0 _ rfl
            have c81 := p8.c 1 _ rfl
            clear p3 p8
            go_wp2_with fail
            refine (keeps_any (.slice (some ⟨gb, 0, none⟩) E.length gcap) kk op b0 (b1 + 1) _ _ _ _ rfl (by omega) (by omega)).mono ?_
            rintro e w6 ⟨rfl, hb6⟩
            generalize Acre.keepsB op b0 (b1 + 1) = ins at *
            have HJ6 := hide (HJ4.out.call hb6)
            have l5 := HJ6.out.cell5
            have f5 := HJ6.out.froz5
            have HN := hide (HJ6.out.mark ins)
            clear HJ4 HJ6 hb6 c30 c31 c32 c80 c81
            go_wp2
            go_roundw
            case rel => exact ⟨(j + 1) + 1, by go_num, by omega, _, b0, (b1 + 1), by simp only [List.length_append, List.length_cons, List.length_nil] at *; omega, fun _ => by simp, by omega, by omega, HN.out⟩
            case measure => simp [intOf]; omega
        · have hr1 : decide (r = 0) = false := decide_eq_false hr0
          refine wpAnyH_take (i := 11) (oi := { dst := some 35, op := Op.binOp BinOp.neq 3 (Operand.tmp 34) (Operand.const (Value.int IntKind.i64 0)) 3, type := 4, pos := _, after := #[{ on := 10, ground := Ground.data }, { on := 2, ground := Ground.guard }], guard := some (2, false) }) (v := .bool true) rfl (by kernel_rfl) (by kernel_rfl) (by kernel_rfl) (fun _ _ _ h => h) (Or.inl ⟨by rfl, ?_⟩) hHeld ?_
          · intro Wx hSw
            obtain ⟨t0, t1, t2, s0, s1, s2, _⟩ := hSw
            clear hHeld hS HCm HEk
            go_simp
          try simp only [Act.put, List.setIfInBounds_toArray, List.set_cons_zero, List.set_cons_succ]
          refine wpAnyH_take (i := 12) (oi := { dst := some 36, op := Op.pick (Operand.tmp 26) (Operand.const (Value.bool true)) (Operand.tmp 35), type := 4, pos := _, after := #[{ on := 2, ground := Ground.data }, { on := 11, ground := Ground.data }], guard := none }) (v := .bool true) rfl (by kernel_rfl) (by kernel_rfl) (by kernel_rfl) (fun _ _ _ h => h) (Or.inl ⟨by rfl, ?_⟩) hHeld ?_
          · intro Wx hSw
            obtain ⟨t0, t1, t2, s0, s1, s2, _⟩ := hSw
            clear hHeld hS HCm HEk
            go_simp
          try simp only [Act.put, List.setIfInBounds_toArray, List.set_cons_zero, List.set_cons_succ]
          refine wpAnyH_done (by kernel_rfl) ?_ _
          refine NoPanic.normal ?_
          obtain ⟨_, _, _, _, _, _, _, HI, H11⟩ := hHeld
          clear hS
          obtain ⟨i0, hi, hz0, hz1, hz2⟩ := info_parts info163
          obtain ⟨g1, cap1, hl⟩ := HI.out.lv
          subst hl
          have p3 := box_of_heap (l := [_, _, _]) HI.out.b3
          have p11 := box_of_heap (l := [_, _, _]) H11.out
          have c30 := p3.c 0 _ rfl
          have c110 := p11.c 0 _ rfl
          have hbs := HI.out.bel.size
          have o1 := HI.out.row
          have w0' := cell_later HI.out.bel e0
          have w1' := cell_later HI.out.bel e1
          have w2' := cell_later HI.out.bel e2
          have w3' := cell_later HI.out.bel e3
          clear p3 p11
          go_upto_region 9 with (first
            | (at_builtin; refine wpList_append_own_at _ rfl _ _ 100 rfl W.heap.size 163 i0 _ 6 40 Tryz.underlying100 hi hz0 hz1 hz2 rfl (by decide) _ _ _ rfl (o1.alloc _) ⟨w''.heap.size, 0, none⟩ 1 1 (layV (((q0, q1), (q2, q3)), false, false)) rfl rfl (World.news_of_block (cs := #[.int .i64 q0, .int .i64 q1, .int .i64 q2, .int .i64 q3, .bool false, .bool false]) (t := 163) (fr := (0, 0)) (heap_alloc_new w'' _)) (by simp [layV, Value.oneCell']) (by unfold maxLen; omega) (by omega) (by simp [layV]; omega) ?_; intro v' wc hown' hgrow hnil hloc; obtain ⟨g', cap', rfl⟩ := row_succ hown')
            | go_in)
          have HN := hide (HI.out.push _ hown' hgrow ⟨_, _, rfl⟩ HEk.out)
          have H11' := hide (HI.out.keep11 hgrow H11.out)
          clear H11
          have H11 := H11'
          clear H11' hown' hgrow hnil hloc o1 HI c30 c110 w0' w1' w2' w3' e0 e1 e2 e3
          have p3 := box_of_heap (l := [_, _, _]) HN.out.b3
          have p11 := box_of_heap (l := [_, _, _]) H11.out
          have c30 := p3.c 0 _ rfl
          have c31 := p3.c 1 _ rfl
          have c32 := p3.c 2 _ rfl
          have c110 := p11.c 0 _ rfl
          clear p3 p11
          go_wp2_with fail
          refine (owner_any (.slice (some ⟨gb, 0, none⟩) E.length gcap) sn kk op _ _ _ _ rfl).mono ?_
          rintro e w3 ⟨rfl, hb3⟩
          have HJ3 := hide (HN.out.call hb3)
          clear c30 c31 c32 c110 HN H11 hb3
          by_cases hnk : (sn : Int) < (kk : Int)
          · rw [if_pos hnk]
            have p8 := box_of_heap (l := [_, _]) HJ3.out.b8
            have k0 := p8.c 0 _ rfl
            have kf := p8.f 0 (by simp)
            have HJ4 := hide (HJ3.out.more0)
            clear p8 HJ3
            go_upto_region 10 with fail
            clear k0 kf
            generalize w3.setCell ⟨P8, 0, none⟩ (.int .i64 ((b0 : Int) + 1)) = W5 at *
            have p3 := box_of_heap (l := [_, _, _]) HJ4.out.b3
            have p8 := box_of_heap (l := [_, _]) HJ4.out.b8
            have c30 := p3.c 0 _ rfl
            have c31 := p3.c 1 _ rfl
            have c32 := p3.c 2 _ rfl
            have c80 := p8.c 0 _ rfl
            have c81 := p8.c 1 _ rfl
            clear p3 p8
            go_wp2_with fail
            refine (keeps_any (.slice (some ⟨gb, 0, none⟩) E.length gcap) kk op (b0 + 1) b1 _ _ _ _ rfl (by omega) (by omega)).mono ?_
            rintro e w6 ⟨rfl, hb6⟩
            generalize Acre.keepsB op (b0 + 1) b1 = ins at *
            have HJ6 := hide (HJ4.out.call hb6)
            have l5 := HJ6.out.cell5
            have f5 := HJ6.out.froz5
            have HN := hide (HJ6.out.mark ins)
            clear HJ4 HJ6 hb6 c30 c31 c32 c80 c81
            go_wp2
            go_roundw
            case rel => exact ⟨(j + 1) + 1, by go_num, by omega, _, (b0 + 1), b1, by simp only [List.length_append, List.length_cons, List.length_nil] at *; omega, fun _ => by simp, by omega, by omega, HN.out⟩
            case measure => simp [intOf]; omega
          · rw [if_neg hnk]
            have p8 := box_of_heap (l := [_, _]) HJ3.out.b8
            have k0 := p8.c 1 _ rfl
            have kf := p8.f 1 (by simp)
            have HJ4 := hide (HJ3.out.more1)
            clear p8 HJ3
            go_upto_region 10 with fail
            clear k0 kf
            generalize w3.setCell ⟨P8, 1, none⟩ (.int .i64 ((b1 : Int) + 1)) = W5 at *
            have p3 := box_of_heap (l := [_, _, _]) HJ4.out.b3
            have p8 := box_of_heap (l := [_, _]) HJ4.out.b8
            have c30 := p3.c 0 _ rfl
            have c31 := p3.c 1 _ rfl
            have c32 := p3.c 2 _ rfl
            have c80 := p8.c 0 _ rfl
            have c81 := p8.c 1 _ rfl
            clear p3 p8
            go_wp2_with fail
            refine (keeps_any (.slice (some ⟨gb, 0, none⟩) E.length gcap) kk op b0 (b1 + 1) _ _ _ _ rfl (by omega) (by omega)).mono ?_
            rintro e w6 ⟨rfl, hb6⟩
            generalize Acre.keepsB op b0 (b1 + 1) = ins at *
            have HJ6 := hide (HJ4.out.call hb6)
            have l5 := HJ6.out.cell5
            have f5 := HJ6.out.froz5
            have HN := hide (HJ6.out.mark ins)
            clear HJ4 HJ6 hb6 c30 c31 c32 c80 c81
            go_wp2
            go_roundw
            case rel => exact ⟨(j + 1) + 1, by go_num, by omega, _, b0, (b1 + 1), by simp only [List.length_append, List.length_cons, List.length_nil] at *; omega, fun _ => by simp, by omega, by omega, HN.out⟩
            case measure => simp [intOf]; omega
    · obtain rfl : k = n := by omega
      have HR := hide hr.out
      clear hr hE h hok
      go_wp2
      go_ret
      exact ⟨_, L, rfl, HR.out.row, hLk, HR.out.ed, HR.out.bel⟩
end Go.Proofs.YtkjlkbgdkdcboaaGreatDoor
