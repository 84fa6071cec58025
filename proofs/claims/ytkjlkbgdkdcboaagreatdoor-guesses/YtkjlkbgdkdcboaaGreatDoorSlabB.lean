import Derived.Test.YtkjlkbgdkdcboaaGreatDoorGyA

set_option linter.unusedSimpArgs false
set_option linter.unusedVariables false

set_option linter.unusedSimpArgs false
set_option linter.unusedVariables false
namespace Go.Proofs.YtkjlkbgdkdcboaaGreatDoor
open Go.RowKit Go.Maps
attribute [local go_sem ↓] Go.wp_at_zero Go.wp_at_succ
structure Kept (W0 wr : World) (x : List Nat) : Prop where
  siz : W0.heap.size ≤ wr.heap.size
  same : ∀ k, k < W0.heap.size → k ∉ x → wr.heap[k]? = W0.heap[k]?
theorem Kept.refl (W : World) (x : List Nat) : Kept W W x := ⟨Nat.le_refl _, fun _ _ _ => rfl⟩
theorem Kept.call {W0 wr w' : World} {x : List Nat} (h : Kept W0 wr x) (hb : Below wr.heap.size wr w') : Kept W0 w' x :=
  ⟨Nat.le_trans h.siz hb.size, fun k hk hx => (hb.block k (Nat.lt_of_lt_of_le hk h.siz)).trans (h.same k hk hx)⟩
theorem Kept.grown {W0 wr w' : World} {x : List Nat} {r : Option Nat} (h : Kept W0 wr x) (hg : wr.grownBy w' r) (hr : ∀ c, r = some c → c ∈ x ∨ W0.heap.size ≤ c) : Kept W0 w' x :=
  ⟨Nat.le_trans h.siz hg.size, fun k hk hx => (hg.block k (Nat.lt_of_lt_of_le hk h.siz) (fun e => by
    rcases hr k e.symm with h | h
    · exact hx h
    · omega)).trans (h.same k hk hx)⟩
theorem Kept.set {W0 wr : World} {x : List Nat} (h : Kept W0 wr x) (a : Addr) (v : Value) (hr : a.block ∈ x ∨ W0.heap.size ≤ a.block) : Kept W0 (wr.setCell a v) x :=
  ⟨by simpa using h.siz, fun k hk hx => (Below.heap_setCell _ _ _ k (fun e => by
    rcases hr with h | h
    · exact hx (e ▸ h)
    · omega)).trans (h.same k hk hx)⟩
theorem Box.kp {W0 wr : World} {x : List Nat} {n : Nat} {l : List Value} (h : Box W0 n l) (hl : 0 < l.length) (k : Kept W0 wr x) (hn : n ∉ x) : Box wr n l := h.block (k.same n (h.lt hl) hn)
theorem row_kp {W0 wr : World} {x : List Nat} {base : Nat} {e : TypeId} {size : Nat} {v : Value} {n : Nat} {xs : List Value} (h : W0.ownsRow base e size v n xs) (k : Kept W0 wr x) (hn : ∀ c, base ≤ c → c < W0.heap.size → c ∉ x) : wr.ownsRow base e size v n xs := by
  refine ⟨h.1, ?_⟩
  rcases h.2 with h' | ⟨g, cap, cur, h1, h2, h3, h4⟩
  · exact .inl h'
  · have hg := (Array.getElem?_eq_some_iff.1 h3).1
    exact .inr ⟨g, cap, cur, h1, h2, (k.same g hg (hn g h2 hg)).trans h3, h4⟩
theorem Box.alloc {w : World} {n : Nat} {l : List Value} (h : Box w n l) (hl : 0 < l.length) (o : Obj) : Box (w.alloc o) n l := h.later hl (below1 _ _)
theorem below6 (w : World) (a b c d e f : Obj) : Below w.heap.size w ((((((w.alloc a).alloc b).alloc c).alloc d).alloc e).alloc f) :=
  below_call (below1 _ _) (below_call (below1 _ _) (below4 w a b c d))
structure SlabV (base : Nat) (w : World) (E : List Acre.Ed) (kk : Nat) (op : Int) (f t : Acre.Fc) (lv : Value) (rb : Nat) : Prop where
  row : w.ownsRow base 163 6 lv (layersP E kk op f t).length (flatL (layersP E kk op f t))
  lo : base ≤ rb
  mv : ∃ m D, MV w 42 keE WfE rb m D (rankTo E (Acre.mdn f t) (Acre.hts E (Acre.mdn f t)).length)
theorem SlabV.later {base : Nat} {w w' : World} {E : List Acre.Ed} {kk : Nat} {op : Int} {f t : Acre.Fc} {lv : Value} {rb : Nat} (h : SlabV base w E kk op f t lv rb) (hb : Below w.heap.size w w') : SlabV base w' E kk op f t lv rb := by
  obtain ⟨m, D, hD⟩ := h.mv
  exact ⟨row_call h.row hb, h.lo, m, D, hD.later hb⟩
structure SbI (w W0 wr : World) (R4 R5 C : Nat) (f t : Acre.Fc) (lv : Value) (b0 b1 : Nat) (m : Nat) (rm : Acre.Ed → Option Value) (L : List (Acre.Ed × Bool × Bool)) : Prop where
  kept : Kept W0 wr [R4, R5, C]
  bel : Below w.heap.size w wr
  sb : Box wr R5 [.int .i64 f.1, .int .i64 f.2, .int .i64 t.1, .int .i64 t.2, lv, .map (some R4)]
  bb : Box wr C [.int .i64 b0, .int .i64 b1]
  rk : ∃ D, MV wr 42 keE WfE R4 m D rm
  lay : wr.ownsRow W0.heap.size 163 6 lv L.length (flatL L)
theorem SbI.call {w W0 wr w' : World} {R4 R5 C : Nat} {f t : Acre.Fc} {lv : Value} {b0 b1 m : Nat} {rm : Acre.Ed → Option Value} {L : List (Acre.Ed × Bool × Bool)} (h : SbI w W0 wr R4 R5 C f t lv b0 b1 m rm L) (hb : Below wr.heap.size wr w') : SbI w W0 w' R4 R5 C f t lv b0 b1 m rm L := by
  obtain ⟨D, hD⟩ := h.rk
  exact ⟨h.kept.call hb, below_call hb h.bel, h.sb.later (by simp) hb, h.bb.later (by simp) hb, ⟨D, hD.later hb⟩, row_call h.lay hb⟩
theorem row_kp' {W0 wr : World} {x : List Nat} {base : Nat} {e : TypeId} {size : Nat} {v : Value} {n : Nat} {xs : List Value} (h : W0.ownsRow base e size v n xs) (k : Kept W0 wr x) (hn : ∀ c, v.ownBlock = some c → c ∉ x) : wr.ownsRow base e size v n xs := by
  refine ⟨h.1, ?_⟩
  rcases h.2 with h' | ⟨g, cap, cur, h1, h2, h3, h4⟩
  · exact .inl h'
  · have hg := (Array.getElem?_eq_some_iff.1 h3).1
    exact .inr ⟨g, cap, cur, h1, h2, (k.same g hg (hn g (by rw [h1]; rfl))).trans h3, h4⟩
section
variable {w W0 wr w' : World} {R4 R5 C : Nat} {f t : Acre.Fc} {lv : Value} {b0 b1 m : Nat} {rm : Acre.Ed → Option Value} {L : List (Acre.Ed × Bool × Bool)}
theorem SbI.set (h : SbI w W0 wr R4 R5 C f t lv b0 b1 m rm L) (a : Addr) (v : Value) (h1 : W0.heap.size ≤ a.block) (h2 : lv.ownBlock ≠ some a.block) (hR : R4 < W0.heap.size ∧ R5 < W0.heap.size ∧ C < W0.heap.size) (hw : w.heap.size ≤ W0.heap.size) : SbI w W0 (wr.setCell a v) R4 R5 C f t lv b0 b1 m rm L := by
  obtain ⟨D, hD⟩ := h.rk
  have hb : ∀ k, k < W0.heap.size → (wr.setCell a v).heap[k]? = wr.heap[k]? := fun k hk => Below.heap_setCell _ _ _ k (by omega)
  exact ⟨h.kept.set a v (.inr h1), h.bel.setCell (by omega) _, h.sb.block (hb _ hR.2.1), h.bb.block (hb _ hR.2.2), ⟨D, hD.same (hb _ hR.1)⟩, ownsRow_setCell_other h.lay h2 _⟩
theorem SbI.rank (h : SbI w W0 wr R4 R5 C f t lv b0 b1 m rm L) {rm' : Acre.Ed → Option Value} {D' : DataW Value} {m' : Nat} (hD : MV w' 42 keE WfE R4 m' D' rm') (hg : wr.grownBy w' (some R4)) (hR : R4 ≠ R5 ∧ R4 ≠ C ∧ R4 < W0.heap.size ∧ w.heap.size ≤ R4) : SbI w W0 w' R4 R5 C f t lv b0 b1 m' rm' L :=
  ⟨h.kept.grown hg (fun c hc => by cases hc; simp), h.bel.grown hg h.bel.size (fun c hc => by cases hc; exact hR.2.2.2), h.sb.kept (by simp) hg (by simp; exact hR.1), h.bb.kept (by simp) hg (by simp; exact hR.2.1), ⟨D', hD⟩, h.lay.kept hg (.inr (fun e => by have := (h.lay.lt _ e).1; omega))⟩
theorem SbI.more0 (h : SbI w W0 wr R4 R5 C f t lv b0 b1 m rm L) (hR : R4 ≠ C ∧ R5 ≠ C ∧ C < W0.heap.size ∧ w.heap.size ≤ C) : SbI w W0 (wr.setCell ⟨C, 0, none⟩ (.int .i64 ((b0 : Int) + 1))) R4 R5 C f t lv (b0 + 1) b1 m rm L := by
  obtain ⟨D, hD⟩ := h.rk
  have hb : ∀ k, k ≠ C → (wr.setCell ⟨C, 0, none⟩ (.int .i64 ((b0 : Int) + 1))).heap[k]? = wr.heap[k]? := fun k hk => Below.heap_setCell _ _ _ k hk
  refine ⟨h.kept.set _ _ (.inl (by simp)), h.bel.setCell hR.2.2.2 _, h.sb.block (hb _ hR.2.1), ?_, ⟨D, hD.same (hb _ hR.1)⟩, ownsRow_setCell_below h.lay (a := ⟨C, 0, none⟩) hR.2.2.1 _⟩
  have c0 := h.bb.c 0 _ rfl
  have c1 := h.bb.c 1 _ rfl
  have f0 := h.bb.f 0 (by simp)
  have f1 := h.bb.f 1 (by simp)
  refine ⟨fun k v hk => ?_, fun k hk => ?_⟩
  · match k, hk with
    | 0, hk => simp at hk; subst hk; simp [go_sem, c0]
    | 1, hk => simp at hk; subst hk; simp [go_sem, c1]
  · match k, hk with
    | 0, _ => simp [go_sem, f0]
    | 1, _ => simp [go_sem, f1]
theorem SbI.more1 (h : SbI w W0 wr R4 R5 C f t lv b0 b1 m rm L) (hR : R4 ≠ C ∧ R5 ≠ C ∧ C < W0.heap.size ∧ w.heap.size ≤ C) : SbI w W0 (wr.setCell ⟨C, 1, none⟩ (.int .i64 ((b1 : Int) + 1))) R4 R5 C f t lv b0 (b1 + 1) m rm L := by
  obtain ⟨D, hD⟩ := h.rk
  have hb : ∀ k, k ≠ C → (wr.setCell ⟨C, 1, none⟩ (.int .i64 ((b1 : Int) + 1))).heap[k]? = wr.heap[k]? := fun k hk => Below.heap_setCell _ _ _ k hk
  refine ⟨h.kept.set _ _ (.inl (by simp)), h.bel.setCell hR.2.2.2 _, h.sb.block (hb _ hR.2.1), ?_, ⟨D, hD.same (hb _ hR.1)⟩, ownsRow_setCell_below h.lay (a := ⟨C, 1, none⟩) hR.2.2.1 _⟩
  have c0 := h.bb.c 0 _ rfl
  have c1 := h.bb.c 1 _ rfl
  have f0 := h.bb.f 0 (by simp)
  have f1 := h.bb.f 1 (by simp)
  refine ⟨fun k v hk => ?_, fun k hk => ?_⟩
  · match k, hk with
    | 0, hk => simp at hk; subst hk; simp [go_sem, c0]
    | 1, hk => simp at hk; subst hk; simp [go_sem, c1]
  · match k, hk with
    | 0, _ => simp [go_sem, f0]
    | 1, _ => simp [go_sem, f1]
end
theorem SbI.app {w W0 W2 w4 : World} {R4 R5 C : Nat} {f t : Acre.Fc} {lv v' : Value} {b0 b1 m : Nat} {rm : Acre.Ed → Option Value} {L : List (Acre.Ed × Bool × Bool)} {tmp : Obj} (h : SbI w W0 W2 R4 R5 C f t lv b0 b1 m rm L) (l : Acre.Ed × Bool × Bool) (hown : w4.ownsRow W0.heap.size 163 6 v' (L.length + 1) (flatL L ++ layV l)) (hg : (W2.alloc tmp).grownBy w4 lv.ownBlock)
    (hR : R4 < W0.heap.size ∧ R5 < W0.heap.size ∧ C < W0.heap.size ∧ R4 ≠ R5 ∧ C ≠ R5 ∧ w.heap.size ≤ R5) (hw : w.heap.size ≤ W0.heap.size) : SbI w W0 (w4.setCell ⟨R5, 4, none⟩ v') R4 R5 C f t v' b0 b1 m rm (L ++ [l]) := by
  have ha := h.call (below1 W2 tmp)
  obtain ⟨D, hD⟩ := ha.rk
  have hlo : ∀ c, lv.ownBlock = some c → W0.heap.size ≤ c := fun c e => (h.lay.lt c e).1
  have nR : ∀ c, c < W0.heap.size → lv.ownBlock ≠ some c := fun c hc e => by have := hlo c e; omega
  have hb : ∀ k, k ≠ R5 → (w4.setCell ⟨R5, 4, none⟩ v').heap[k]? = w4.heap[k]? := fun k hk => Below.heap_setCell _ _ _ k hk
  have sb := ha.sb.kept (by simp) hg (nR _ hR.2.1)
  refine ⟨(ha.kept.grown hg (fun c e => .inr (hlo c e))).set _ _ (.inl (by simp)), (ha.bel.grown hg ha.bel.size (fun c e => Nat.le_trans hw (hlo c e))).setCell hR.2.2.2.2.2 _, ?_, (ha.bb.kept (by simp) hg (nR _ hR.2.2.1)).block (hb _ hR.2.2.2.2.1), ⟨D, (hD.grown hg (nR _ hR.1)).same (hb _ hR.2.2.2.1)⟩, ?_⟩
  · have c0 := sb.c 0 _ rfl
    have c1 := sb.c 1 _ rfl
    have c2 := sb.c 2 _ rfl
    have c3 := sb.c 3 _ rfl
    have c4 := sb.c 4 _ rfl
    have c5 := sb.c 5 _ rfl
    have f0 := sb.f 0 (by simp)
    have f1 := sb.f 1 (by simp)
    have f2 := sb.f 2 (by simp)
    have f3 := sb.f 3 (by simp)
    have f4 := sb.f 4 (by simp)
    have f5 := sb.f 5 (by simp)
    refine ⟨fun k v hk => ?_, fun k hk => ?_⟩
    · match k, hk with
      | 0, hk => simp at hk; subst hk; simp [go_sem, c0]
      | 1, hk => simp at hk; subst hk; simp [go_sem, c1]
      | 2, hk => simp at hk; subst hk; simp [go_sem, c2]
      | 3, hk => simp at hk; subst hk; simp [go_sem, c3]
      | 4, hk => simp at hk; subst hk; simp [go_sem, c4]
      | 5, hk => simp at hk; subst hk; simp [go_sem, c5]
    · match k, hk with
      | 0, _ => simp [go_sem, f0]
      | 1, _ => simp [go_sem, f1]
      | 2, _ => simp [go_sem, f2]
      | 3, _ => simp [go_sem, f3]
      | 4, _ => simp [go_sem, f4]
      | 5, _ => simp [go_sem, f5]
  · have : flatL (L ++ [l]) = flatL L ++ layV l := by simp [flatL]
    rw [this, List.length_append]
    exact ownsRow_setCell_below hown (a := ⟨R5, 4, none⟩) hR.2.1 _
theorem box_set5 (w : World) (n : Nat) (a b c d e g g' : Value) (h : Box w n [a, b, c, d, e, g]) : Box (w.setCell ⟨n, 5, none⟩ g') n [a, b, c, d, e, g'] := by
  have c0 := h.c 0 _ rfl
  have c1 := h.c 1 _ rfl
  have c2 := h.c 2 _ rfl
  have c3 := h.c 3 _ rfl
  have c4 := h.c 4 _ rfl
  have c5 := h.c 5 _ rfl
  have f0 := h.f 0 (by simp)
  have f1 := h.f 1 (by simp)
  have f2 := h.f 2 (by simp)
  have f3 := h.f 3 (by simp)
  have f4 := h.f 4 (by simp)
  have f5 := h.f 5 (by simp)
  refine ⟨fun k v hk => ?_, fun k hk => ?_⟩
  · match k, hk with
    | 0, hk => simp at hk; subst hk; simp [go_sem, c0]
    | 1, hk => simp at hk; subst hk; simp [go_sem, c1]
    | 2, hk => simp at hk; subst hk; simp [go_sem, c2]
    | 3, hk => simp at hk; subst hk; simp [go_sem, c3]
    | 4, hk => simp at hk; subst hk; simp [go_sem, c4]
    | 5, hk => simp at hk; subst hk; simp [go_sem, c5]
  · match k, hk with
    | 0, _ => simp [go_sem, f0]
    | 1, _ => simp [go_sem, f1]
    | 2, _ => simp [go_sem, f2]
    | 3, _ => simp [go_sem, f3]
    | 4, _ => simp [go_sem, f4]
    | 5, _ => simp [go_sem, f5]
theorem heap_six (w : World) (n : Nat) (a b c d e g : Value) {k : Nat} (hk : k ≠ n) : ((((((w.setCell ⟨n, 0, none⟩ a).setCell ⟨n, 0 + 1, none⟩ b).setCell ⟨n, 0 + 1 + 1, none⟩ c).setCell ⟨n, 0 + 1 + 1 + 1, none⟩ d).setCell ⟨n, 0 + 1 + 1 + 1 + 1, none⟩ e).setCell ⟨n, 0 + 1 + 1 + 1 + 1 + 1, none⟩ g).heap[k]? = w.heap[k]? :=
  (Below.heap_setCell _ _ _ k hk).trans ((Below.heap_setCell _ _ _ k hk).trans ((Below.heap_setCell _ _ _ k hk).trans ((Below.heap_setCell _ _ _ k hk).trans ((Below.heap_setCell _ _ _ k hk).trans (Below.heap_setCell _ _ _ k hk)))))
theorem row_six {w : World} {n base size m : Nat} {t : TypeId} {v : Value} {xs : List Value} (h : w.ownsRow base t size v m xs) (hn : n < base) (a b c d e g : Value) : ((((((w.setCell ⟨n, 0, none⟩ a).setCell ⟨n, 0 + 1, none⟩ b).setCell ⟨n, 0 + 1 + 1, none⟩ c).setCell ⟨n, 0 + 1 + 1 + 1, none⟩ d).setCell ⟨n, 0 + 1 + 1 + 1 + 1, none⟩ e).setCell ⟨n, 0 + 1 + 1 + 1 + 1 + 1, none⟩ g).ownsRow base t size v m xs :=
  ownsRow_setCell_below (ownsRow_setCell_below (ownsRow_setCell_below (ownsRow_setCell_below (ownsRow_setCell_below (ownsRow_setCell_below h (a := ⟨n, 0, none⟩) hn _) (a := ⟨n, 0 + 1, none⟩) hn _) (a := ⟨n, 0 + 1 + 1, none⟩) hn _) (a := ⟨n, 0 + 1 + 1 + 1, none⟩) hn _) (a := ⟨n, 0 + 1 + 1 + 1 + 1, none⟩) hn _) (a := ⟨n, 0 + 1 + 1 + 1 + 1 + 1, none⟩) hn _
theorem below_six {w0 w : World} {m n : Nat} (h : Below m w0 w) (hn : m ≤ n) (a b c d e g : Value) : Below m w0 ((((((w.setCell ⟨n, 0, none⟩ a).setCell ⟨n, 0 + 1, none⟩ b).setCell ⟨n, 0 + 1 + 1, none⟩ c).setCell ⟨n, 0 + 1 + 1 + 1, none⟩ d).setCell ⟨n, 0 + 1 + 1 + 1 + 1, none⟩ e).setCell ⟨n, 0 + 1 + 1 + 1 + 1 + 1, none⟩ g) :=
  (((((h.setCell (p := ⟨n, 0, none⟩) hn _).setCell (p := ⟨n, 0 + 1, none⟩) hn _).setCell (p := ⟨n, 0 + 1 + 1, none⟩) hn _).setCell (p := ⟨n, 0 + 1 + 1 + 1, none⟩) hn _).setCell (p := ⟨n, 0 + 1 + 1 + 1 + 1, none⟩) hn _).setCell (p := ⟨n, 0 + 1 + 1 + 1 + 1 + 1, none⟩) hn _
theorem box_lay (w : World) (n : Nat) (a b c d e g a' b' c' d' e' : Value) (h : Box w n [a, b, c, d, e, g]) : Box (((((w.setCell ⟨n, 0, none⟩ a').setCell ⟨n, 0 + 1, none⟩ b').setCell ⟨n, 0 + 1 + 1, none⟩ c').setCell ⟨n, 0 + 1 + 1 + 1, none⟩ d').setCell ⟨n, 4, none⟩ e') n [a', b', c', d', e', g] := by
  have c0 := h.c 0 _ rfl
  have c1 := h.c 1 _ rfl
  have c2 := h.c 2 _ rfl
  have c3 := h.c 3 _ rfl
  have c4 := h.c 4 _ rfl
  have c5 := h.c 5 _ rfl
  have f0 := h.f 0 (by simp)
  have f1 := h.f 1 (by simp)
  have f2 := h.f 2 (by simp)
  have f3 := h.f 3 (by simp)
  have f4 := h.f 4 (by simp)
  have f5 := h.f 5 (by simp)
  refine ⟨fun k v hk => ?_, fun k hk => ?_⟩
  · match k, hk with
    | 0, hk => simp at hk; subst hk; simp [go_sem, c0]
    | 1, hk => simp at hk; subst hk; simp [go_sem, c1]
    | 2, hk => simp at hk; subst hk; simp [go_sem, c2]
    | 3, hk => simp at hk; subst hk; simp [go_sem, c3]
    | 4, hk => simp at hk; subst hk; simp [go_sem, c4]
    | 5, hk => simp at hk; subst hk; simp [go_sem, c5]
  · match k, hk with
    | 0, _ => simp [go_sem, f0]
    | 1, _ => simp [go_sem, f1]
    | 2, _ => simp [go_sem, f2]
    | 3, _ => simp [go_sem, f3]
    | 4, _ => simp [go_sem, f4]
    | 5, _ => simp [go_sem, f5]
theorem cntB_le (E : List Acre.Ed) (kk : Nat) (f t : Acre.Fc) (A : List Acre.Fc) (o : Bool) (hE : E.length ≤ 24) : Acre.cntB E kk f t A o ≤ A.length * 24 := by
  unfold Acre.cntB
  refine Nat.le_trans List.countP_le_length ?_
  induction A with
  | nil => simp
  | cons a r ih =>
    rw [List.flatMap_cons, List.length_append, List.length_cons]
    have : (Acre.spAt E f t a).length ≤ 24 := by
      rw [Acre.spAt_eq]
      have := List.length_filter_le (fun n => (!Acre.upr (Acre.gd E n) && Acre.spn (Acre.gd E n) f t) && Acre.hgt (Acre.gd E n) (Acre.mdn f t) == a) (List.range E.length)
      rw [List.length_range] at this
      omega
    omega
theorem edgeAt_first (E : List Acre.Ed) (f t h : Acre.Fc) : Acre.edgeAt E f t h = firstE E (Acre.spAt E f t h) := by
  unfold Acre.edgeAt firstE
  cases Acre.spAt E f t h <;> rfl
theorem hts_has {E : List Acre.Ed} {x : Acre.Fc} {w : World} {nb n base : Nat} {D : DataW Value} {S : Acre.Fc → Option Value} (gv : GV w 38 kf WfF nb n base 3 1 natL D S (numsTo E x E.length)) (h : Acre.Fc) (hh : WfF h) : Maps.has D (kf h) = true ↔ h ∈ (E.filter (fun e => !Acre.upr e)).map (fun e => Acre.hgt e x) := by
  rw [gv.mv.has h hh]
  have key : h ∈ (E.filter (fun e => !Acre.upr e)).map (fun e => Acre.hgt e x) ↔ numsTo E x E.length h ≠ [] := by
    constructor
    · intro hm
      obtain ⟨e, he, rfl⟩ := List.mem_map.1 hm
      rw [List.mem_filter] at he
      obtain ⟨i, hi, rfl⟩ := Acre.mem_gd he.1
      have : i ∈ numsTo E x E.length (Acre.hgt (Acre.gd E i) x) := by
        unfold numsTo
        rw [List.mem_filter]
        exact ⟨List.mem_range.2 hi, by simp at he; simp [he.2]⟩
      intro e; rw [e] at this; simp at this
    · intro hn
      obtain ⟨i, hi⟩ := List.exists_mem_of_ne_nil _ hn
      unfold numsTo at hi
      rw [List.mem_filter, List.mem_range] at hi
      simp at hi
      refine List.mem_map.2 ⟨Acre.gd E i, List.mem_filter.2 ⟨Acre.gd_mem hi.1, by simp [hi.2.1]⟩, hi.2.2⟩
  rw [key]
  cases hs : S h with
  | none => simp [gv.nil h hs]
  | some v => simp [(gv.row h v hs).2]
set_option maxRecDepth 100000 in
set_option maxHeartbeats 4000000 in
theorem slabBetween_any (E : List Acre.Ed) (u : Value) (base : Nat) (kk : Nat) (op : Int) (f t : Acre.Fc) (w : World) (hE : w.ownsRow base 42 4 u E.length (flatE E))
    (hsm : ∀ e ∈ E, SmE e) (hEl : E.length ≤ 24) (hkk : kk ≤ 24) (hf : CutOk f) (ht : CutOk t) :
    Calls Tryz.prog 59 #[.agg #[u, .int .i64 kk, .int .i64 op], frV f, frV t] w fun e w' => ∃ lv rb, e = .returned (.agg #[.int .i64 f.1, .int .i64 f.2, .int .i64 t.1, .int .i64 t.2, lv, .map (some rb)]) ∧ SlabV w.heap.size w' E kk op f t lv rb ∧ Below w.heap.size w w' := by
  have hmm := @run_makeMap Tryz.prog
  obtain ⟨i0, hi, hz0, hz1, hz2⟩ := info_parts (show (Tryz.prog.info? 163).map (fun i => (i.zero, i.size, i.bytes)) = some (some (.agg #[.int .i64 0, .int .i64 0, .int .i64 0, .int .i64 0, .bool false, .bool false]), 6, 40) by kernel_rfl)
  obtain ⟨ga, gb, gcap, rfl, hga, hcap⟩ := row_form hE
  obtain ⟨f1, f2⟩ := f
  obtain ⟨t1, t2⟩ := t
  have hfn := hf.n
  have htn := ht.n
  have hmd := mdn_bd hf ht
  dsimp only at hfn htn
  unfold frV
  go_enter Tryz.func59, Tryz.ntmps59
  go_upto_region 2 with fail
  have bP := (((((Box.new w [.slice ga E.length gcap, .int .i64 kk, .int .i64 op] 48).alloc (by simp) (.cells #[.int .i64 f1, .int .i64 f2] 38)).alloc (by simp) (.cells #[.int .i64 t1, .int .i64 t2] 38)).alloc (by simp) (.cells #[.int .i64 0, .int .i64 0, .int .i64 0, .int .i64 0, .slice none 0 0, .map none] 102)).alloc (by simp) (.map #[] 0)).alloc (by simp) (.cells #[.int .i64 f1, .int .i64 f2, .int .i64 t1, .int .i64 t2, .slice none 0 0, .map (some (w.heap.size + 1 + 1 + 1 + 1))] 102)
  have bF := ((((Box.new (w.alloc (.cells #[.slice ga E.length gcap, .int .i64 kk, .int .i64 op] 48)) [.int .i64 f1, .int .i64 f2] 38).alloc (by simp) (.cells #[.int .i64 t1, .int .i64 t2] 38)).alloc (by simp) (.cells #[.int .i64 0, .int .i64 0, .int .i64 0, .int .i64 0, .slice none 0 0, .map none] 102)).alloc (by simp) (.map #[] 0)).alloc (by simp) (.cells #[.int .i64 f1, .int .i64 f2, .int .i64 t1, .int .i64 t2, .slice none 0 0, .map (some (w.heap.size + 1 + 1 + 1 + 1))] 102)
  have bT := (((Box.new ((w.alloc (.cells #[.slice ga E.length gcap, .int .i64 kk, .int .i64 op] 48)).alloc (.cells #[.int .i64 f1, .int .i64 f2] 38)) [.int .i64 t1, .int .i64 t2] 38).alloc (by simp) (.cells #[.int .i64 0, .int .i64 0, .int .i64 0, .int .i64 0, .slice none 0 0, .map none] 102)).alloc (by simp) (.map #[] 0)).alloc (by simp) (.cells #[.int .i64 f1, .int .i64 f2, .int .i64 t1, .int .i64 t2, .slice none 0 0, .map (some (w.heap.size + 1 + 1 + 1 + 1))] 102)
  have bR := ((Box.new (((w.alloc (.cells #[.slice ga E.length gcap, .int .i64 kk, .int .i64 op] 48)).alloc (.cells #[.int .i64 f1, .int .i64 f2] 38)).alloc (.cells #[.int .i64 t1, .int .i64 t2] 38)) [.int .i64 0, .int .i64 0, .int .i64 0, .int .i64 0, .slice none 0 0, .map none] 102).alloc (by simp) (.map #[] 0)).alloc (by simp) (.cells #[.int .i64 f1, .int .i64 f2, .int .i64 t1, .int .i64 t2, .slice none 0 0, .map (some (w.heap.size + 1 + 1 + 1 + 1))] 102)
  have mR := (MV.new (kt := 42) (key := keE) (ok := WfE) ((((w.alloc (.cells #[.slice ga E.length gcap, .int .i64 kk, .int .i64 op] 48)).alloc (.cells #[.int .i64 f1, .int .i64 f2] 38)).alloc (.cells #[.int .i64 t1, .int .i64 t2] 38)).alloc (.cells #[.int .i64 0, .int .i64 0, .int .i64 0, .int .i64 0, .slice none 0 0, .map none] 102))).later (below1 _ (.cells #[.int .i64 f1, .int .i64 f2, .int .i64 t1, .int .i64 t2, .slice none 0 0, .map (some (w.heap.size + 1 + 1 + 1 + 1))] 102))
  have bS := Box.new (((((w.alloc (.cells #[.slice ga E.length gcap, .int .i64 kk, .int .i64 op] 48)).alloc (.cells #[.int .i64 f1, .int .i64 f2] 38)).alloc (.cells #[.int .i64 t1, .int .i64 t2] 38)).alloc (.cells #[.int .i64 0, .int .i64 0, .int .i64 0, .int .i64 0, .slice none 0 0, .map none] 102)).alloc (.map #[] 0)) [.int .i64 f1, .int .i64 f2, .int .i64 t1, .int .i64 t2, .slice none 0 0, .map (some (w.heap.size + 1 + 1 + 1 + 1))] 102
  have hB := below6 w (.cells #[.slice ga E.length gcap, .int .i64 kk, .int .i64 op] 48) (.cells #[.int .i64 f1, .int .i64 f2] 38) (.cells #[.int .i64 t1, .int .i64 t2] 38) (.cells #[.int .i64 0, .int .i64 0, .int .i64 0, .int .i64 0, .slice none 0 0, .map none] 102) (.map #[] 0) (.cells #[.int .i64 f1, .int .i64 f2, .int .i64 t1, .int .i64 t2, .slice none 0 0, .map (some (w.heap.size + 1 + 1 + 1 + 1))] 102)
  have hW6 : ((((((w.alloc (.cells #[.slice ga E.length gcap, .int .i64 kk, .int .i64 op] 48)).alloc (.cells #[.int .i64 f1, .int .i64 f2] 38)).alloc (.cells #[.int .i64 t1, .int .i64 t2] 38)).alloc (.cells #[.int .i64 0, .int .i64 0, .int .i64 0, .int .i64 0, .slice none 0 0, .map none] 102)).alloc (.map #[] 0)).alloc (.cells #[.int .i64 f1, .int .i64 f2, .int .i64 t1, .int .i64 t2, .slice none 0 0, .map (some (w.heap.size + 1 + 1 + 1 + 1))] 102)).heap.size = w.heap.size + 6 := by simp
  simp only [World.size_alloc] at bF bT bR mR bS
  generalize (((((w.alloc (.cells #[.slice ga E.length gcap, .int .i64 kk, .int .i64 op] 48)).alloc (.cells #[.int .i64 f1, .int .i64 f2] 38)).alloc (.cells #[.int .i64 t1, .int .i64 t2] 38)).alloc (.cells #[.int .i64 0, .int .i64 0, .int .i64 0, .int .i64 0, .slice none 0 0, .map none] 102)).alloc (.map #[] 0)).alloc (.cells #[.int .i64 f1, .int .i64 f2, .int .i64 t1, .int .i64 t2, .slice none 0 0, .map (some (w.heap.size + 1 + 1 + 1 + 1))] 102) = W6 at *
  have hEd := (row_call hE hB).drew
  have hs6 : w.heap.size + 6 ≤ W6.drew.heap.size := by show w.heap.size + 6 ≤ W6.heap.size; omega
  have Hmd := hide hmd
  clear hW6
  have p0 := bP.c 0 _ rfl
  have p1 := bP.c 1 _ rfl
  have p2 := bP.c 2 _ rfl
  have x0 := bF.c 0 _ rfl
  have x1 := bF.c 1 _ rfl
  have y0 := bT.c 0 _ rfl
  have y1 := bT.c 1 _ rfl
  go_region_held3 (fun w' => w'.cell? ⟨w.heap.size, 0, none⟩ = some (.slice ga E.length gcap) ∧ w'.cell? ⟨w.heap.size, 1, none⟩ = some (.int .i64 kk) ∧ w'.cell? ⟨w.heap.size, 2, none⟩ = some (.int .i64 op) ∧ w'.cell? ⟨w.heap.size + 1, 0, none⟩ = some (.int .i64 f1) ∧ w'.cell? ⟨w.heap.size + 1, 1, none⟩ = some (.int .i64 f2) ∧ w'.cell? ⟨w.heap.size + 1 + 1, 0, none⟩ = some (.int .i64 t1) ∧ w'.cell? ⟨w.heap.size + 1 + 1, 1, none⟩ = some (.int .i64 t2) ∧ Below W6.heap.size W6 w')
    ((go_split_ands; refine ⟨?_, ?_, ?_, ?_, ?_, ?_, ?_, ?_⟩ <;> first | assumption | exact Below.drew (Below.refl _ _) | exact cell_later (by assumption) (by assumption) | exact below_call (by assumption) (by assumption)))
    (first | (go_at_call 109; refine (mediant_any (f1, f2) (t1, t2) _ (by dsimp only; omega) (by dsimp only; omega) (by dsimp only; omega) (by dsimp only; omega)).mono ?_; rintro e w' ⟨rfl, hb⟩; have hEm := row_call hEd hb; have hs110 := Nat.le_trans hs6 hb.size; unfold frV) | (go_at_call 108; refine (byHeight_any E _ base kk op (Acre.mdn (f1, f2) (t1, t2)) _ hEm hsm hEl (by omega) (by omega)).mono ?_; rintro e w' ⟨nb, ND, NS, rfl, hnb, gv, hb⟩))
  go_split_ands
  have hW' : Below W6.heap.size W6 w' := by assumption
  obtain ⟨R5, hR5⟩ : ∃ R5, w.heap.size + 1 + 1 + 1 + 1 + 1 = R5 := ⟨_, rfl⟩
  obtain ⟨R4, hR4⟩ : ∃ R4, w.heap.size + 1 + 1 + 1 + 1 = R4 := ⟨_, rfl⟩
  have hn6 : w.heap.size + 6 ≤ nb := Nat.le_trans hs110 hnb
  have hmd := Hmd.out
  rw [hR5] at bS ⊢
  rw [hR4] at mR bS ⊢
  have q := below1 w' (.cells #[.int .i64 0, .int .i64 0] 183)
  have hW2 := below_call q hW'
  have bP2 := bP.later (by simp) hW2
  have bF2 := bF.later (by simp) hW2
  have bT2 := bT.later (by simp) hW2
  have bR2 := bR.later (by simp) hW2
  have bS2 := bS.later (by simp) hW2
  have mR2 := mR.later hW2
  have gv2 := gv.later q
  have bC := Box.new w' [.int .i64 0, .int .i64 0] 183
  have hB2 := below_call hW2 hB
  have hE2 := row_call hE hB2
  have hnlt := gv.mv.lt
  have HgC := hide (fun (h : Acre.Fc) (c : Nat) (e : ((NS h).getD (.slice none 0 0)).ownBlock = some c) => (gv.at' h).lt c e)
  go_upto_region 4 with fail
  clear bP bF bT bR bS mR gv hb hEd hEm hW' q
  generalize w'.alloc (.cells #[.int .i64 0, .int .i64 0] 183) = W7 at *
  generalize w'.heap.size = C at *
  have hl : ∀ z ∈ (E.filter (fun e => !Acre.upr e)).map (fun e => Acre.hgt e (Acre.mdn (f1, f2) (t1, t2))), Acre.Red z ∧ SmF z := by
    intro z hz
    refine ⟨Acre.hts_red hmd.2.1 z hz, ?_⟩
    obtain ⟨e, he, rfl⟩ := List.mem_map.1 hz
    rw [List.mem_filter] at he
    exact hgt_sm (hsm e he.1) (by omega) (by omega)
  have hDD := fun x hx => hts_has gv2 x hx
  have hown : (W7.alloc (.cells #[.map (some nb)] 223)).ownsMap Tryz.prog 38 Raw nb E.length ND := (gv2.mv.later (below1 _ _)).own
  have hseq := keys130_stops Fence.wide 10 trivial rfl (by omega) Raw (fun v => v) (fun v y _ => ⟨v, rfl⟩) W7.heap.size nb _ ND (W7.alloc (.cells #[.map (some nb)] 223)) (by simp) (by simp) hown
  have hszD := mv_size gv2.mv
  have HS := hide (sorted_in 154 _ (enters_of Tryz.func154 (by kernel_rfl) rfl) ND _ _ (by omega) _ hseq _ (by rw [List.length_map]; have := List.length_filter_le (fun e => !Acre.upr e) E; omega) hl hDD)
  clear hseq hown hDD hl hszD
  go_wp2_with fail
  refine (callsIn_wide.1 (mapsKeys111_in Fence.wide 3 trivial rfl nb _)).mono ?_
  rintro e w2 ⟨rfl, rfl⟩
  go_wp2_with fail
  refine Calls.mono HS.out ?_
  rintro e W0 ⟨v, rfl, hrow, hb3⟩
  have q := below_call hb3 (below1 W7 (.cells #[.map (some nb)] 223))
  have hsd : Acre.sortD ((E.filter (fun e => !Acre.upr e)).map (fun e => Acre.hgt e (Acre.mdn (f1, f2) (t1, t2)))) = Acre.hts E (Acre.mdn (f1, f2) (t1, t2)) := rfl
  rw [hsd] at hrow
  have P := bP2.later (by simp) q
  have F := bF2.later (by simp) q
  have T := bT2.later (by simp) q
  have R := bR2.later (by simp) q
  have S := bS2.later (by simp) q
  have M := mR2.later q
  have gv := gv2.later q
  have BC := bC.later (by simp) q
  have B0 := below_call q hB2
  have E0 := row_call hE2 q
  have hCW := bC.lt (by simp)
  have hCs := q.size
  have hbase : W7.heap.size ≤ (W7.alloc (.cells #[.map (some nb)] 223)).heap.size := by simp
  have hrow := row_base hrow hbase
  obtain ⟨hs, hhs⟩ : ∃ hs, Acre.hts E (Acre.mdn (f1, f2) (t1, t2)) = hs := ⟨_, rfl⟩
  rw [hhs] at hrow
  have hhl : hs.length ≤ 24 := by
    rw [← hhs]
    unfold Acre.hts
    have a1 := sortD_len ((E.filter (fun e => !Acre.upr e)).map (fun e => Acre.hgt e (Acre.mdn (f1, f2) (t1, t2))))
    have a2 := List.length_filter_le (fun e => !Acre.upr e) E
    rw [List.length_map] at a1
    omega
  obtain ⟨va, vb, vcap, rfl, hva, _⟩ := row_form hrow
  clear HS bP2 bF2 bT2 bR2 bS2 mR2 gv2 bC hW2 hB2 hE2 hb3 q hsd
  have hRR : w.heap.size + 3 < R4 ∧ R4 < R5 := by omega
  have HRR := hide hRR
  have h45 : R4 < nb ∧ R5 < nb ∧ nb < C ∧ C < W7.heap.size ∧ W7.heap.size ≤ W0.heap.size := by omega
  have HX := hide h45
  have hxd := Hmd.out
  clear hR4 hR5 hRR h45 hCW hCs hn6 hnlt hs110 hs6 hbase
  have h0 : SbI w W0 W0 R4 R5 C (f1, f2) (t1, t2) (.slice none 0 0) 0 0 0 (fun _ => none) [] := ⟨Kept.refl _ _, B0, S, BC, ⟨_, M⟩, World.ownsRow_nil _ _ _ _⟩
  have H0 : Hid (∃ lv m, m ≤ 24 * 0 ∧ SbI w W0 W0 R4 R5 C (f1, f2) (t1, t2) lv (Acre.cntB E kk (f1, f2) (t1, t2) (hs.take 0) false) (Acre.cntB E kk (f1, f2) (t1, t2) (hs.take 0) true) m (rankTo E (Acre.mdn (f1, f2) (t1, t2)) 0) (layTo E kk op (f1, f2) (t1, t2) 0)) := by
    refine ⟨.slice none 0 0, 0, Nat.zero_le _, ?_⟩
    have : rankTo E (Acre.mdn (f1, f2) (t1, t2)) 0 = fun _ => none := by funext e; simp [rankTo]
    rw [this]
    exact h0
  clear h0
  go_wp2
  go_loopw [29] (fun i wr => ∃ k : Nat, i = .int .i64 k ∧ k ≤ hs.length ∧ Hid (∃ lv m, m ≤ 24 * k ∧ SbI w W0 wr R4 R5 C (f1, f2) (t1, t2) lv (Acre.cntB E kk (f1, f2) (t1, t2) (hs.take k) false) (Acre.cntB E kk (f1, f2) (t1, t2) (hs.take k) true) m (rankTo E (Acre.mdn (f1, f2) (t1, t2)) k) (layTo E kk op (f1, f2) (t1, t2) k))) (fun i _ => hs.length - (intOf i).toNat)
  case atStart =>
    exact ⟨0, rfl, Nat.zero_le _, H0⟩
  case round =>
    clear S M BC B0 H0
    obtain ⟨k, rfl, hk, hr⟩ := hrel
    by_cases hlt : k < hs.length
    · obtain ⟨lv, m, hm, hI⟩ := hr.out
      obtain rfl := hva (by omega)
      have hrow' := row_kp hrow hI.kept (fun c h1 h2 => by have := HX.out; simp; omega)
      obtain ⟨x0, x1⟩ := rowF_cells hrow' k hlt
      have hgv := gv.at' hs[k]
      obtain ⟨na, ng, ncap, hnv, hna, _⟩ := row_form hgv
      have hwf : WfF hs[k] := by
        have : hs[k] ∈ Acre.hts E (Acre.mdn (f1, f2) (t1, t2)) := by rw [hhs]; exact List.getElem_mem hlt
        obtain ⟨e, he, hu, hh⟩ := Acre.mem_hts.1 this
        rw [← hh]
        exact (hgt_sm (hsm e he) (by omega) (by omega)).wf
      have hI2 := hI.call (below2 wr (.cells #[.int .i64 hs[k].1, .int .i64 hs[k].2] 38) (.cells #[.int .i64 0, .int .i64 0, .int .i64 0, .int .i64 0, .bool true, .bool false] 163))
      have bH := (Box.new wr [.int .i64 hs[k].1, .int .i64 hs[k].2] 38).alloc (by simp) (.cells #[.int .i64 0, .int .i64 0, .int .i64 0, .int .i64 0, .bool true, .bool false] 163)
      have bL := Box.new (wr.alloc (.cells #[.int .i64 hs[k].1, .int .i64 hs[k].2] 38)) [.int .i64 0, .int .i64 0, .int .i64 0, .int .i64 0, .bool true, .bool false] 163
      simp only [World.size_alloc] at bL
      have hL0 := hI.kept.siz
      have hlvL : lv.ownBlock ≠ some (wr.heap.size + 1) := fun e => by have := (hI.lay.lt _ e).2; omega
      go_upto_region 8 with fail
      clear hr hI x0 x1 hrow'
      generalize (wr.alloc (.cells #[.int .i64 hs[k].1, .int .i64 hs[k].2] 38)).alloc (.cells #[.int .i64 0, .int .i64 0, .int .i64 0, .int .i64 0, .bool true, .bool false] 163) = WL at *
      generalize wr.heap.size = HB at *
      obtain ⟨LB, hLB⟩ : ∃ LB, HB + 1 = LB := ⟨_, rfl⟩
      rw [hLB] at bL hlvL ⊢
      have hLW : W0.heap.size ≤ LB := by omega
      have hmvL := gv.mv.same (hI2.kept.same nb gv.mv.lt (by have := HX.out; simp; omega))
      have hlk := hmvL.lookup ktF Tryz.underlying223 (zero179 _) hwf
      rw [hnv] at hlk
      unfold frV at hlk
      have d0 := bH.c 0 _ rfl
      have d1 := bH.c 1 _ rfl
      obtain ⟨ns, hns⟩ : ∃ ns, numsTo E (Acre.mdn (f1, f2) (t1, t2)) E.length hs[k] = ns := ⟨_, rfl⟩
      rw [hns] at hgv hlk hna hnv
      have hnl : ns.length ≤ 24 := by
        rw [← hns]
        have := List.length_filter_le (fun n => !Acre.upr (Acre.gd E n) && Acre.hgt (Acre.gd E n) (Acre.mdn (f1, f2) (t1, t2)) == hs[k]) (List.range E.length)
        simp at this
        unfold numsTo
        omega
      have hnlt : ∀ n ∈ ns, n < E.length := fun n hn => by
        rw [← hns] at hn
        unfold numsTo at hn
        rw [List.mem_filter, List.mem_range] at hn
        exact hn.1
      rw [hnv] at hgv
      have HG := hide hgv
      have Hnv := hide hnv
      have HI2 : Hid (∃ m, m ≤ 24 * k + 0 ∧ SbI w W0 WL R4 R5 C (f1, f2) (t1, t2) lv (Acre.cntB E kk (f1, f2) (t1, t2) (hs.take k) false + cntO kk (spTo E (f1, f2) (t1, t2) ns 0) false) (Acre.cntB E kk (f1, f2) (t1, t2) (hs.take k) true + cntO kk (spTo E (f1, f2) (t1, t2) ns 0) true) m (rankJ E (Acre.mdn (f1, f2) (t1, t2)) k ns 0) (layTo E kk op (f1, f2) (t1, t2) k) ∧ Box WL LB (layV (firstE E (spTo E (f1, f2) (t1, t2) ns 0), (spTo E (f1, f2) (t1, t2) ns 0).isEmpty, false))) :=
        ⟨m, hm, by rw [rankJ_zero]; exact hI2, bL⟩
      have hb0l : Acre.cntB E kk (f1, f2) (t1, t2) (hs.take k) false ≤ 600 ∧ Acre.cntB E kk (f1, f2) (t1, t2) (hs.take k) true ≤ 600 := by
        have a1 := cntB_le E kk (f1, f2) (t1, t2) (hs.take k) false hEl
        have a2 := cntB_le E kk (f1, f2) (t1, t2) (hs.take k) true hEl
        rw [List.length_take] at a1 a2
        omega
      have HB0 := hide hb0l
      obtain ⟨b0, hb0⟩ : ∃ b0, Acre.cntB E kk (f1, f2) (t1, t2) (hs.take k) false = b0 := ⟨_, rfl⟩
      obtain ⟨b1, hb1⟩ : ∃ b1, Acre.cntB E kk (f1, f2) (t1, t2) (hs.take k) true = b1 := ⟨_, rfl⟩
      rw [hb0, hb1] at HI2
      rw [hb0, hb1] at HB0
      have Hb := hide (And.intro hb0 hb1)
      clear hb0 hb1
      have Hns := hide hns
      have Hgv := hide gv
      clear hI2 bL hmvL hgv hnv hns gv hwf hb0l hm
      go_wp2
      go_loopw [39] (fun j w2 => ∃ q : Nat, j = .int .i64 q ∧ q ≤ ns.length ∧ Hid (∃ m, m ≤ 24 * k + q ∧ SbI w W0 w2 R4 R5 C (f1, f2) (t1, t2) lv (b0 + cntO kk (spTo E (f1, f2) (t1, t2) ns q) false) (b1 + cntO kk (spTo E (f1, f2) (t1, t2) ns q) true) m (rankJ E (Acre.mdn (f1, f2) (t1, t2)) k ns q) (layTo E kk op (f1, f2) (t1, t2) k) ∧ Box w2 LB (layV (firstE E (spTo E (f1, f2) (t1, t2) ns q), (spTo E (f1, f2) (t1, t2) ns q).isEmpty, false)))) (fun j _ => ns.length - (intOf j).toNat)
      case atStart => exact ⟨0, rfl, Nat.zero_le _, HI2⟩
      case round =>
        clear HI2 d0 d1 hlk
        obtain ⟨q, rfl, hq, hr⟩ := hrel
        by_cases hql : q < ns.length
        · obtain ⟨m, hm, hI, bL⟩ := hr.out
          obtain rfl := hna (by omega)
          have hX := HX.out
          have hRR := HRR.out
          have hnr := row_kp' HG.out hI.kept (fun c hc => by have := HgC.out hs[k] c (by rw [Hnv.out]; exact hc); simp; omega)
          have hn0 := row_at (f := natL) (m := 1) (fun _ => rfl) hnr q 0 hql (by omega)
          have hn1 : wr.cell? ⟨ng, q, none⟩ = some (.int .i64 ns[q]) := by simpa [natL] using hn0
          have hnE := hnlt ns[q] (List.getElem_mem hql)
          have Pk := P.kp (by simp) hI.kept (by simp; omega)
          have p0 := Pk.c 0 _ rfl
          obtain rfl := hga (by omega)
          obtain ⟨x0, x1, x2, x3⟩ := rowE_cells hE ns[q] hnE
          have y0 := cell_later hI.bel x0
          have y1 := cell_later hI.bel x1
          have y2 := cell_later hI.bel x2
          have y3 := cell_later hI.bel x3
          have hse := hsm E[ns[q]] (List.getElem_mem hnE)
          have hgd : Acre.gd E ns[q] = E[ns[q]] := by unfold Acre.gd; simp [hnE]
          have hrj := rankJ_succ E (Acre.mdn (f1, f2) (t1, t2)) k ns q hql
          have hsp := spTo_succ E (f1, f2) (t1, t2) ns q hql
          rw [hgd] at hrj hsp
          obtain ⟨⟨⟨e0, e1⟩, ⟨e2, e3⟩⟩, he⟩ : ∃ e, E[ns[q]] = e := ⟨_, rfl⟩
          rw [he] at y0 y1 y2 y3 hse hrj hsp hgd
          dsimp only at y0 y1 y2 y3
          obtain ⟨n, hn⟩ : ∃ n, ns[q] = n := ⟨_, rfl⟩
          rw [hn] at hn1 y0 y1 y2 y3 hnE hgd hsp
          have q1 := below1 wr (.cells #[.int .i64 e0, .int .i64 e1, .int .i64 e2, .int .i64 e3] 42)
          have hI2 := hI.call q1
          have bE := Box.new wr [.int .i64 e0, .int .i64 e1, .int .i64 e2, .int .i64 e3] 42
          have bL2 := bL.later (by simp [layV]) q1
          have hEB := hI.kept.siz
          have hlvE : lv.ownBlock ≠ some wr.heap.size := fun e => by have := (hI.lay.lt _ e).2; omega
          have hne : ¬ E = [] := fun e => by rw [e] at hnE; simp at hnE
          have Hse := hide hse
          have Hrj := hide hrj
          have Hsp := hide hsp
          have Hgd := hide hgd
          clear hr hn0 hnr x0 x1 x2 x3 hI bL hse hrj hsp he hn Pk q1 hgd
          obtain ⟨z0, hz0'⟩ : ∃ z0, b0 + cntO kk (spTo E (f1, f2) (t1, t2) ns q) false = z0 := ⟨_, rfl⟩
          obtain ⟨z1, hz1'⟩ : ∃ z1, b1 + cntO kk (spTo E (f1, f2) (t1, t2) ns q) true = z1 := ⟨_, rfl⟩
          rw [hz0', hz1'] at hI2
          have hzb : z0 ≤ 700 ∧ z1 ≤ 700 := by
            have := HB0.out
            have l1 : ∀ o, cntO kk (spTo E (f1, f2) (t1, t2) ns q) o ≤ 24 := fun o => by
              unfold cntO spTo
              have a1 := List.countP_le_length (p := fun n => decide (kk ≤ n) == o) (l := (ns.take q).filter (fun n => Acre.spn (Acre.gd E n) (f1, f2) (t1, t2)))
              have a2 := List.length_filter_le (fun n => Acre.spn (Acre.gd E n) (f1, f2) (t1, t2)) (ns.take q)
              rw [List.length_take] at a2
              omega
            have := l1 false
            have := l1 true
            omega
          have Hz := hide (And.intro hz0' hz1')
          clear hz0' hz1'
          go_upto_region 12 with fail
          clear y0 y1 y2 y3 hn1 p0
          generalize wr.alloc (.cells #[.int .i64 e0, .int .i64 e1, .int .i64 e2, .int .i64 e3] 42) = WE at *
          generalize wr.heap.size = EB at *
          obtain ⟨D, hD⟩ := hI2.rk
          obtain ⟨w1, hu, hMV, hg1⟩ := hD.update ktE Tryz.underlying70 (by unfold maxLen; omega) Hse.out.wf (.int .i64 k)
          rw [Hrj.out] at hMV
          have hI3 := hI2.rank hMV hg1 (by omega)
          have bE3 := bE.kept (by simp) hg1 (by simp; omega)
          have bL3 := bL2.kept (by simp [layV]) hg1 (by simp; omega)
          have s5 := hI2.sb.c 5 _ rfl
          have c0 := bE.c 0 _ rfl
          have c1 := bE.c 1 _ rfl
          have c2 := bE.c 2 _ rfl
          have c3 := bE.c 3 _ rfl
          unfold edV at hu
          clear hI2 bE bL2 hMV hg1 hD D
          go_upto_region 13 with fail
          clear s5 c0 c1 c2 c3 hu
          have c0 := bE3.c 0 _ rfl
          have c1 := bE3.c 1 _ rfl
          have c2 := bE3.c 2 _ rfl
          have c3 := bE3.c 3 _ rfl
          have Fk := F.kp (by simp) hI3.kept (by simp; omega)
          have Tk := T.kp (by simp) hI3.kept (by simp; omega)
          have u0 := Fk.c 0 _ rfl
          have u1 := Fk.c 1 _ rfl
          have v0 := Tk.c 0 _ rfl
          have v1 := Tk.c 1 _ rfl
          have hcf := hf.n
          have hct := ht.n
          dsimp only at hcf hct
          go_wp2_with fail
          refine (spans_any ((e0, e1), (e2, e3)) (f1, f2) (t1, t2) _ Hse.out ⟨⟨by dsimp only; omega, by dsimp only; omega⟩, by dsimp only; omega, by dsimp only; omega⟩ ⟨⟨by dsimp only; omega, by dsimp only; omega⟩, by dsimp only; omega, by dsimp only; omega⟩).mono ?_
          rintro e w2 ⟨rfl, hb2⟩
          have hI4 := hI3.call hb2
          have bE4 := bE3.later (by simp) hb2
          have bL4 := bL3.later (by simp [layV]) hb2
          clear c0 c1 c2 c3 u0 u1 v0 v1 Fk Tk hI3 bE3 bL3 hb2
          cases hspn : Acre.spn ((e0, e1), (e2, e3)) (f1, f2) (t1, t2)
          · have hs' := Hsp.out
            rw [hspn] at hs'
            simp only [Bool.false_eq_true, if_false, List.append_nil] at hs'
            have HN : Hid (∃ m, m ≤ 24 * k + (q + 1) ∧ SbI w W0 w2 R4 R5 C (f1, f2) (t1, t2) lv (b0 + cntO kk (spTo E (f1, f2) (t1, t2) ns (q + 1)) false) (b1 + cntO kk (spTo E (f1, f2) (t1, t2) ns (q + 1)) true) m (rankJ E (Acre.mdn (f1, f2) (t1, t2)) k ns (q + 1)) (layTo E kk op (f1, f2) (t1, t2) k) ∧ Box w2 LB (layV (firstE E (spTo E (f1, f2) (t1, t2) ns (q + 1)), (spTo E (f1, f2) (t1, t2) ns (q + 1)).isEmpty, false))) := by
              refine ⟨m + 1, by omega, ?_, ?_⟩
              · rw [hs', Hz.out.1, Hz.out.2]; exact hI4
              · rw [hs']; exact bL4
            clear hI4 bE4 bL4 hs'
            go_wp2
            go_roundw
            case rel => exact ⟨q + 1, by go_num, by omega, HN⟩
            case measure => simp [intOf]; omega
          · have hs' := Hsp.out
            rw [hspn] at hs'
            simp only [if_true] at hs'
            have Pk := P.kp (by simp) hI4.kept (by simp; omega)
            have p0 := Pk.c 0 _ rfl
            have p1 := Pk.c 1 _ rfl
            have p2 := Pk.c 2 _ rfl
            by_cases hnk : n < kk
            · have hc0 : cntO kk (spTo E (f1, f2) (t1, t2) ns q ++ [n]) false = cntO kk (spTo E (f1, f2) (t1, t2) ns q) false + 1 := by simp [cntO, List.countP_append, List.countP_cons, show ¬ kk ≤ n by omega]
              have hc1 : cntO kk (spTo E (f1, f2) (t1, t2) ns q ++ [n]) true = cntO kk (spTo E (f1, f2) (t1, t2) ns q) true := by simp [cntO, List.countP_append, List.countP_cons, show ¬ kk ≤ n by omega]
              have hcd : ((n : Int) < (kk : Int)) := by omega
              go_wp2_with fail
              refine (owner_any (.slice (some ⟨gb, 0, none⟩) E.length gcap) n kk op _ _ _ _ rfl).mono ?_
              rintro e w3 ⟨rfl, hb3⟩
              rw [if_pos hcd]
              have hI5 := hI4.call hb3
              have bE5 := bE4.later (by simp) hb3
              have bL5 := bL4.later (by simp [layV]) hb3
              have k0 := hI5.bb.c 0 _ rfl
              have k1 := hI5.bb.f 0 (by simp)
              have hI6 := hI5.more0 (by omega)
              have hbl : ∀ j, j ≠ C → (w3.setCell ⟨C, 0, none⟩ (.int .i64 ((z0 : Int) + 1))).heap[j]? = w3.heap[j]? := fun j hj => Below.heap_setCell _ _ _ j hj
              have bE6 := bE5.block (hbl EB (by omega))
              have bL6 := bL5.block (hbl LB (by omega))
              clear p0 p1 p2 Pk hI4 bE4 bL4 hb3 hbl
              go_upto_region 15 with fail
              clear k0 k1 hI5 bE5 bL5
              generalize w3.setCell ⟨C, 0, none⟩ (.int .i64 ((z0 : Int) + 1)) = W5 at *
              cases hsq : spTo E (f1, f2) (t1, t2) ns q with
              | nil =>
                rw [hsq] at bL6
                have HN : Hid (∃ m, m ≤ 24 * k + (q + 1) ∧ SbI w W0 (((((W5.setCell ⟨LB, 0, none⟩ (.int .i64 e0)).setCell ⟨LB, 0 + 1, none⟩ (.int .i64 e1)).setCell ⟨LB, 0 + 1 + 1, none⟩ (.int .i64 e2)).setCell ⟨LB, 0 + 1 + 1 + 1, none⟩ (.int .i64 e3)).setCell ⟨LB, 4, none⟩ (.bool false)) R4 R5 C (f1, f2) (t1, t2) lv (b0 + cntO kk (spTo E (f1, f2) (t1, t2) ns (q + 1)) false) (b1 + cntO kk (spTo E (f1, f2) (t1, t2) ns (q + 1)) true) m (rankJ E (Acre.mdn (f1, f2) (t1, t2)) k ns (q + 1)) (layTo E kk op (f1, f2) (t1, t2) k) ∧ Box (((((W5.setCell ⟨LB, 0, none⟩ (.int .i64 e0)).setCell ⟨LB, 0 + 1, none⟩ (.int .i64 e1)).setCell ⟨LB, 0 + 1 + 1, none⟩ (.int .i64 e2)).setCell ⟨LB, 0 + 1 + 1 + 1, none⟩ (.int .i64 e3)).setCell ⟨LB, 4, none⟩ (.bool false)) LB (layV (firstE E (spTo E (f1, f2) (t1, t2) ns (q + 1)), (spTo E (f1, f2) (t1, t2) ns (q + 1)).isEmpty, false))) := by
                  refine ⟨m + 1, by omega, ?_, ?_⟩
                  · rw [hs', hc0, hc1, ← Nat.add_assoc, Hz.out.1, Hz.out.2]
                    exact ((((hI6.set ⟨LB, 0, none⟩ _ hLW hlvL (by omega) (by omega)).set ⟨LB, 0 + 1, none⟩ _ hLW hlvL (by omega) (by omega)).set ⟨LB, 0 + 1 + 1, none⟩ _ hLW hlvL (by omega) (by omega)).set ⟨LB, 0 + 1 + 1 + 1, none⟩ _ hLW hlvL (by omega) (by omega)).set ⟨LB, 4, none⟩ _ hLW hlvL (by omega) (by omega)
                  · rw [hs', hsq]
                    have := box_lay _ _ _ _ _ _ _ _ (.int .i64 e0) (.int .i64 e1) (.int .i64 e2) (.int .i64 e3) (.bool false) bL6
                    simpa [layV, firstE, Hgd.out] using this
                have l0 := bL6.c 0 _ rfl
                have l1 := bL6.c 1 _ rfl
                have l2 := bL6.c 2 _ rfl
                have l3 := bL6.c 3 _ rfl
                have l4 := bL6.c 4 _ rfl
                have g0 := bL6.f 0 (by simp [layV])
                have g1 := bL6.f 1 (by simp [layV])
                have g2 := bL6.f 2 (by simp [layV])
                have g3 := bL6.f 3 (by simp [layV])
                have g4 := bL6.f 4 (by simp [layV])
                have c0 := bE6.c 0 _ rfl
                have c1 := bE6.c 1 _ rfl
                have c2 := bE6.c 2 _ rfl
                have c3 := bE6.c 3 _ rfl
                simp only [firstE, List.isEmpty_nil] at l0 l1 l2 l3 l4
                clear hI6 bE6 bL6 hs' hsq hc0 hc1
                go_wp2
                go_roundw
                case rel => exact ⟨q + 1, by go_num, by omega, HN⟩
                case measure => simp [intOf]; omega
              | cons a r =>
                rw [hsq] at bL6
                have HN : Hid (∃ m, m ≤ 24 * k + (q + 1) ∧ SbI w W0 W5 R4 R5 C (f1, f2) (t1, t2) lv (b0 + cntO kk (spTo E (f1, f2) (t1, t2) ns (q + 1)) false) (b1 + cntO kk (spTo E (f1, f2) (t1, t2) ns (q + 1)) true) m (rankJ E (Acre.mdn (f1, f2) (t1, t2)) k ns (q + 1)) (layTo E kk op (f1, f2) (t1, t2) k) ∧ Box W5 LB (layV (firstE E (spTo E (f1, f2) (t1, t2) ns (q + 1)), (spTo E (f1, f2) (t1, t2) ns (q + 1)).isEmpty, false))) := by
                  refine ⟨m + 1, by omega, ?_, ?_⟩
                  · rw [hs', hc0, hc1, ← Nat.add_assoc, Hz.out.1, Hz.out.2]
                    exact hI6
                  · rw [hs', hsq]
                    simpa [layV, firstE] using bL6
                have l4 := bL6.c 4 _ rfl
                simp only [List.isEmpty_cons] at l4
                clear hI6 bE6 bL6 hs' hsq hc0 hc1
                go_wp2
                go_roundw
                case rel => exact ⟨q + 1, by go_num, by omega, HN⟩
                case measure => simp [intOf]; omega
            · have hc0 : cntO kk (spTo E (f1, f2) (t1, t2) ns q ++ [n]) false = cntO kk (spTo E (f1, f2) (t1, t2) ns q) false := by simp [cntO, List.countP_append, List.countP_cons, show kk ≤ n by omega]
              have hc1 : cntO kk (spTo E (f1, f2) (t1, t2) ns q ++ [n]) true = cntO kk (spTo E (f1, f2) (t1, t2) ns q) true + 1 := by simp [cntO, List.countP_append, List.countP_cons, show kk ≤ n by omega]
              have hcd : ¬ ((n : Int) < (kk : Int)) := by omega
              go_wp2_with fail
              refine (owner_any (.slice (some ⟨gb, 0, none⟩) E.length gcap) n kk op _ _ _ _ rfl).mono ?_
              rintro e w3 ⟨rfl, hb3⟩
              rw [if_neg (by omega)]
              have hI5 := hI4.call hb3
              have bE5 := bE4.later (by simp) hb3
              have bL5 := bL4.later (by simp [layV]) hb3
              have k0 := hI5.bb.c 1 _ rfl
              have k1 := hI5.bb.f 1 (by simp)
              have hI6 := hI5.more1 (by omega)
              have hbl : ∀ j, j ≠ C → (w3.setCell ⟨C, 1, none⟩ (.int .i64 ((z1 : Int) + 1))).heap[j]? = w3.heap[j]? := fun j hj => Below.heap_setCell _ _ _ j hj
              have bE6 := bE5.block (hbl EB (by omega))
              have bL6 := bL5.block (hbl LB (by omega))
              clear p0 p1 p2 Pk hI4 bE4 bL4 hb3 hbl
              go_upto_region 15 with fail
              clear k0 k1 hI5 bE5 bL5
              generalize w3.setCell ⟨C, 1, none⟩ (.int .i64 ((z1 : Int) + 1)) = W5 at *
              cases hsq : spTo E (f1, f2) (t1, t2) ns q with
              | nil =>
                rw [hsq] at bL6
                have HN : Hid (∃ m, m ≤ 24 * k + (q + 1) ∧ SbI w W0 (((((W5.setCell ⟨LB, 0, none⟩ (.int .i64 e0)).setCell ⟨LB, 0 + 1, none⟩ (.int .i64 e1)).setCell ⟨LB, 0 + 1 + 1, none⟩ (.int .i64 e2)).setCell ⟨LB, 0 + 1 + 1 + 1, none⟩ (.int .i64 e3)).setCell ⟨LB, 4, none⟩ (.bool false)) R4 R5 C (f1, f2) (t1, t2) lv (b0 + cntO kk (spTo E (f1, f2) (t1, t2) ns (q + 1)) false) (b1 + cntO kk (spTo E (f1, f2) (t1, t2) ns (q + 1)) true) m (rankJ E (Acre.mdn (f1, f2) (t1, t2)) k ns (q + 1)) (layTo E kk op (f1, f2) (t1, t2) k) ∧ Box (((((W5.setCell ⟨LB, 0, none⟩ (.int .i64 e0)).setCell ⟨LB, 0 + 1, none⟩ (.int .i64 e1)).setCell ⟨LB, 0 + 1 + 1, none⟩ (.int .i64 e2)).setCell ⟨LB, 0 + 1 + 1 + 1, none⟩ (.int .i64 e3)).setCell ⟨LB, 4, none⟩ (.bool false)) LB (layV (firstE E (spTo E (f1, f2) (t1, t2) ns (q + 1)), (spTo E (f1, f2) (t1, t2) ns (q + 1)).isEmpty, false))) := by
                  refine ⟨m + 1, by omega, ?_, ?_⟩
                  · rw [hs', hc0, hc1, ← Nat.add_assoc, Hz.out.1, Hz.out.2]
                    exact ((((hI6.set ⟨LB, 0, none⟩ _ hLW hlvL (by omega) (by omega)).set ⟨LB, 0 + 1, none⟩ _ hLW hlvL (by omega) (by omega)).set ⟨LB, 0 + 1 + 1, none⟩ _ hLW hlvL (by omega) (by omega)).set ⟨LB, 0 + 1 + 1 + 1, none⟩ _ hLW hlvL (by omega) (by omega)).set ⟨LB, 4, none⟩ _ hLW hlvL (by omega) (by omega)
                  · rw [hs', hsq]
                    have := box_lay _ _ _ _ _ _ _ _ (.int .i64 e0) (.int .i64 e1) (.int .i64 e2) (.int .i64 e3) (.bool false) bL6
                    simpa [layV, firstE, Hgd.out] using this
                have l0 := bL6.c 0 _ rfl
                have l1 := bL6.c 1 _ rfl
                have l2 := bL6.c 2 _ rfl
                have l3 := bL6.c 3 _ rfl
                have l4 := bL6.c 4 _ rfl
                have g0 := bL6.f 0 (by simp [layV])
                have g1 := bL6.f 1 (by simp [layV])
                have g2 := bL6.f 2 (by simp [layV])
                have g3 := bL6.f 3 (by simp [layV])
                have g4 := bL6.f 4 (by simp [layV])
                have c0 := bE6.c 0 _ rfl
                have c1 := bE6.c 1 _ rfl
                have c2 := bE6.c 2 _ rfl
                have c3 := bE6.c 3 _ rfl
                simp only [firstE, List.isEmpty_nil] at l0 l1 l2 l3 l4
                clear hI6 bE6 bL6 hs' hsq hc0 hc1
                go_wp2
                go_roundw
                case rel => exact ⟨q + 1, by go_num, by omega, HN⟩
                case measure => simp [intOf]; omega
              | cons a r =>
                rw [hsq] at bL6
                have HN : Hid (∃ m, m ≤ 24 * k + (q + 1) ∧ SbI w W0 W5 R4 R5 C (f1, f2) (t1, t2) lv (b0 + cntO kk (spTo E (f1, f2) (t1, t2) ns (q + 1)) false) (b1 + cntO kk (spTo E (f1, f2) (t1, t2) ns (q + 1)) true) m (rankJ E (Acre.mdn (f1, f2) (t1, t2)) k ns (q + 1)) (layTo E kk op (f1, f2) (t1, t2) k) ∧ Box W5 LB (layV (firstE E (spTo E (f1, f2) (t1, t2) ns (q + 1)), (spTo E (f1, f2) (t1, t2) ns (q + 1)).isEmpty, false))) := by
                  refine ⟨m + 1, by omega, ?_, ?_⟩
                  · rw [hs', hc0, hc1, ← Nat.add_assoc, Hz.out.1, Hz.out.2]
                    exact hI6
                  · rw [hs', hsq]
                    simpa [layV, firstE] using bL6
                have l4 := bL6.c 4 _ rfl
                simp only [List.isEmpty_cons] at l4
                clear hI6 bE6 bL6 hs' hsq hc0 hc1
                go_wp2
                go_roundw
                case rel => exact ⟨q + 1, by go_num, by omega, HN⟩
                case measure => simp [intOf]; omega
        · obtain rfl : q = ns.length := by omega
          obtain ⟨m, hm, hI, bL⟩ := hr.out
          have hX := HX.out
          have hRR := HRR.out
          have hspA : spTo E (f1, f2) (t1, t2) ns ns.length = Acre.spAt E (f1, f2) (t1, t2) hs[k] := by
            unfold spTo Acre.spAt
            rw [List.take_of_length_le (Nat.le_refl _), ← Hns.out]
            rfl
          have hrl : rankJ E (Acre.mdn (f1, f2) (t1, t2)) k ns ns.length = rankTo E (Acre.mdn (f1, f2) (t1, t2)) (k + 1) := by
            have := rank_last (E := E) (x := Acre.mdn (f1, f2) (t1, t2)) (k := k) hxd.2.1 (by rw [hhs]; exact hlt)
            simp only [hhs] at this
            rw [Hns.out] at this
            exact this
          have hc0 := cntB_succ E kk (f1, f2) (t1, t2) hs k hlt false
          have hc1 := cntB_succ E kk (f1, f2) (t1, t2) hs k hlt true
          rw [Hb.out.1, ← hspA] at hc0
          rw [Hb.out.2, ← hspA] at hc1
          have hzl := cntB_le E kk (f1, f2) (t1, t2) (hs.take (k + 1)) false hEl
          have hzl2 := cntB_le E kk (f1, f2) (t1, t2) (hs.take (k + 1)) true hEl
          rw [List.length_take] at hzl hzl2
          rw [hrl, ← hc0, ← hc1] at hI
          have hlay : layAt E kk op (f1, f2) (t1, t2) k = (firstE E (spTo E (f1, f2) (t1, t2) ns ns.length), (spTo E (f1, f2) (t1, t2) ns ns.length).isEmpty, Acre.keepsB op (Acre.cntB E kk (f1, f2) (t1, t2) (hs.take (k + 1)) false) (Acre.cntB E kk (f1, f2) (t1, t2) (hs.take (k + 1)) true)) := by
            unfold layAt
            have : hs.getD k (0, 0) = hs[k] := by simp [List.getD, hlt]
            rw [hhs, this, edgeAt_first, ← hspA]
            rfl
          have hlt2 := layTo_succ E kk op (f1, f2) (t1, t2) k
          rw [hlay] at hlt2
          obtain ⟨z0, hz0'⟩ : ∃ z0, Acre.cntB E kk (f1, f2) (t1, t2) (hs.take (k + 1)) false = z0 := ⟨_, rfl⟩
          obtain ⟨z1, hz1'⟩ : ∃ z1, Acre.cntB E kk (f1, f2) (t1, t2) (hs.take (k + 1)) true = z1 := ⟨_, rfl⟩
          obtain ⟨⟨⟨⟨e0, e1⟩, ⟨e2, e3⟩⟩, bare⟩, hly⟩ : ∃ l, (firstE E (spTo E (f1, f2) (t1, t2) ns ns.length), (spTo E (f1, f2) (t1, t2) ns ns.length).isEmpty) = l := ⟨_, rfl⟩
          simp only [Prod.mk.injEq] at hly
          rw [hly.1, hly.2] at bL hlt2
          rw [hz0', hz1'] at hI hlt2
          rw [hz0'] at hzl
          rw [hz1'] at hzl2
          have Hz := hide (And.intro hz0' hz1')
          have Hlt2 := hide hlt2
          have Pk := P.kp (by simp) hI.kept (by simp; omega)
          have p0 := Pk.c 0 _ rfl
          have p1 := Pk.c 1 _ rfl
          have p2 := Pk.c 2 _ rfl
          have k0 := hI.bb.c 0 _ rfl
          have k1 := hI.bb.c 1 _ rfl
          clear hr hc0 hc1 hlay hlt2 hly hz0' hz1' hspA hrl Pk
          go_wp2_with fail
          refine (keeps_any (.slice ga E.length gcap) kk op z0 z1 _ _ _ _ rfl (by omega) (by omega)).mono ?_
          rintro e w1 ⟨rfl, hb1⟩
          obtain ⟨ins, hins⟩ : ∃ ins, Acre.keepsB op z0 z1 = ins := ⟨_, rfl⟩
          rw [hins] at Hlt2 ⊢
          clear hins
          have hI2 := hI.call hb1
          have bL2 := bL.later (by simp [layV]) hb1
          have l5 := bL2.c 5 _ rfl
          have g5 := bL2.f 5 (by simp [layV])
          have hI3 := hI2.set ⟨LB, 5, none⟩ (.bool ins) hLW hlvL (by omega) (by omega)
          have bL3 := box_set5 _ _ _ _ _ _ _ _ (.bool ins) bL2
          clear p0 p1 p2 k0 k1 hI bL hb1
          go_upto_region 19 with fail
          clear l5 g5 hI2 bL2
          generalize w1.setCell ⟨LB, 5, none⟩ (.bool ins) = W2 at *
          have l0 := bL3.c 0 _ rfl
          have l1 := bL3.c 1 _ rfl
          have l2 := bL3.c 2 _ rfl
          have l3 := bL3.c 3 _ rfl
          have l4 := bL3.c 4 _ rfl
          have l5 := bL3.c 5 _ rfl
          have s4 := hI3.sb.c 4 _ rfl
          have hln : (layTo E kk op (f1, f2) (t1, t2) k).length ≤ 24 := by unfold layTo; simp; omega
          have hlay := hI3.lay
          have hszW := hI3.kept.siz
          have nR5 : lv.ownBlock ≠ some R5 := fun e => by have := (hlay.lt _ e).1; omega
          go_upto_region 20 with (first
            | (at_builtin; refine wpList_append_own_at _ rfl _ _ 100 rfl W0.heap.size 163 i0 _ 6 40 Tryz.underlying100 hi hz0 hz1 hz2 rfl (by decide) _ _ _ rfl (hlay.alloc _) ⟨W2.heap.size, 0, none⟩ 1 1 (layV (((e0, e1), (e2, e3)), bare, ins)) rfl rfl (World.news_of_block (cs := #[.int .i64 e0, .int .i64 e1, .int .i64 e2, .int .i64 e3, .bool bare, .bool ins]) (t := 163) (fr := (0, 0)) (heap_alloc_new W2 _)) (by simp [layV, Value.oneCell']) (by unfold maxLen; omega) (by omega) (by simp; omega) ?_; intro v' w4 hown' hgrow hnil hloc; obtain ⟨g', cap', rfl⟩ := row_succ hown'; have sb4 := (hI3.sb.alloc (by simp) (.cells #[.int .i64 e0, .int .i64 e1, .int .i64 e2, .int .i64 e3, .bool bare, .bool ins] 163)).kept (by simp) hgrow nR5; have s44 := sb4.c 4 _ rfl; have s4f := sb4.f 4 (by simp))
            | go_in)
          have HN : Hid (∃ lv m, m ≤ 24 * (k + 1) ∧ SbI w W0 (w4.setCell ⟨R5, 4, none⟩ (.slice (some ⟨g', 0, none⟩) ((layTo E kk op (f1, f2) (t1, t2) k).length + 1) cap')) R4 R5 C (f1, f2) (t1, t2) lv (Acre.cntB E kk (f1, f2) (t1, t2) (hs.take (k + 1)) false) (Acre.cntB E kk (f1, f2) (t1, t2) (hs.take (k + 1)) true) m (rankTo E (Acre.mdn (f1, f2) (t1, t2)) (k + 1)) (layTo E kk op (f1, f2) (t1, t2) (k + 1))) := by
            refine ⟨.slice (some ⟨g', 0, none⟩) ((layTo E kk op (f1, f2) (t1, t2) k).length + 1) cap', m, by omega, ?_⟩
            rw [Hz.out.1, Hz.out.2, Hlt2.out]
            exact hI3.app _ hown' hgrow (by omega) (by omega)
          clear hI3 bL3 hown' hgrow hnil hloc sb4 s44 s4f hlay l0 l1 l2 l3 l4 l5 s4
          go_wp2
          go_roundw
          case rel => exact ⟨k + 1, by go_num, by omega, HN⟩
          case measure => simp [intOf]; omega
    · obtain rfl : k = hs.length := by omega
      obtain ⟨lv, m, hm, hI⟩ := hr.out
      obtain ⟨D, hD⟩ := hI.rk
      have hX := HX.out
      have hRR := HRR.out
      have Rk := R.kp (by simp) hI.kept (by simp; omega)
      have s0 := hI.sb.c 0 _ rfl
      have s1 := hI.sb.c 1 _ rfl
      have s2 := hI.sb.c 2 _ rfl
      have s3 := hI.sb.c 3 _ rfl
      have s4 := hI.sb.c 4 _ rfl
      have s5 := hI.sb.c 5 _ rfl
      have r0 := Rk.c 0 _ rfl
      have r1 := Rk.c 1 _ rfl
      have r2 := Rk.c 2 _ rfl
      have r3 := Rk.c 3 _ rfl
      have r4 := Rk.c 4 _ rfl
      have r5 := Rk.c 5 _ rfl
      have u0 := Rk.f 0 (by simp)
      have u1 := Rk.f 1 (by simp)
      have u2 := Rk.f 2 (by simp)
      have u3 := Rk.f 3 (by simp)
      have u4 := Rk.f 4 (by simp)
      have u5 := Rk.f 5 (by simp)
      have hlay := hI.lay
      obtain ⟨la, lg, lcap, rfl, _, _⟩ := row_form hlay
      have HD := hide hD
      have HL := hide hlay
      have HBl := hide hI.bel
      clear hr hI hD hlay Rk
      go_wp2
      refine bodyPost_ret (v := .agg #[.int .i64 f1, .int .i64 f2, .int .i64 t1, .int .i64 t2, .slice la (layTo E kk op (f1, f2) (t1, t2) hs.length).length lcap, .map (some R4)]) ?_ rfl ⟨_, R4, rfl, ?_, ?_⟩
      · simp [results, Tryz.results59, go_sem, r0, r1, r2, r3, r4, r5]
      · refine ⟨?_, by omega, m, D, ?_⟩
        · have hP : layersP E kk op (f1, f2) (t1, t2) = layTo E kk op (f1, f2) (t1, t2) hs.length := by unfold layersP; rw [hhs]
          rw [hP]
          exact row_base (row_six HL.out (by omega) _ _ _ _ _ _) (by omega)
        · rw [hhs]
          exact HD.out.same (heap_six _ _ _ _ _ _ _ _ (by omega))
      · exact below_six HBl.out (by omega) _ _ _ _ _ _
end Go.Proofs.YtkjlkbgdkdcboaaGreatDoor
