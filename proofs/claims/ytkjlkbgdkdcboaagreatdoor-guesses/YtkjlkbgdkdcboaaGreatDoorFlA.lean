import Derived.Test.YtkjlkbgdkdcboaaGreatDoorFS
import Derived.Test.YtkjlkbgdkdcboaaGreatDoorGyA
import Derived.Test.YtkjlkbgdkdcboaaGreatDoorPaA
import Derived.Stop.RegionWithIn
import Derived.Sort.CutIn

set_option linter.unusedSimpArgs false
set_option linter.unusedVariables false

set_option linter.unusedSimpArgs false
set_option linter.unusedVariables false
namespace Go.Proofs.YtkjlkbgdkdcboaaGreatDoor
open Go.RowKit Go.Maps Go.Shelf
theorem begB_put (ps : List Acre.Pc) (p : Acre.Pc) : begB (ps ++ [p]) = fun y => if y = p.1.1 then begB ps p.1.1 ++ [p.2] else begB ps y := by
  funext y
  rw [begB_snoc]
  by_cases h : y = p.1.1
  · subst h; simp
  · rw [if_neg (fun e => h e.symm), if_neg h]
theorem endB_put (ps : List Acre.Pc) (p : Acre.Pc) : endB (ps ++ [p]) = fun y => if y = p.1.2 then endB ps p.1.2 ++ [p.2] else endB ps y := by
  funext y
  rw [endB_snoc]
  by_cases h : y = p.1.2
  · subst h; simp
  · rw [if_neg (fun e => h e.symm), if_neg h]
theorem begB_le (ps : List Acre.Pc) (f : Acre.Fc) : (begB ps f).length ≤ ps.length := by unfold begB; rw [List.length_map]; exact List.length_filter_le _ _
theorem endB_le (ps : List Acre.Pc) (f : Acre.Fc) : (endB ps f).length ≤ ps.length := by unfold endB; rw [List.length_map]; exact List.length_filter_le _ _
theorem endsP_len (ps : List Acre.Pc) : (Acre.endsP ps).length = 2 * ps.length := by
  unfold Acre.endsP
  induction ps with
  | nil => rfl
  | cons a r ih => rw [List.flatMap_cons, List.length_append, ih, List.length_cons]; simp; omega
structure FpN (w : World) (N1 M1 M2 B1 B2 NB : Nat) : Prop where
  n1 : N1 = w.heap.size + 1
  m1 : M1 = w.heap.size + 2
  m2 : M2 = w.heap.size + 3
  b1 : B1 = w.heap.size + 4
  b2 : B2 = w.heap.size + 5
  nb : NB = w.heap.size + 6
structure TwoG (wr : World) (M1 M2 NB : Nat) (dB dE : List Acre.Pc) : Prop where
  gv : ∃ D S D2 S2, GV wr 38 kf WfF M1 dB.length NB 106 8 bandL D S (begB dB) ∧ GV wr 38 kf WfF M2 dE.length NB 106 8 bandL D2 S2 (endB dE) ∧ Parted S S2
structure FpI (w wr : World) (N1 M1 M2 B1 B2 NB : Nat) (pr : List Value) (cv : Value) (dB dE dC : List Acre.Pc) : Prop where
  bP : Box wr w.heap.size pr
  bA : Box wr N1 [.bool false]
  b1 : Box wr B1 [.map (some M1)]
  b2 : Box wr B2 [.map (some M2)]
  two : TwoG wr M1 M2 NB dB dE
  cut : wr.ownsRow NB 38 2 cv (Acre.endsP dC).length ((Acre.endsP dC).flatMap frL)
  bel : Below w.heap.size w wr
  big : NB ≤ wr.heap.size
section
variable {w wr : World} {N1 M1 M2 B1 B2 NB : Nat} {pr : List Value} {cv : Value} {dB dE dC : List Acre.Pc}
theorem FpI.later {V : World} (h : FpI w wr N1 M1 M2 B1 B2 NB pr cv dB dE dC) (hl : 0 < pr.length) (hb : Below wr.heap.size wr V) : FpI w V N1 M1 M2 B1 B2 NB pr cv dB dE dC := by
  obtain ⟨D, S, D2, S2, g1, g2, hp⟩ := h.two.gv
  exact ⟨h.bP.later hl hb, h.bA.later (by simp) hb, h.b1.later (by simp) hb, h.b2.later (by simp) hb, ⟨D, S, D2, S2, g1.later hb, g2.later hb, hp⟩, row_call h.cut hb, below_call hb h.bel, Nat.le_trans h.big hb.size⟩
theorem FpI.rest {V2 V3 V4 : World} {M : Nat} {v : Value} {k : Nat} {xs : List Value} (h : FpI w wr N1 M1 M2 B1 B2 NB pr cv dB dE dC) (hl : 0 < pr.length) (hN : FpN w N1 M1 M2 B1 B2 NB) (hM : M = M1 ∨ M = M2) (hrow : wr.ownsRow NB 106 8 v k xs)
    (hg2 : wr.grownBy V2 (some M)) (hg3 : V2.grownBy V3 v.ownBlock) (hg4 : V3.grownBy V4 (some M)) :
    (Box V4 w.heap.size pr ∧ Box V4 N1 [.bool false] ∧ Box V4 B1 [.map (some M1)] ∧ Box V4 B2 [.map (some M2)]) ∧ V4.ownsRow NB 38 2 cv (Acre.endsP dC).length ((Acre.endsP dC).flatMap frL) ∧ Below w.heap.size w V4 ∧ NB ≤ V4.heap.size := by
  obtain ⟨e1, e2, e3, e4, e5, e6⟩ := hN
  have hMb : w.heap.size + 2 ≤ M ∧ M ≤ w.heap.size + 3 := by rcases hM with rfl | rfl <;> omega
  have hv : ∀ c, v.ownBlock = some c → NB ≤ c := fun c e => (hrow.lt c e).1
  have bk : ∀ {n : Nat} {l : List Value}, Box wr n l → 0 < l.length → n < NB → n ≠ M → Box V4 n l := fun hb h0 hn hne =>
    ((hb.kept h0 hg2 (fun e => hne (Option.some.inj e).symm)).kept h0 hg3 (fun e => by have := hv _ e; omega)).kept h0 hg4 (fun e => hne (Option.some.inj e).symm)
  have hrow2 := hrow.kept hg2 (.inr (fun e => by have := hv _ e; omega))
  have c2 := h.cut.kept hg2 (.inr (fun e => by have := (h.cut.lt _ e).1; omega))
  have c3 := row_tag hg3 (RowTag.of_row hrow2) c2 (by simp)
  refine ⟨⟨bk h.bP hl (by omega) (by omega), bk h.bA (by simp) (by omega) (by omega), bk h.b1 (by simp) (by omega) (by omega), bk h.b2 (by simp) (by omega) (by omega)⟩, c3.kept hg4 (.inr (fun e => by have := (c3.lt _ e).1; omega)), ?_, ?_⟩
  · have b2 := h.bel.grown hg2 h.bel.size (fun c e => by cases e; omega)
    have b3 := b2.grown hg3 b2.size (fun c e => by have := hv _ e; omega)
    exact b3.grown hg4 b3.size (fun c e => by cases e; omega)
  · have := h.big
    have := hg2.size
    have := hg3.size
    have := hg4.size
    omega
theorem FpI.pushB {V2 V3 V4 : World} {v' : Value} {D D2 D' : DataW Value} {S S2 : Acre.Fc → Option Value} (h : FpI w wr N1 M1 M2 B1 B2 NB pr cv dB dE dC) (hl : 0 < pr.length) (hN : FpN w N1 M1 M2 B1 B2 NB)
    (g1 : GV wr 38 kf WfF M1 dB.length NB 106 8 bandL D S (begB dB)) (g2 : GV wr 38 kf WfF M2 dE.length NB 106 8 bandL D2 S2 (endB dE)) (hp : Parted S S2) (p : Acre.Pc)
    (hg2 : wr.grownBy V2 (some M1)) (hown : V3.ownsRow NB 106 8 v' ((begB dB p.1.1).length + 1) ((begB dB p.1.1).flatMap bandL ++ bandL p.2)) (hg3 : V2.grownBy V3 ((S p.1.1).getD (.slice none 0 0)).ownBlock)
    (hloc : v'.ownBlock = ((S p.1.1).getD (.slice none 0 0)).ownBlock ∨ ∃ g, v'.ownBlock = some g ∧ wr.heap.size ≤ g) (hmv : MV V4 38 kf WfF M1 (dB.length + 1) D' (upd S p.1.1 v')) (hg4 : V3.grownBy V4 (some M1)) :
    FpI w V4 N1 M1 M2 B1 B2 NB pr cv (dB ++ [p]) dE dC := by
  obtain ⟨⟨r1, r2, r3, r4⟩, r5, r6, r7⟩ := h.rest hl hN (.inl rfl) (g1.at' p.1.1) hg2 hg3 hg4
  have n1 := g1.push p.1.1 p.2 hg2 hown hg3 hloc hmv hg4
  rw [← begB_put] at n1
  obtain ⟨n2, np⟩ := g1.beside g2 hp (by have := hN.m1; have := hN.m2; omega) p.1.1 hg2 hg3 hloc hg4
  refine ⟨r1, r2, r3, r4, ⟨D', upd S p.1.1 v', D2, S2, ?_, n2, np⟩, r5, r6, r7⟩
  rw [List.length_append]
  exact n1
theorem FpI.pushE {V2 V3 V4 : World} {v' : Value} {D D2 D' : DataW Value} {S S2 : Acre.Fc → Option Value} (h : FpI w wr N1 M1 M2 B1 B2 NB pr cv dB dE dC) (hl : 0 < pr.length) (hN : FpN w N1 M1 M2 B1 B2 NB)
    (g1 : GV wr 38 kf WfF M1 dB.length NB 106 8 bandL D S (begB dB)) (g2 : GV wr 38 kf WfF M2 dE.length NB 106 8 bandL D2 S2 (endB dE)) (hp : Parted S S2) (p : Acre.Pc)
    (hg2 : wr.grownBy V2 (some M2)) (hown : V3.ownsRow NB 106 8 v' ((endB dE p.1.2).length + 1) ((endB dE p.1.2).flatMap bandL ++ bandL p.2)) (hg3 : V2.grownBy V3 ((S2 p.1.2).getD (.slice none 0 0)).ownBlock)
    (hloc : v'.ownBlock = ((S2 p.1.2).getD (.slice none 0 0)).ownBlock ∨ ∃ g, v'.ownBlock = some g ∧ wr.heap.size ≤ g) (hmv : MV V4 38 kf WfF M2 (dE.length + 1) D' (upd S2 p.1.2 v')) (hg4 : V3.grownBy V4 (some M2)) :
    FpI w V4 N1 M1 M2 B1 B2 NB pr cv dB (dE ++ [p]) dC := by
  obtain ⟨⟨r1, r2, r3, r4⟩, r5, r6, r7⟩ := h.rest hl hN (.inr rfl) (g2.at' p.1.2) hg2 hg3 hg4
  have n1 := g2.push p.1.2 p.2 hg2 hown hg3 hloc hmv hg4
  rw [← endB_put] at n1
  obtain ⟨n2, np⟩ := g2.beside g1 hp.symm (by have := hN.m1; have := hN.m2; omega) p.1.2 hg2 hg3 hloc hg4
  refine ⟨r1, r2, r3, r4, ⟨D, S, D', upd S2 p.1.2 v', n2, ?_, np.symm⟩, r5, r6, r7⟩
  rw [List.length_append]
  exact n1
theorem FpI.pushC {V : World} {cv' : Value} (h : FpI w wr N1 M1 M2 B1 B2 NB pr cv dB dE dC) (hl : 0 < pr.length) (hN : FpN w N1 M1 M2 B1 B2 NB) (p : Acre.Pc) (hg : wr.grownBy V cv.ownBlock) (hown : V.ownsRow NB 38 2 cv' ((Acre.endsP dC).length + 2) ((Acre.endsP dC).flatMap frL ++ (frL p.1.1 ++ frL p.1.2))) :
    FpI w V N1 M1 M2 B1 B2 NB pr cv' dB dE (dC ++ [p]) := by
  obtain ⟨e1, e2, e3, e4, e5, e6⟩ := hN
  have hv : ∀ c, cv.ownBlock = some c → NB ≤ c := fun c e => (h.cut.lt c e).1
  have bk : ∀ {n : Nat} {l : List Value}, Box wr n l → 0 < l.length → n < NB → Box V n l := fun hb h0 hn => hb.kept h0 hg (fun e => by have := hv _ e; omega)
  have ht := RowTag.of_row h.cut
  obtain ⟨D, S, D2, S2, g1, g2, hp⟩ := h.two.gv
  have gk : ∀ {M n : Nat} {D : DataW Value} {S : Acre.Fc → Option Value} {G : Acre.Fc → List (Acre.Ed × Acre.Ed)}, GV wr 38 kf WfF M n NB 106 8 bandL D S G → GV V 38 kf WfF M n NB 106 8 bandL D S G := fun g =>
    ⟨g.mv.grown hg (fun e => by have := hv _ e; have := g.low; omega), fun x v hx => ⟨row_tag hg ht (g.row x v hx).1 (by simp), (g.row x v hx).2⟩, g.nil, g.apart, g.low⟩
  refine ⟨bk h.bP hl (by omega), bk h.bA (by simp) (by omega), bk h.b1 (by simp) (by omega), bk h.b2 (by simp) (by omega), ⟨D, S, D2, S2, gk g1, gk g2, hp⟩, ?_, h.bel.grown hg h.bel.size (fun c e => by have := hv _ e; omega), Nat.le_trans h.big hg.size⟩
  have e : Acre.endsP (dC ++ [p]) = Acre.endsP dC ++ [p.1.1, p.1.2] := by unfold Acre.endsP; rw [List.flatMap_append]; rfl
  rw [e, List.length_append, List.flatMap_append]
  simpa using hown
end
end Go.Proofs.YtkjlkbgdkdcboaaGreatDoor
namespace Go.Proofs.YtkjlkbgdkdcboaaGreatDoor
open Go.RowKit Go.Maps Go.Shelf
structure FqI (w W : World) (N1 M1 M2 B1 B2 NB tb : Nat) (ps : List Acre.Pc) (T : Bd → Option Int) (n : Nat) : Prop where
  bA : Box W N1 [.bool false]
  b1 : Box W B1 [.map (some M1)]
  b2 : Box W B2 [.map (some M2)]
  bT : Box W (tb + 1) [.map (some tb)]
  g1 : ∃ D S, GV W 38 kf WfF M1 ps.length NB 106 8 bandL D S (begB ps)
  g2 : ∃ D S, GV W 38 kf WfF M2 ps.length NB 106 8 bandL D S (endB ps)
  tim : ∃ D, MV W 106 keB WfB tb n D (fun b => (T b).map (fun k => .int .i64 k))
  bel : Below w.heap.size w W
structure FqN (w : World) (N1 M1 M2 B1 B2 NB tb : Nat) : Prop where
  n : FpN w N1 M1 M2 B1 B2 NB
  t : NB ≤ tb
section
variable {w W V : World} {N1 M1 M2 B1 B2 NB tb : Nat} {ps : List Acre.Pc} {T : Bd → Option Int} {n : Nat}
theorem FqI.later (h : FqI w W N1 M1 M2 B1 B2 NB tb ps T n) (hb : Below W.heap.size W V) : FqI w V N1 M1 M2 B1 B2 NB tb ps T n := by
  obtain ⟨D, S, g1⟩ := h.g1
  obtain ⟨D2, S2, g2⟩ := h.g2
  obtain ⟨D3, m⟩ := h.tim
  exact ⟨h.bA.later (by simp) hb, h.b1.later (by simp) hb, h.b2.later (by simp) hb, h.bT.later (by simp) hb, ⟨D, S, g1.later hb⟩, ⟨D2, S2, g2.later hb⟩, ⟨D3, m.later hb⟩, below_call hb h.bel⟩
theorem GV.turn {M : Nat} {D : DataW Value} {S : Acre.Fc → Option Value} {G : Acre.Fc → List Bd} {k : Nat} {row : Option Nat} (g : GV W 38 kf WfF M k NB 106 8 bandL D S G) (hg : W.grownBy V row) (hr : ∀ r, row = some r → ∃ o : Obj, W.heap[r]? = some o ∧ o.isCells = false) (hM : row ≠ some M) : GV V 38 kf WfF M k NB 106 8 bandL D S G :=
  ⟨g.mv.grown hg hM, fun x v hx => ⟨row_turn (g.row x v hx).1 hg hr, (g.row x v hx).2⟩, g.nil, g.apart, g.low⟩
theorem box_turn {n : Nat} {l : List Value} {row : Option Nat} (h : Box W n l) (hl : 0 < l.length) (hg : W.grownBy V row) (hr : ∀ r, row = some r → ∃ o : Obj, W.heap[r]? = some o ∧ o.isCells = false) : Box V n l := by
  refine h.kept hl hg (fun e => ?_)
  obtain ⟨o, ho, hc⟩ := hr n e
  have := h.c 0 l[0] (by simp)
  cases o <;> simp [Obj.isCells] at hc <;> simp [World.cell?, ho] at this
theorem FqI.own {B : Nat} {row : Option Nat} (hB : tb + 2 ≤ B) (hN : FqN w N1 M1 M2 B1 B2 NB tb) (h : FqI w W N1 M1 M2 B1 B2 NB tb ps T n) (hg : W.grownBy V row) (hr : ∀ r, row = some r → B ≤ r ∧ ∃ o : Obj, W.heap[r]? = some o ∧ o.isCells = false) : FqI w V N1 M1 M2 B1 B2 NB tb ps T n := by
  have hr2 : ∀ r, row = some r → ∃ o : Obj, W.heap[r]? = some o ∧ o.isCells = false := fun r e => (hr r e).2
  have hn := hN.n
  have ht := hN.t
  have ne : ∀ k, k < B → row ≠ some k := fun k hk e => by have := (hr k e).1; omega
  obtain ⟨D, S, g1⟩ := h.g1
  obtain ⟨D2, S2, g2⟩ := h.g2
  obtain ⟨D3, m⟩ := h.tim
  obtain ⟨e1, e2, e3, e4, e5, e6⟩ := hn
  exact ⟨box_turn h.bA (by simp) hg hr2, box_turn h.b1 (by simp) hg hr2, box_turn h.b2 (by simp) hg hr2, box_turn h.bT (by simp) hg hr2, ⟨D, S, g1.turn hg hr2 (ne _ (by omega))⟩, ⟨D2, S2, g2.turn hg hr2 (ne _ (by omega))⟩, ⟨D3, m.grown hg (ne _ (by omega))⟩, h.bel.grown hg h.bel.size (fun c hc => by have := (hr c hc).1; omega)⟩
theorem FqI.turn {T' : Bd → Option Int} {n' : Nat} {D' : DataW Value} (hN : FqN w N1 M1 M2 B1 B2 NB tb) (h : FqI w W N1 M1 M2 B1 B2 NB tb ps T n) (hg : W.grownBy V (some tb)) (hm : MV V 106 keB WfB tb n' D' (fun b => (T' b).map (fun k => .int .i64 k))) : FqI w V N1 M1 M2 B1 B2 NB tb ps T' n' := by
  obtain ⟨D, S, g1⟩ := h.g1
  obtain ⟨D2, S2, g2⟩ := h.g2
  obtain ⟨D3, m⟩ := h.tim
  have hr : ∀ r, some tb = some r → ∃ o : Obj, W.heap[r]? = some o ∧ o.isCells = false := fun r e => by
    cases e
    obtain ⟨es, clock, hb, _⟩ := m.own
    exact ⟨_, hb, rfl⟩
  have ht := hN.t
  obtain ⟨e1, e2, e3, e4, e5, e6⟩ := hN.n
  exact ⟨box_turn h.bA (by simp) hg hr, box_turn h.b1 (by simp) hg hr, box_turn h.b2 (by simp) hg hr, box_turn h.bT (by simp) hg hr, ⟨D, S, g1.turn hg hr (by simp; omega)⟩, ⟨D2, S2, g2.turn hg hr (by simp; omega)⟩, ⟨D', hm⟩, h.bel.grown hg h.bel.size (fun c e => by cases e; omega)⟩
end
structure Besides (tb : Nat) (W V : World) : Prop where
  size : W.heap.size ≤ V.heap.size
  same : ∀ k, k ≠ tb → k < W.heap.size → V.heap[k]? = W.heap[k]?
theorem Besides.refl (tb : Nat) (W : World) : Besides tb W W := ⟨Nat.le_refl _, fun _ _ _ => rfl⟩
theorem Besides.trans {tb : Nat} {A B C : World} (h : Besides tb A B) (k : Besides tb B C) : Besides tb A C := ⟨Nat.le_trans h.size k.size, fun i hi hl => (k.same i hi (Nat.lt_of_lt_of_le hl h.size)).trans (h.same i hi hl)⟩
theorem Besides.below {tb : Nat} {A B : World} (h : Below A.heap.size A B) : Besides tb A B := ⟨h.size, fun k _ hl => h.block k hl⟩
theorem Besides.grown {tb : Nat} {A B : World} (h : A.grownBy B (some tb)) : Besides tb A B := ⟨h.size, fun k hk hl => h.block k hl (fun e => hk (Option.some.inj e))⟩
theorem Besides.box {tb n : Nat} {A B : World} {l : List Value} (h : Besides tb A B) (hb : Box A n l) (hl : 0 < l.length) (hn : n ≠ tb) : Box B n l := hb.block (h.same n hn (hb.lt hl))
theorem Besides.row {tb base size k : Nat} {e : TypeId} {v : Value} {xs : List Value} {A B : World} (h : Besides tb A B) (hr : A.ownsRow base e size v k xs) (hb : ∀ c, v.ownBlock = some c → c ≠ tb) : B.ownsRow base e size v k xs := by
  refine ⟨hr.1, ?_⟩
  rcases hr.2 with h' | ⟨g, cap, cur, h1, h2, h3, h4⟩
  · exact .inl h'
  · have hg : v.ownBlock = some g := by rw [h1]; rfl
    exact .inr ⟨g, cap, cur, h1, h2, (h.same g (hb g hg) (hr.lt g hg).2).trans h3, h4⟩
theorem Besides.slab {tb n₀ : Nat} {A B : World} {E : List Acre.Ed} {kk : Nat} {op : Int} {f t : Acre.Fc} {lv : Value} {rb : Nat} (h : Besides tb A B) (hs : SlabV n₀ A E kk op f t lv rb) (hn : tb < n₀) : SlabV n₀ B E kk op f t lv rb := by
  obtain ⟨m, D, hD⟩ := hs.mv
  have := hs.lo
  exact ⟨h.row hs.row (fun c e => by have := (hs.row.lt c e).1; omega), hs.lo, m, D, hD.same (h.same rb (by omega) hD.lt)⟩
theorem Besides.from {tb B : Nat} {W V : World} (h : Besides tb W V) (hB : tb < B) : KeepsFrom B W V := ⟨h.size, fun k o hk ho _ => (h.same k (by omega) (Array.getElem?_eq_some_iff.1 ho).1).trans ho⟩
theorem Besides.keep {tb : Nat} {W V : World} {X : Nat → Prop} (h : Besides tb W V) (hX : ∀ k, X k → k ≠ tb) : KeepIt X W V := ⟨h.size, fun k hx hl => h.same k (hX k hx) hl⟩
theorem upd_addB (T : Bd → Option Int) (b : Bd) (d : Int) : upd (fun c => (T c).map (fun k => Value.int .i64 k)) b (.int .i64 ((T b).getD 0 + d)) = fun c => (addB d T b c).map (fun k => .int .i64 k) := by
  funext c
  unfold upd addB
  by_cases h : c = b
  · simp [h]
  · simp [h]
theorem getD_map (T : Bd → Option Int) (b : Bd) : ((T b).map (fun k => Value.int .i64 k)).getD (.int .i64 0) = .int .i64 ((T b).getD 0) := by
  cases T b <;> rfl
section
open Go.WideElems Go.ChangeMaps
variable {κ : Type} {kt : TypeId} {kv : κ → Value} {key : κ → Lit} {ok : κ → Prop} {w : World} {t e : TypeId} {b n : Nat} {D : DataW Value} {m : κ → Option Value}
theorem MV.entryLook [DecidableEq κ] (h : MV w kt key ok b n D m) (K : KT kt kv key ok) (ht : Tryz.prog.underlying t = some (.map kt e)) (hn : n < maxLen) {z : Value} (hz : ∀ u : World, (zeroValue e).run Tryz.prog u = .ok z u) {x : κ} (hx : ok x) {r : Value} {w2 : World}
    (hme : (Instr.mapEntry t (.map (some b)) (kv x)).run Tryz.prog w = .ok r w2) : (Instr.lookup t (.map (some b)) (kv x) false).run Tryz.prog w2 = .ok ((m x).getD z) w2 := by
  have hl := h.lookup K ht (hz w) hx
  obtain ⟨es, clock, hb, F, hs, hD⟩ := id h.own
  rcases K.law.find w (K.reads x hx) es.toList (fun y hy => by obtain ⟨q, hq⟩ := F.reads y hy; exact ⟨_, rd_key hq⟩) with ⟨h1, h2⟩ | ⟨j, e0, h1, h2, h3⟩
  · have h4 : (Instr.lookup t (.map (some b)) (kv x) false).run Tryz.prog w = .ok z w := by
      simp [Instr.lookup, run_underlying ht, MapKept.run_getObj_map hb, K.law.check w es.isEmpty (K.reads x hx), h1, hz, Result.andThen]
    rw [hl] at h4
    simp only [Result.ok.injEq, and_true] at h4
    have hmm : (Instr.mapEntry t (.map (some b)) (kv x)).run Tryz.prog w = .ok (.tuple #[z, goInt clock]) (setBlock w b (.map (es.push ⟨kv x, z, clock⟩) (clock + 1))) := by
      simp [Instr.mapEntry, run_underlying ht, MapKept.run_getObj_map hb, K.law.check w false (K.reads x hx), h1, hz, MapKept.run_setObj_map _ hb, Result.andThen, setBlock]
    have hup : (Instr.mapUpdate t (.map (some b)) (kv x) z).run Tryz.prog w = .ok () (setBlock w b (.map (es.push ⟨kv x, z, clock⟩) (clock + 1))) := by
      simp [Instr.mapUpdate, run_underlying ht, MapKept.run_getObj_map hb, K.law.check w false (K.reads x hx), h1, MapKept.run_setObj_map _ hb, Result.andThen, setBlock]
    obtain ⟨w', u1, u2, u3⟩ := h.update K ht hn hx z
    rw [hup] at u1
    simp only [Result.ok.injEq, true_and] at u1
    rw [hmm] at hme
    simp only [Result.ok.injEq] at hme
    have := u2.lookup K ht (hz w') hx
    rw [← u1, hme.2] at this
    rw [this, h4]
    simp [upd]
  · have hj : es[j]? = some e0 := by simpa using h2
    have hsame : es.modify j (fun e => { e with key := kv x }) = es := by
      apply Array.ext'
      rw [Array.toList_modify, modify_eq_set _ _ _ _ h2]
      have : ({ e0 with key := kv x } : MapEntry) = e0 := by rw [← h3]
      rw [this]
      exact set_self _ _ _ h2
    have hmm : (Instr.mapEntry t (.map (some b)) (kv x)).run Tryz.prog w = .ok (.tuple #[e0.val, goInt e0.born]) (setBlock w b (.map (es.modify j (fun e => { e with key := kv x })) clock)) := by
      simp [Instr.mapEntry, run_underlying ht, MapKept.run_getObj_map hb, K.law.check w false (K.reads x hx), h1, hj, h3, K.law.stays w (K.reads x hx), MapKept.run_setObj_map _ hb, Result.andThen, setBlock]
    rw [hmm, hsame] at hme
    simp only [Result.ok.injEq] at hme
    have hsb : (setBlock w b (.map es clock)).heap[b]? = w.heap[b]? := (heap_setBlock_same hb _).trans hb.symm
    have := (h.same hsb).lookup K ht (hz _) hx
    rw [← hme.2]
    exact this
end
end Go.Proofs.YtkjlkbgdkdcboaaGreatDoor
namespace Go.Proofs.YtkjlkbgdkdcboaaGreatDoor
open Go.RowKit Go.Maps Go.Shelf
attribute [local go_sem] Oper.semAt_some
set_option maxRecDepth 100000 in
set_option maxHeartbeats 6000000 in
theorem reg17 {ps : String} (l n : Nat) (WP w3 w4 : World) (C tb st : Nat) (l0 l1 l2 l3 h0 h1 h2 h3 X : Int) (hX : -100000 ≤ X ∧ X ≤ 100000) (vT : WP.cell? ⟨tb + 1, 0, none⟩ = some (.map (some tb))) (r0 : WP.cell? ⟨C, 0, none⟩ = some (.int .i64 l0)) (r1 : WP.cell? ⟨C, 1, none⟩ = some (.int .i64 l1)) (r2 : WP.cell? ⟨C, 2, none⟩ = some (.int .i64 l2)) (r3 : WP.cell? ⟨C, 3, none⟩ = some (.int .i64 l3)) (r4 : WP.cell? ⟨C, 4, none⟩ = some (.int .i64 h0)) (r5 : WP.cell? ⟨C, 5, none⟩ = some (.int .i64 h1)) (r6 : WP.cell? ⟨C, 6, none⟩ = some (.int .i64 h2)) (r7 : WP.cell? ⟨C, 7, none⟩ = some (.int .i64 h3))
    (hlk : (Instr.lookup 99 (.map (some tb)) (.agg #[.int .i64 l0, .int .i64 l1, .int .i64 l2, .int .i64 l3, .int .i64 h0, .int .i64 h1, .int .i64 h2, .int .i64 h3]) false).run Tryz.prog WP.drew = .ok (.int .i64 X) WP.drew) (hlk3 : (Instr.lookup 99 (.map (some tb)) (.agg #[.int .i64 l0, .int .i64 l1, .int .i64 l2, .int .i64 l3, .int .i64 h0, .int .i64 h1, .int .i64 h2, .int .i64 h3]) false).run Tryz.prog w3 = .ok (.int .i64 X) w3) (hme : (Instr.mapEntry 99 (.map (some tb)) (.agg #[.int .i64 l0, .int .i64 l1, .int .i64 l2, .int .i64 l3, .int .i64 h0, .int .i64 h1, .int .i64 h2, .int .i64 h3])).run Tryz.prog WP.drew = .ok (.tuple #[.int .i64 X, .int .i64 st]) w3) (hen : (Instr.entryStore 99 (.map (some tb)) (.int .i64 st) (.int .i64 (X + 1))).run Tryz.prog w3 = .ok () w4)
    (x0 x1 x2 x3 x4 x5 x6 x7 x8 x9 x10 x12 x13 x15 x16 x17 x18 x19 x20 x21 x22 x23 x24 x25 x26 x27 x28 x29 x30 x31 x32 x33 x34 x35 x36 x37 x38 x39 x40 x41 x42 x43 x44 x45 x46 x47 x48 x49 x50 x51 x52 x53 x54 x55 x56 x57 x58 x59 x60 x61 x62 x63 x64 x65 x66 x67 x68 x69 x70 x71 x72 x73 x74 x75 x76 x77 x78 x79 x80 x81 x82 x83 x84 x85 x86 x87 x88 x89 x90 x91 x92 x93 x94 x95 x96 : Value) :
    Code.wpIn (Fence.wide.inRound l) n Tryz.prog (Code.region 17 #[{ dst := some 70, op := Op.load 99 (Operand.tmp 11), type := 99, pos := ps, after := #[], guard := none }, { dst := some 71, op := Op.load 106 (Operand.tmp 14), type := 106, pos := ps, after := #[], guard := none }, { dst := some 72, op := Op.lookup 99 (Operand.tmp 70) (Operand.tmp 71) false, type := 3, pos := ps, after := #[{ on := 0, ground := Ground.data }, { on := 1, ground := Ground.data }], guard := none }, { dst := some 73, op := Op.binOp BinOp.add 3 (Operand.tmp 72) (Operand.const (Value.int IntKind.i64 1)) 3, type := 3, pos := ps, after := #[{ on := 2, ground := Ground.data }], guard := none }, { dst := some 74, op := Op.mapEntry 99 (Operand.tmp 70) (Operand.tmp 71), type := 0, pos := ps, after := #[{ on := 0, ground := Ground.data }, { on := 1, ground := Ground.data }, { on := 0, ground := Ground.phase }, { on := 1, ground := Ground.phase }, { on := 2, ground := Ground.textOnly Departure.mapOpAssignEntry }, { on := 3, ground := Ground.textOnly Departure.mapOpAssignEntry }], guard := none }, { dst := some 75, op := Op.extract (Operand.tmp 74) 1, type := 3, pos := ps, after := #[{ on := 4, ground := Ground.data }], guard := none }, { dst := none, op := Op.entryStore 99 (Operand.tmp 70) (Operand.tmp 75) (Operand.tmp 73), type := 0, pos := ps, after := #[{ on := 0, ground := Ground.data }, { on := 5, ground := Ground.data }, { on := 3, ground := Ground.data }, { on := 4, ground := Ground.chain }, { on := 0, ground := Ground.phase }, { on := 1, ground := Ground.phase }, { on := 2, ground := Ground.phase }, { on := 3, ground := Ground.phase }, { on := 4, ground := Ground.phase }, { on := 5, ground := Ground.phase }], guard := none }] true)
      (fun e a W' => e = .normal ∧ W' = w4 ∧ ∃ y0 y1 y2 y3 y4 y5, a = { tmps := #[x0, x1, x2, x3, x4, x5, x6, x7, x8, x9, x10, .pointer (some ⟨tb + 1, 0, none⟩), x12, x13, .pointer (some ⟨C, 0, none⟩), x15, x16, x17, x18, x19, x20, x21, x22, x23, x24, x25, x26, x27, x28, x29, x30, x31, x32, x33, x34, x35, x36, x37, x38, x39, x40, x41, x42, x43, x44, x45, x46, x47, x48, x49, x50, x51, x52, x53, x54, x55, x56, x57, x58, x59, x60, x61, x62, x63, x64, x65, x66, x67, x68, x69, y0, y1, y2, y3, y4, y5, x76, x77, x78, x79, x80, x81, x82, x83, x84, x85, x86, x87, x88, x89, x90, x91, x92, x93, x94, x95, x96], defers := [] })
      { tmps := #[x0, x1, x2, x3, x4, x5, x6, x7, x8, x9, x10, .pointer (some ⟨tb + 1, 0, none⟩), x12, x13, .pointer (some ⟨C, 0, none⟩), x15, x16, x17, x18, x19, x20, x21, x22, x23, x24, x25, x26, x27, x28, x29, x30, x31, x32, x33, x34, x35, x36, x37, x38, x39, x40, x41, x42, x43, x44, x45, x46, x47, x48, x49, x50, x51, x52, x53, x54, x55, x56, x57, x58, x59, x60, x61, x62, x63, x64, x65, x66, x67, x68, x69, x70, x71, x72, x73, x74, x75, x76, x77, x78, x79, x80, x81, x82, x83, x84, x85, x86, x87, x88, x89, x90, x91, x92, x93, x94, x95, x96], defers := [] } WP := by
  have hw1 : IntKind.i64.wrap (X + 1) = X + 1 := wrap_in _ (by omega)
  gi_region
  all_goals exact ⟨rfl, rfl, _, _, _, _, _, _, rfl⟩
set_option maxRecDepth 100000 in
set_option maxHeartbeats 6000000 in
theorem reg22 {ps : String} (l n : Nat) (WP w3 w4 : World) (C tb st : Nat) (l0 l1 l2 l3 h0 h1 h2 h3 X : Int) (hX : -100000 ≤ X ∧ X ≤ 100000) (vT : WP.cell? ⟨tb + 1, 0, none⟩ = some (.map (some tb))) (r0 : WP.cell? ⟨C, 0, none⟩ = some (.int .i64 l0)) (r1 : WP.cell? ⟨C, 1, none⟩ = some (.int .i64 l1)) (r2 : WP.cell? ⟨C, 2, none⟩ = some (.int .i64 l2)) (r3 : WP.cell? ⟨C, 3, none⟩ = some (.int .i64 l3)) (r4 : WP.cell? ⟨C, 4, none⟩ = some (.int .i64 h0)) (r5 : WP.cell? ⟨C, 5, none⟩ = some (.int .i64 h1)) (r6 : WP.cell? ⟨C, 6, none⟩ = some (.int .i64 h2)) (r7 : WP.cell? ⟨C, 7, none⟩ = some (.int .i64 h3))
    (hlk : (Instr.lookup 99 (.map (some tb)) (.agg #[.int .i64 l0, .int .i64 l1, .int .i64 l2, .int .i64 l3, .int .i64 h0, .int .i64 h1, .int .i64 h2, .int .i64 h3]) false).run Tryz.prog WP.drew = .ok (.int .i64 X) WP.drew) (hlk3 : (Instr.lookup 99 (.map (some tb)) (.agg #[.int .i64 l0, .int .i64 l1, .int .i64 l2, .int .i64 l3, .int .i64 h0, .int .i64 h1, .int .i64 h2, .int .i64 h3]) false).run Tryz.prog w3 = .ok (.int .i64 X) w3) (hme : (Instr.mapEntry 99 (.map (some tb)) (.agg #[.int .i64 l0, .int .i64 l1, .int .i64 l2, .int .i64 l3, .int .i64 h0, .int .i64 h1, .int .i64 h2, .int .i64 h3])).run Tryz.prog WP.drew = .ok (.tuple #[.int .i64 X, .int .i64 st]) w3) (hen : (Instr.entryStore 99 (.map (some tb)) (.int .i64 st) (.int .i64 (X - 1))).run Tryz.prog w3 = .ok () w4)
    (x0 x1 x2 x3 x4 x5 x6 x7 x8 x9 x10 x12 x13 x14 x15 x17 x18 x19 x20 x21 x22 x23 x24 x25 x26 x27 x28 x29 x30 x31 x32 x33 x34 x35 x36 x37 x38 x39 x40 x41 x42 x43 x44 x45 x46 x47 x48 x49 x50 x51 x52 x53 x54 x55 x56 x57 x58 x59 x60 x61 x62 x63 x64 x65 x66 x67 x68 x69 x70 x71 x72 x73 x74 x75 x76 x77 x78 x79 x80 x81 x82 x83 x84 x85 x86 x87 x88 x89 x90 x91 x92 x93 x94 x95 x96 : Value) :
    Code.wpIn (Fence.wide.inRound l) n Tryz.prog (Code.region 22 #[{ dst := some 86, op := Op.load 99 (Operand.tmp 11), type := 99, pos := ps, after := #[], guard := none }, { dst := some 87, op := Op.load 106 (Operand.tmp 16), type := 106, pos := ps, after := #[], guard := none }, { dst := some 88, op := Op.lookup 99 (Operand.tmp 86) (Operand.tmp 87) false, type := 3, pos := ps, after := #[{ on := 0, ground := Ground.data }, { on := 1, ground := Ground.data }], guard := none }, { dst := some 89, op := Op.binOp BinOp.sub 3 (Operand.tmp 88) (Operand.const (Value.int IntKind.i64 1)) 3, type := 3, pos := ps, after := #[{ on := 2, ground := Ground.data }], guard := none }, { dst := some 90, op := Op.mapEntry 99 (Operand.tmp 86) (Operand.tmp 87), type := 0, pos := ps, after := #[{ on := 0, ground := Ground.data }, { on := 1, ground := Ground.data }, { on := 0, ground := Ground.phase }, { on := 1, ground := Ground.phase }, { on := 2, ground := Ground.textOnly Departure.mapOpAssignEntry }, { on := 3, ground := Ground.textOnly Departure.mapOpAssignEntry }], guard := none }, { dst := some 91, op := Op.extract (Operand.tmp 90) 1, type := 3, pos := ps, after := #[{ on := 4, ground := Ground.data }], guard := none }, { dst := none, op := Op.entryStore 99 (Operand.tmp 86) (Operand.tmp 91) (Operand.tmp 89), type := 0, pos := ps, after := #[{ on := 0, ground := Ground.data }, { on := 5, ground := Ground.data }, { on := 3, ground := Ground.data }, { on := 4, ground := Ground.chain }, { on := 0, ground := Ground.phase }, { on := 1, ground := Ground.phase }, { on := 2, ground := Ground.phase }, { on := 3, ground := Ground.phase }, { on := 4, ground := Ground.phase }, { on := 5, ground := Ground.phase }], guard := none }] true)
      (fun e a W' => e = .normal ∧ W' = w4 ∧ ∃ y0 y1 y2 y3 y4 y5, a = { tmps := #[x0, x1, x2, x3, x4, x5, x6, x7, x8, x9, x10, .pointer (some ⟨tb + 1, 0, none⟩), x12, x13, x14, x15, .pointer (some ⟨C, 0, none⟩), x17, x18, x19, x20, x21, x22, x23, x24, x25, x26, x27, x28, x29, x30, x31, x32, x33, x34, x35, x36, x37, x38, x39, x40, x41, x42, x43, x44, x45, x46, x47, x48, x49, x50, x51, x52, x53, x54, x55, x56, x57, x58, x59, x60, x61, x62, x63, x64, x65, x66, x67, x68, x69, x70, x71, x72, x73, x74, x75, x76, x77, x78, x79, x80, x81, x82, x83, x84, x85, y0, y1, y2, y3, y4, y5, x92, x93, x94, x95, x96], defers := [] })
      { tmps := #[x0, x1, x2, x3, x4, x5, x6, x7, x8, x9, x10, .pointer (some ⟨tb + 1, 0, none⟩), x12, x13, x14, x15, .pointer (some ⟨C, 0, none⟩), x17, x18, x19, x20, x21, x22, x23, x24, x25, x26, x27, x28, x29, x30, x31, x32, x33, x34, x35, x36, x37, x38, x39, x40, x41, x42, x43, x44, x45, x46, x47, x48, x49, x50, x51, x52, x53, x54, x55, x56, x57, x58, x59, x60, x61, x62, x63, x64, x65, x66, x67, x68, x69, x70, x71, x72, x73, x74, x75, x76, x77, x78, x79, x80, x81, x82, x83, x84, x85, x86, x87, x88, x89, x90, x91, x92, x93, x94, x95, x96], defers := [] } WP := by
  have hw1 : IntKind.i64.wrap (X - 1) = X - 1 := wrap_in _ (by omega)
  gi_region
  all_goals exact ⟨rfl, rfl, _, _, _, _, _, _, rfl⟩
end Go.Proofs.YtkjlkbgdkdcboaaGreatDoor
