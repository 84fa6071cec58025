import Derived.Test.YtkjlkbgdkdcboaaGreatDoorCutsOf

set_option linter.unusedSimpArgs false
set_option linter.unusedVariables false

set_option linter.unusedSimpArgs false
set_option linter.unusedVariables false
namespace Go.Proofs.YtkjlkbgdkdcboaaGreatDoor
open Go.RowKit Go.Maps
structure GV {κ α : Type} (w : World) (kt : TypeId) (key : κ → Lit) (ok : κ → Prop) (b n base : Nat) (et : TypeId) (size : Nat) (f : α → List Value) (D : DataW Value) (S : κ → Option Value) (G : κ → List α) : Prop where
  mv : MV w kt key ok b n D S
  row : ∀ x v, S x = some v → w.ownsRow base et size v (G x).length ((G x).flatMap f) ∧ G x ≠ []
  nil : ∀ x, S x = none → G x = []
  apart : ∀ x y vx vy, S x = some vx → S y = some vy → x ≠ y → vx.ownBlock ≠ vy.ownBlock
  low : b < base
section
variable {κ α : Type} {kt : TypeId} {kv : κ → Value} {key : κ → Lit} {ok : κ → Prop} {w : World} {t e et : TypeId} {b n base size : Nat} {f : α → List Value} {D : DataW Value} {S : κ → Option Value} {G : κ → List α}
theorem GV.at' (h : GV w kt key ok b n base et size f D S G) (x : κ) : w.ownsRow base et size ((S x).getD (.slice none 0 0)) (G x).length ((G x).flatMap f) := by
  cases hs : S x with
  | none => rw [h.nil x hs]; exact World.ownsRow_nil _ _ _ _
  | some v => exact (h.row x v hs).1
theorem GV.same {w' : World} (h : GV w kt key ok b n base et size f D S G) (hb : ∀ k, k < w.heap.size → w'.heap[k]? = w.heap[k]?) (hg : w.grownBy w' none) : GV w' kt key ok b n base et size f D S G :=
  ⟨h.mv.same (hb b h.mv.lt), fun x v hx => ⟨(h.row x v hx).1.kept hg (by cases v.ownBlock <;> simp), (h.row x v hx).2⟩, h.nil, h.apart, h.low⟩
theorem GV.later {w' : World} (h : GV w kt key ok b n base et size f D S G) (hb : Below w.heap.size w w') : GV w' kt key ok b n base et size f D S G :=
  h.same (fun k hk => hb.block k hk) ⟨hb.os, hb.tape, hb.output, hb.size, fun i hi _ => hb.block i hi⟩
theorem GV.push [DecidableEq κ] (h : GV w kt key ok b n base et size f D S G) (x : κ) (a : α) {w2 w3 w4 : World} {v' : Value} {D' : DataW Value} {n' : Nat} (hg2 : w.grownBy w2 (some b)) (hown' : w3.ownsRow base et size v' ((G x).length + 1) ((G x).flatMap f ++ f a))
    (hg3 : w2.grownBy w3 ((S x).getD (.slice none 0 0)).ownBlock) (hloc : v'.ownBlock = ((S x).getD (.slice none 0 0)).ownBlock ∨ ∃ g, v'.ownBlock = some g ∧ w.heap.size ≤ g) (hmv : MV w4 kt key ok b n' D' (upd S x v')) (hg4 : w3.grownBy w4 (some b)) :
    GV w4 kt key ok b n' base et size f D' (upd S x v') (fun y => if y = x then G x ++ [a] else G y) := by
  have hlo := h.low
  have nb : ∀ {W : World} {v : Value} {k : Nat} {xs : List Value}, W.ownsRow base et size v k xs → v.ownBlock ≠ some b := fun hr e => by have := (hr.lt b e).1; omega
  have hv' : ∀ y vy, y ≠ x → S y = some vy → v'.ownBlock ≠ vy.ownBlock := by
    intro y vy hy hs
    have hr := (h.row y vy hs)
    obtain ⟨g, cap, rfl⟩ : ∃ g cap, vy = .slice (some ⟨g, 0, none⟩) (G y).length cap := by
      rcases hr.1.2 with ⟨_, h0⟩ | ⟨g, cap, _, e, _⟩
      · exact absurd (List.length_eq_zero_iff.1 h0) hr.2
      · exact ⟨g, cap, e⟩
    rcases hloc with hl | ⟨g', hl, hge⟩
    · rw [hl]
      cases hsx : S x with
      | none => simp [Value.ownBlock]
      | some vx => exact h.apart x y vx _ hsx hs (fun e => hy e.symm)
    · rw [hl]
      intro e'
      have := (hr.1.lt g' e'.symm).2
      omega
  refine ⟨hmv, ?_, ?_, ?_, hlo⟩
  · intro y vy hy
    by_cases e : y = x
    · subst e
      simp only [upd, if_true, Option.some.injEq] at hy
      subst hy
      refine ⟨?_, by simp⟩
      simp only [if_true]
      rw [List.length_append, List.flatMap_append]
      simpa using hown'.kept hg4 (.inr (nb hown'))
    · simp only [upd, e, if_false] at hy
      obtain ⟨r1, r2⟩ := h.row y vy hy
      have r3 := r1.kept hg2 (.inr (nb r1))
      have hne : vy.ownBlock ≠ ((S x).getD (.slice none 0 0)).ownBlock ∨ vy.ownBlock = none := by
        cases hsx : S x with
        | none =>
          left
          rcases r1.2 with ⟨_, h0⟩ | ⟨g, cap, _, e', _⟩
          · exact absurd (List.length_eq_zero_iff.1 h0) r2
          · rw [e']; simp [Value.ownBlock]
        | some vx => exact .inl (fun e' => h.apart x y vx vy hsx hy (fun q => e q.symm) e'.symm)
      have r4 := r3.kept hg3 (hne.symm.imp id id)
      have r5 := r4.kept hg4 (.inr (nb r4))
      simp only [e, if_false]
      exact ⟨r5, r2⟩
  · intro y hy
    by_cases e : y = x
    · subst e; simp [upd] at hy
    · simp only [upd, e, if_false] at hy ⊢
      exact h.nil y hy
  · intro y z vy vz hy hz hne
    by_cases e : y = x
    · subst e
      have e2 : z ≠ y := fun q => hne q.symm
      simp only [upd, if_true, Option.some.injEq] at hy
      simp only [upd, e2, if_false] at hz
      subst hy
      exact hv' z vz e2 hz
    · simp only [upd, e, if_false] at hy
      by_cases e2 : z = x
      · subst e2
        simp only [upd, if_true, Option.some.injEq] at hz
        subst hz
        exact fun q => hv' y vy e hy q.symm
      · simp only [upd, e2, if_false] at hz
        exact h.apart y z vy vz hy hz hne
end
end Go.Proofs.YtkjlkbgdkdcboaaGreatDoor
namespace Go.Proofs.YtkjlkbgdkdcboaaGreatDoor
open Go.RowKit Go.Maps
section
variable {κ α : Type} {kt : TypeId} {key : κ → Lit} {ok : κ → Prop} {w : World} {et : TypeId} {b b2 n n2 base size : Nat} {f : α → List Value} {D D2 : DataW Value} {S S2 : κ → Option Value} {G G2 : κ → List α}
theorem GV.aside {w' : World} {r : Option Nat} (h : GV w kt key ok b n base et size f D S G) (hg : w.grownBy w' r) (hb : r ≠ some b) (hr : ∀ x v, S x = some v → v.ownBlock = none ∨ v.ownBlock ≠ r) : GV w' kt key ok b n base et size f D S G :=
  ⟨h.mv.grown hg hb, fun x v hx => ⟨(h.row x v hx).1.kept hg (hr x v hx), (h.row x v hx).2⟩, h.nil, h.apart, h.low⟩
theorem GV.block (h : GV w kt key ok b n base et size f D S G) {x : κ} {v : Value} (hx : S x = some v) : ∃ g, v.ownBlock = some g ∧ base ≤ g ∧ g < w.heap.size := by
  obtain ⟨r1, r2⟩ := h.row x v hx
  rcases r1.2 with ⟨_, h0⟩ | ⟨g, cap, _, e, _⟩
  · exact absurd (List.length_eq_zero_iff.1 h0) r2
  · have hg : v.ownBlock = some g := by rw [e]; rfl
    exact ⟨g, hg, r1.lt g hg⟩
def Parted (S S2 : κ → Option Value) : Prop := ∀ x y vx vy, S x = some vx → S2 y = some vy → vx.ownBlock ≠ vy.ownBlock
theorem Parted.symm (h : Parted S S2) : Parted S2 S := fun x y vx vy h1 h2 e => h y x vy vx h2 h1 e.symm
theorem GV.beside [DecidableEq κ] (h : GV w kt key ok b n base et size f D S G) (h2 : GV w kt key ok b2 n2 base et size f D2 S2 G2) (hp : Parted S S2) (hbb : b ≠ b2) (x : κ) {w2 w3 w4 : World} {v' : Value} (hg2 : w.grownBy w2 (some b))
    (hg3 : w2.grownBy w3 ((S x).getD (.slice none 0 0)).ownBlock) (hloc : v'.ownBlock = ((S x).getD (.slice none 0 0)).ownBlock ∨ ∃ g, v'.ownBlock = some g ∧ w.heap.size ≤ g) (hg4 : w3.grownBy w4 (some b)) :
    GV w4 kt key ok b2 n2 base et size f D2 S2 G2 ∧ Parted (upd S x v') S2 := by
  have hlo := h.low
  have n1 : ∀ y v, S2 y = some v → v.ownBlock = none ∨ v.ownBlock ≠ some b := fun y v hy => by
    obtain ⟨g, hg, h1, _⟩ := h2.block hy
    exact .inr (by rw [hg]; intro e; cases e; omega)
  have n2' : ∀ y v, S2 y = some v → v.ownBlock = none ∨ v.ownBlock ≠ ((S x).getD (.slice none 0 0)).ownBlock := fun y v hy => by
    obtain ⟨g, hg, h1, _⟩ := h2.block hy
    refine .inr ?_
    cases hs : S x with
    | none => rw [hg]; simp [Value.ownBlock]
    | some vx => exact fun e => hp x y vx v hs hy e.symm
  have nb : ((S x).getD (.slice none 0 0)).ownBlock ≠ some b2 := by
    cases hs : S x with
    | none => simp [Value.ownBlock]
    | some vx =>
      obtain ⟨g, hg, h1, _⟩ := h.block hs
      have := h2.low
      simp only [Option.getD_some, hg]
      intro e
      cases e
      omega
  refine ⟨((h2.aside hg2 (fun e => hbb (Option.some.inj e)) n1).aside hg3 nb n2').aside hg4 (fun e => hbb (Option.some.inj e)) n1, ?_⟩
  intro y z vy vz hy hz
  by_cases e : y = x
  · subst e
    simp only [upd, if_true, Option.some.injEq] at hy
    subst hy
    obtain ⟨g, hg, h1, h3⟩ := h2.block hz
    rcases hloc with hl | ⟨g', hl, hge⟩
    · rw [hl]
      cases hs : S y with
      | none => rw [hg]; simp [Value.ownBlock]
      | some vx => exact hp y z vx vz hs hz
    · rw [hl, hg]
      intro e'
      cases e'
      omega
  · simp only [upd, e, if_false] at hy
    exact hp y z vy vz hy hz
end
end Go.Proofs.YtkjlkbgdkdcboaaGreatDoor
namespace Go.Proofs.YtkjlkbgdkdcboaaGreatDoor
open Go.RowKit Go.Maps
attribute [local go_sem ↓] Go.wp_at_zero Go.wp_at_succ
theorem info3 : (Tryz.prog.info? 3).map (fun i => (i.zero, i.size, i.bytes)) = some (some (.int .i64 0), 1, 8) := by kernel_rfl
theorem zero179 (u : World) : (zeroValue 227).run Tryz.prog u = .ok (.slice none 0 0) u := by kernel_rfl
def natL (n : Nat) : List Value := [.int .i64 n]
def numsTo (E : List Acre.Ed) (x : Acre.Fc) (k : Nat) (h : Acre.Fc) : List Nat := (List.range k).filter (fun n => !Acre.upr (Acre.gd E n) && Acre.hgt (Acre.gd E n) x == h)
theorem numsTo_skip {E : List Acre.Ed} {x : Acre.Fc} {k : Nat} (h : Acre.upr (Acre.gd E k) = true) : numsTo E x (k + 1) = numsTo E x k := by
  funext y
  unfold numsTo
  rw [List.range_succ, List.filter_append]
  simp [h]
theorem numsTo_put {E : List Acre.Ed} {x : Acre.Fc} {k : Nat} (h : Acre.upr (Acre.gd E k) = false) : numsTo E x (k + 1) = fun y => if y = Acre.hgt (Acre.gd E k) x then numsTo E x k (Acre.hgt (Acre.gd E k) x) ++ [k] else numsTo E x k y := by
  funext y
  unfold numsTo
  rw [List.range_succ, List.filter_append]
  by_cases e : y = Acre.hgt (Acre.gd E k) x
  · subst e; simp [h]
  · have : ¬ Acre.hgt (Acre.gd E k) x = y := fun q => e q.symm
    simp [h, e, this]
structure ByI (w wr : World) (E : List Acre.Ed) (x : Acre.Fc) (k : Nat) : Prop where
  gv : ∃ D S, GV wr 38 kf WfF (w.heap.size + 2) k (w.heap.size + 3) 3 1 natL D S (numsTo E x k)
  bel : Below w.heap.size w wr
  box : Box wr (w.heap.size + 1) (frL x)
theorem ByI.later {w wr w' : World} {E : List Acre.Ed} {x : Acre.Fc} {k : Nat} (h : ByI w wr E x k) (hb : Below wr.heap.size wr w') : ByI w w' E x k := by
  obtain ⟨D, S, hG⟩ := h.gv
  exact ⟨⟨D, S, hG.later hb⟩, below_call hb h.bel, h.box.later (by simp [frL]) hb⟩
theorem low_sm {n d : Int} (hn : -10000000 ≤ n ∧ n ≤ 10000000) (hd : -10000000 ≤ d ∧ d ≤ 10000000) : SmF (Acre.low n d) := by
  have := Acre.low_bd n d
  exact ⟨by omega, by omega⟩
theorem hgt_sm {e : Acre.Ed} {x : Acre.Fc} (he : SmE e) (hx : -30000 ≤ x.1 ∧ x.1 ≤ 30000) (hx2 : 0 < x.2 ∧ x.2 ≤ 3000) : SmF (Acre.hgt e x) := by
  obtain ⟨⟨a, b⟩, ⟨c, d⟩⟩ := e
  obtain ⟨n, m⟩ := x
  obtain ⟨⟨a1, b1⟩, ⟨c1, d1⟩⟩ := he
  dsimp only at *
  have m1 := Acre.mul_bd b (c - a) 13 26 (by omega) (by omega)
  have m2 := Acre.mul_bd (b * (c - a)) m 338 3000 (by omega) (by omega)
  have m3 := Acre.mul_bd a m 13 3000 (by omega) (by omega)
  have m4 := Acre.mul_bd (n - a * m) (d - b) 70000 26 (by omega) (by omega)
  have m5 := Acre.mul_bd (c - a) m 26 3000 (by omega) (by omega)
  unfold Acre.hgt
  exact low_sm (by dsimp only; omega) (by dsimp only; omega)
set_option maxRecDepth 100000 in
set_option maxHeartbeats 4000000 in
theorem byHeight_any (E : List Acre.Ed) (u : Value) (base : Nat) (kk op : Int) (x : Acre.Fc) (w : World) (hE : w.ownsRow base 42 4 u E.length (flatE E))
    (hsm : ∀ e ∈ E, SmE e) (hEl : E.length ≤ 24) (hx : -30000 ≤ x.1 ∧ x.1 ≤ 30000) (hx2 : 0 < x.2 ∧ x.2 ≤ 3000) :
    Calls Tryz.prog 108 #[.agg #[u, .int .i64 kk, .int .i64 op], frV x] w fun e w' => ∃ b D S, e = .returned (.map (some b)) ∧ w.heap.size ≤ b ∧ GV w' 38 kf WfF b E.length (b + 1) 3 1 natL D S (numsTo E x E.length) ∧ Below w.heap.size w w' := by
  have hmm := @run_makeMap Tryz.prog
  obtain ⟨i0, hi, hz0, hz1, hz2⟩ := info_parts info3
  obtain ⟨ga, gb, gcap, rfl, hga, hcap⟩ := row_form hE
  obtain ⟨xn, xd⟩ := x
  dsimp only at hx hx2
  unfold frV
  go_enter Tryz.func108, Tryz.ntmps108
  go_wp2
  go_loopw [13] (fun i wr => ∃ k : Nat, i = .int .i64 k ∧ k ≤ E.length ∧ Hid (ByI w wr E (xn, xd) k)) (fun i _ => E.length - (intOf i).toNat)
  case atStart =>
    refine ⟨0, rfl, Nat.zero_le _, ?_⟩
    show ByI _ _ _ _ _
    have mv0 := MV.new (kt := 38) (key := kf) (ok := WfF) ((w.alloc (.cells #[.slice ga E.length gcap, .int .i64 kk, .int .i64 op] 48)).alloc (.cells #[.int .i64 xn, .int .i64 xd] 38))
    have bx := (Box.new (w.alloc (.cells #[.slice ga E.length gcap, .int .i64 kk, .int .i64 op] 48)) [.int .i64 xn, .int .i64 xd] 38).later (by simp) (below1 _ (.map #[] 0))
    simp only [World.size_alloc] at mv0 bx
    exact ⟨⟨_, _, ⟨mv0, fun x v hv => by simp at hv, fun x _ => by simp [numsTo], fun x y vx vy hv => by simp at hv, by omega⟩⟩, below3 _ _ _ _, bx⟩
  case round =>
    obtain ⟨k, rfl, hk, hr⟩ := hrel
    by_cases hlt : k < E.length
    · obtain rfl := hga (by omega)
      obtain ⟨x0, x1, x2, x3⟩ := rowE_cells hE k hlt
      have hI := hr.out
      have y0 := cell_later hI.bel x0
      have y1 := cell_later hI.bel x1
      have y2 := cell_later hI.bel x2
      have y3 := cell_later hI.bel x3
      have hse := hsm E[k] (List.getElem_mem hlt)
      have hgd : Acre.gd E k = E[k] := by unfold Acre.gd; simp [hlt]
      clear x0 x1 x2 x3 hr
      obtain ⟨⟨⟨e0, e1⟩, ⟨e2, e3⟩⟩, he⟩ : ∃ e, E[k] = e := ⟨_, rfl⟩
      rw [he] at y0 y1 y2 y3 hse hgd
      dsimp only at y0 y1 y2 y3
      have HSe := hide hse
      have hI2 := hI.later (below1 wr (.cells #[.int .i64 e0, .int .i64 e1, .int .i64 e2, .int .i64 e3] 42))
      have bE := Box.new wr [.int .i64 e0, .int .i64 e1, .int .i64 e2, .int .i64 e3] 42
      go_upto_region 5 with fail
      clear y0 y1 y2 y3 hI he
      generalize wr.alloc (.cells #[.int .i64 e0, .int .i64 e1, .int .i64 e2, .int .i64 e3] 42) = WP at *
      generalize wr.heap.size = B at *
      have c0 := bE.c 0 _ rfl
      have c1 := bE.c 1 _ rfl
      have c2 := bE.c 2 _ rfl
      have c3 := bE.c 3 _ rfl
      go_wp2_with fail
      refine (isUpright_any ((e0, e1), (e2, e3)) _).mono ?_
      rintro e w1 ⟨rfl, hb1⟩
      have hI3 := hI2.later hb1
      have bE3 := bE.later (by simp) hb1
      clear c0 c1 c2 c3 hI2 bE
      cases hu : Acre.upr ((e0, e1), (e2, e3))
      · have c0 := bE3.c 0 _ rfl
        have c1 := bE3.c 1 _ rfl
        have c2 := bE3.c 2 _ rfl
        have c3 := bE3.c 3 _ rfl
        have f0 := hI3.box.c 0 _ rfl
        have f1 := hI3.box.c 1 _ rfl
        have hput := numsTo_put (E := E) (x := (xn, xd)) (k := k) (by rw [hgd]; exact hu)
        rw [hgd] at hput
        have hhs := hgt_sm (x := (xn, xd)) HSe.out hx hx2
        go_wp2_with fail
        refine (height_any ((e0, e1), (e2, e3)) (xn, xd) _ HSe.out hu (by dsimp only; omega) (by dsimp only; omega)).mono ?_
        rintro e w2 ⟨rfl, hb2⟩
        generalize Acre.hgt ((e0, e1), (e2, e3)) (xn, xd) = h at *
        obtain ⟨h1, h2⟩ := h
        have hI4 := (hI3.later hb2).later (below1 w2 (.cells #[.int .i64 h1, .int .i64 h2] 38))
        have bH := Box.new w2 [.int .i64 h1, .int .i64 h2] 38
        unfold frV
        go_upto_region 7 with fail
        clear c0 c1 c2 c3 f0 f1 hI3 bE3 hb1 hb2
        generalize w2.alloc (.cells #[.int .i64 h1, .int .i64 h2] 38) = WH at *
        generalize w2.heap.size = C at *
        have d0 := bH.c 0 _ rfl
        have d1 := bH.c 1 _ rfl
        have hI5 := hI4.later (below1 WH (.cells #[.int .i64 k] 3))
        have bN := Box.new WH [.int .i64 k] 3
        obtain ⟨D, S, gv⟩ := hI5.gv
        have hrow := gv.at' (h1, h2)
        obtain ⟨st, w3, hme, hg3, hs3, hst⟩ := gv.mv.entry ktF Tryz.underlying223 (by unfold maxLen; omega) zero179 hhs.wf
        have hlk : (numsTo E (xn, xd) k (h1, h2)).length ≤ 24 := by
          have := List.length_filter_le (fun n => !Acre.upr (Acre.gd E n) && Acre.hgt (Acre.gd E n) (xn, xd) == (h1, h2)) (List.range k)
          simp at this
          unfold numsTo
          omega
        unfold frV at hme
        dsimp only at hme
        have hlo : w.heap.size + 3 ≤ WH.heap.size := by have := (hI4.gv); obtain ⟨_, _, g⟩ := this; have := g.mv.lt; omega
        have nbm : ((S (h1, h2)).getD (.slice none 0 0)).ownBlock ≠ some (w.heap.size + 2) := fun e => by have := (hrow.lt _ e).1; omega
        have hrow3 := hrow.kept hg3 (.inr nbm)
        have bN3 := bN.kept (by simp) hg3 (by simp; omega)
        have hnews : ∀ j u, [Value.int .i64 (k : Int)][j]? = some u → w3.cell? ((⟨WH.heap.size, 0, none⟩ : Addr).add j) = some u := fun j u hj => by
          match j, hj with
          | 0, hj => simp at hj; subst hj; exact bN3.c 0 _ rfl
          | j + 1, hj => simp at hj
        have Hst := hide hst
        have Hbel := hide hI5.bel
        have HB5 := hide hI5.box
        have Hg3 := hide hg3
        clear hst hI4 hI5 hg3 hrow bN bN3 bH
        go_upto_region 8 with (first
          | (at_builtin; refine wpList_append_own_at _ rfl _ _ 227 rfl (w.heap.size + 3) 3 i0 (.int .i64 0) 1 8 Tryz.underlying227 hi hz0 hz1 hz2 rfl (by decide) _ _ _ rfl hrow3 ⟨WH.heap.size, 0, none⟩ 1 1 [.int .i64 k] rfl rfl hnews (by simp [Value.oneCell']) (by unfold maxLen; omega) (by omega) (by rw [hs3]; simp; omega) ?_; intro v' w4 hown' hgrow hnil hloc; obtain ⟨g', cap', rfl⟩ := row_succ hown'; obtain ⟨w5, hen, hmv5, hg5, hs5⟩ := Hst.out w4 (hgrow.block _ (by rw [hs3]; simp; omega) (fun e => nbm e.symm)) (.slice (some ⟨g', 0, none⟩) ((numsTo E (xn, xd) k (h1, h2)).length + 1) cap'))
          | go_in)
        have HN : Hid (ByI w w5 E (xn, xd) (k + 1)) := by
          show ByI _ _ _ _ _
          have hgv := gv.push (h1, h2) k Hg3.out hown' hgrow (hloc.imp id (fun h => ⟨_, h, by rw [hs3]; exact Nat.le_refl _⟩)) hmv5 hg5
          rw [← hput] at hgv
          refine ⟨⟨_, _, hgv⟩, ?_, ?_⟩
          · refine ((Hbel.out.grown Hg3.out Hbel.out.size (fun c hc => by cases hc; omega)).grown hgrow (by rw [hs3]; simp; omega) (fun c hc => by have := (hrow3.lt c hc).1; omega)).grown hg5 (by have := hgrow.size; rw [hs3] at this; simp at this; omega) (fun c hc => by cases hc; omega)
          · refine ((HB5.out.kept (by simp [frL]) Hg3.out (by simp)).kept (by simp [frL]) hgrow (fun e => by have := (hrow3.lt _ e).1; omega)).kept (by simp [frL]) hg5 (by simp)
        clear hown' hgrow hnil hloc hmv5 hg5 hs5 hnews hrow3 gv
        go_wp2
        go_roundw
        case rel => exact ⟨k + 1, by go_num, by omega, HN⟩
        case measure => simp [intOf]; omega
      · have HN : Hid (ByI w w1 E (xn, xd) (k + 1)) := by
          show ByI _ _ _ _ _
          have := numsTo_skip (E := E) (x := (xn, xd)) (k := k) (by rw [hgd]; exact hu)
          obtain ⟨D, S, gv⟩ := hI3.gv
          exact ⟨⟨D, S, by rw [this]; exact ⟨gv.mv.more (by omega), gv.row, gv.nil, gv.apart, gv.low⟩⟩, hI3.bel, hI3.box⟩
        clear hI3 bE3 hb1
        go_wp2
        go_roundw
        case rel => exact ⟨k + 1, by go_num, by omega, HN⟩
        case measure => simp [intOf]; omega
    · obtain rfl : k = E.length := by omega
      have hI := hr.out
      obtain ⟨D, S, gv⟩ := hI.gv
      have HG := hide gv
      have HB := hide hI.bel
      clear gv hI hr
      go_wp2
      go_ret
      exact ⟨_, D, S, rfl, by omega, HG.out, HB.out⟩
end Go.Proofs.YtkjlkbgdkdcboaaGreatDoor
namespace Go.Proofs.YtkjlkbgdkdcboaaGreatDoor
open Go.RowKit Go.Maps
structure WfE (e : Acre.Ed) : Prop where
  a : (Lit.int .i64 e.1.1).wf = true
  b : (Lit.int .i64 e.1.2).wf = true
  c : (Lit.int .i64 e.2.1).wf = true
  d : (Lit.int .i64 e.2.2).wf = true
theorem SmE.wf {e : Acre.Ed} (h : SmE e) : WfE e := ⟨wf_s _ h.1.1, wf_s _ h.1.2, wf_s _ h.2.1, wf_s _ h.2.2⟩
theorem lits28w {m : Nat} {c d : Value} {ls : List Lit} (h : Tryz.prog.keyLits (m + 1 + 1) 40 [c, d] = some ls) : (∃ n, c = .int .i64 n ∧ (Lit.int .i64 n).wf = true) ∧ ∃ n, d = .int .i64 n ∧ (Lit.int .i64 n).wf = true := by
  unfold Program.keyLits at h
  simp only [Tryz.underlying40] at h
  simp [cells28, cells3, Option.bind_eq_some_iff] at h
  obtain ⟨a, ha, b, ⟨d', hd, _⟩, _⟩ := h
  exact ⟨lits3w ha, lits3w hd⟩
set_option maxRecDepth 100000 in
theorem invEw (key : Value) (kl : Lit) (h : keyOf Tryz.prog 42 key = some kl) : ∃ x : Acre.Ed, key = edV x ∧ WfE x ∧ kl = keE x := by
  have h0 := h
  obtain ⟨m, hm⟩ : ∃ m, Tryz.prog.types.size = m + 1 + 1 := ⟨Tryz.prog.types.size - 2, by have := types_big; omega⟩
  unfold keyOf at h
  simp only [Tryz.underlying42] at h
  split at h
  · rename_i hf
    simp only [Bool.and_eq_true] at hf
    have hf2 := hf.2
    cases key <;> simp [Value.formed, Tryz.underlying42] at hf2
    rename_i cs
    obtain ⟨c0, c1, c2, c3, rfl⟩ := Joins.array4 (hf2.trans cells46)
    rw [hm] at h
    unfold Program.keyLits at h
    simp only [Tryz.underlying42] at h
    simp [cells46, cells28, Value.cells, List.range, List.range.loop, Option.bind_eq_some_iff] at h
    obtain ⟨a, ha, b, ⟨d', hd, _⟩, _⟩ := h
    obtain ⟨⟨x0, rfl, w0⟩, ⟨x1, rfl, w1⟩⟩ := lits28w ha
    obtain ⟨⟨x2, rfl, w2⟩, ⟨x3, rfl, w3⟩⟩ := lits28w hd
    refine ⟨((x0, x1), (x2, x3)), rfl, ⟨w0, w1, w2, w3⟩, ?_⟩
    have := key_ed (x := x0) (y := x1) (u := x2) (v := x3) w0 w1 w2 w3
    rw [this] at h0
    exact (Option.some.inj h0).symm
  · simp at h
theorem ktE : KT 42 edV keE WfE := ⟨lawEd, fun _ h => key_ed h.a h.b h.c h.d, invEw, fun x y h => by
  simp [edV] at h
  exact Prod.ext (Prod.ext h.1 h.2.1) (Prod.ext h.2.2.1 h.2.2.2)⟩
def layAt (E : List Acre.Ed) (k : Nat) (op : Int) (f t : Acre.Fc) (i : Nat) : Acre.Ed × Bool × Bool :=
  (Acre.edgeAt E f t ((Acre.hts E (Acre.mdn f t)).getD i (0, 0)), (Acre.spAt E f t ((Acre.hts E (Acre.mdn f t)).getD i (0, 0))).isEmpty, Acre.insAt E k op f t ((Acre.hts E (Acre.mdn f t)).take (i + 1)))
def layTo (E : List Acre.Ed) (k : Nat) (op : Int) (f t : Acre.Fc) (n : Nat) : List (Acre.Ed × Bool × Bool) := (List.range n).map (layAt E k op f t)
def layersP (E : List Acre.Ed) (k : Nat) (op : Int) (f t : Acre.Fc) : List (Acre.Ed × Bool × Bool) := layTo E k op f t (Acre.hts E (Acre.mdn f t)).length
theorem layTo_succ (E : List Acre.Ed) (k : Nat) (op : Int) (f t : Acre.Fc) (n : Nat) : layTo E k op f t (n + 1) = layTo E k op f t n ++ [layAt E k op f t n] := by
  unfold layTo; rw [List.range_succ, List.map_append]; rfl
theorem bands_layers (E : List Acre.Ed) (k : Nat) (op : Int) (f t : Acre.Fc) : bandsOfL (layersP E k op f t) = Acre.bandsP E k op f t := by
  have hfl : ∀ (hs done : List Acre.Fc), (Acre.flagsL (Acre.insAt E k op f t) done hs) = (List.range hs.length).map (fun i => (Acre.insAt E k op f t (done ++ hs.take (i + 1)), hs.getD i (0, 0))) := by
    intro hs
    induction hs with
    | nil => intro done; rfl
    | cons a r ih =>
      intro done
      rw [Acre.flagsL, ih, List.length_cons, List.range_succ_eq_map, List.map_cons, List.map_map]
      congr 1
      apply List.map_congr_left
      intro i _
      simp [List.append_assoc]
  unfold bandsOfL layersP layTo Acre.bandsP Acre.bandsH
  rw [List.map_map, ← Acre.bandsG_map (Acre.edgeAt E f t), hfl, List.map_map, Acre.bandsG_any (Acre.edgeAt E f t (0, 1)) Acre.zed]
  congr 1
def rankTo (E : List Acre.Ed) (x : Acre.Fc) (n : Nat) (e : Acre.Ed) : Option Value := if e ∈ E ∧ Acre.upr e = false ∧ Acre.rk E x e < n then some (.int .i64 (Acre.rk E x e)) else none
def rankJ (E : List Acre.Ed) (x : Acre.Fc) (k : Nat) (ns : List Nat) (q : Nat) : Acre.Ed → Option Value := fun e => if e ∈ (ns.take q).map (Acre.gd E) then some (.int .i64 k) else rankTo E x k e
theorem rankJ_zero (E : List Acre.Ed) (x : Acre.Fc) (k : Nat) (ns : List Nat) : rankJ E x k ns 0 = rankTo E x k := by funext e; simp [rankJ]
theorem rankJ_succ (E : List Acre.Ed) (x : Acre.Fc) (k : Nat) (ns : List Nat) (q : Nat) (hq : q < ns.length) : upd (rankJ E x k ns q) (Acre.gd E ns[q]) (.int .i64 k) = rankJ E x k ns (q + 1) := by
  funext e
  unfold upd rankJ
  rw [List.take_succ_eq_append_getElem hq, List.map_append]
  by_cases h : e = Acre.gd E ns[q]
  · simp [h]
  · simp [h]
theorem rank_last {E : List Acre.Ed} {x : Acre.Fc} {k : Nat} (hx : 0 < x.2) (hk : k < (Acre.hts E x).length) : rankJ E x k (numsTo E x E.length (Acre.hts E x)[k]) (numsTo E x E.length (Acre.hts E x)[k]).length = rankTo E x (k + 1) := by
  have hnd := Acre.nodup_of_lt (Acre.hts_sorted (E := E) hx)
  have hidx : ∀ e ∈ E, Acre.upr e = false → (Acre.rk E x e = k ↔ Acre.hgt e x = (Acre.hts E x)[k]) := by
    intro e he hu
    have hm : Acre.hgt e x ∈ Acre.hts E x := Acre.mem_hts.2 ⟨e, he, hu, rfl⟩
    unfold Acre.rk
    constructor
    · intro h
      have h2 := List.getElem_idxOf (List.idxOf_lt_length_iff.2 hm)
      simp only [h] at h2
      exact h2.symm
    · intro h
      rw [h]
      exact hnd.idxOf_getElem k hk
  funext e
  unfold rankJ
  rw [List.take_of_length_le (Nat.le_refl _)]
  have hmem : e ∈ (numsTo E x E.length (Acre.hts E x)[k]).map (Acre.gd E) ↔ e ∈ E ∧ Acre.upr e = false ∧ Acre.hgt e x = (Acre.hts E x)[k] := by
    unfold numsTo
    rw [List.mem_map]
    constructor
    · rintro ⟨n, hn, rfl⟩
      rw [List.mem_filter, List.mem_range] at hn
      simp at hn
      exact ⟨Acre.gd_mem hn.1, hn.2.1, hn.2.2⟩
    · rintro ⟨h1, h2, h3⟩
      obtain ⟨i, hi, rfl⟩ := Acre.mem_gd h1
      exact ⟨i, by rw [List.mem_filter, List.mem_range]; exact ⟨hi, by simp [h2, h3]⟩, rfl⟩
  by_cases hm : e ∈ (numsTo E x E.length (Acre.hts E x)[k]).map (Acre.gd E)
  · rw [if_pos hm]
    obtain ⟨h1, h2, h3⟩ := hmem.1 hm
    have := (hidx e h1 h2).2 h3
    unfold rankTo
    rw [if_pos ⟨h1, h2, by omega⟩, this]
  · rw [if_neg hm]
    unfold rankTo
    by_cases hc : e ∈ E ∧ Acre.upr e = false
    · have hne : Acre.rk E x e ≠ k := fun h => hm (hmem.2 ⟨hc.1, hc.2, (hidx e hc.1 hc.2).1 h⟩)
      by_cases hl : Acre.rk E x e < k
      · rw [if_pos ⟨hc.1, hc.2, hl⟩, if_pos ⟨hc.1, hc.2, by omega⟩]
      · rw [if_neg (fun h => hl h.2.2), if_neg (fun h => by have := h.2.2; omega)]
    · rw [if_neg (fun h => hc ⟨h.1, h.2.1⟩), if_neg (fun h => hc ⟨h.1, h.2.1⟩)]
def spTo (E : List Acre.Ed) (f t : Acre.Fc) (ns : List Nat) (q : Nat) : List Nat := (ns.take q).filter (fun n => Acre.spn (Acre.gd E n) f t)
theorem spTo_succ (E : List Acre.Ed) (f t : Acre.Fc) (ns : List Nat) (q : Nat) (hq : q < ns.length) : spTo E f t ns (q + 1) = spTo E f t ns q ++ (if Acre.spn (Acre.gd E ns[q]) f t = true then [ns[q]] else []) := by
  unfold spTo
  rw [List.take_succ_eq_append_getElem hq, List.filter_append]
  congr 1
  simp [List.filter_cons]
def cntO (kk : Nat) (s : List Nat) (o : Bool) : Nat := s.countP (fun n => decide (kk ≤ n) == o)
theorem cntB_succ (E : List Acre.Ed) (kk : Nat) (f t : Acre.Fc) (hs : List Acre.Fc) (k : Nat) (hk : k < hs.length) (o : Bool) : Acre.cntB E kk f t (hs.take (k + 1)) o = Acre.cntB E kk f t (hs.take k) o + cntO kk (Acre.spAt E f t hs[k]) o := by
  unfold Acre.cntB cntO
  rw [List.take_succ_eq_append_getElem hk, List.flatMap_append, List.countP_append]
  simp
def firstE (E : List Acre.Ed) (s : List Nat) : Acre.Ed := match s with | [] => Acre.zed | n :: _ => Acre.gd E n
structure CutOk (x : Acre.Fc) : Prop where
  lim : Acre.Lim x
  d : x.2 ≤ 1152
theorem CutOk.n {x : Acre.Fc} (h : CutOk x) : (-13824 ≤ x.1 ∧ x.1 ≤ 13824) ∧ (0 < x.2 ∧ x.2 ≤ 1152) := by
  have h1 := h.lim.red.1
  have h2 := h.d
  have l1 : ((-12 : Int) : Rat) ≤ Acre.v x := h.lim.lo
  have l2 : Acre.v x ≤ ((12 : Int) : Rat) := h.lim.hi
  have l3 := (Acre.le_v h1).2 l1
  have l4 := (Acre.v_le h1).2 l2
  omega
theorem mdn_bd {f t : Acre.Fc} (hf : CutOk f) (ht : CutOk t) : (-27648 ≤ (Acre.mdn f t).1 ∧ (Acre.mdn f t).1 ≤ 27648) ∧ (0 < (Acre.mdn f t).2 ∧ (Acre.mdn f t).2 ≤ 2304) := by
  have h1 := hf.n
  have h2 := ht.n
  have hs : f.2 + t.2 ≠ 0 := by omega
  have h3 := Acre.low_bd (f.1 + t.1) (f.2 + t.2)
  have h4 := (Acre.low_red (f.1 + t.1) (f.2 + t.2) hs).1
  unfold Acre.mdn
  omega
end Go.Proofs.YtkjlkbgdkdcboaaGreatDoor
namespace Go.Proofs.YtkjlkbgdkdcboaaGreatDoor
open Go.RowKit Go.Maps Go.WideElems
open Go.WideMaps (KeyLaw)
theorem lawB : KeyLaw Tryz.prog 106 := deep_law_laid laidOut (m := 4) (by omega) (of_decide_eq_true (by kernel_rfl)) (by kernel_rfl) (by kernel_rfl)
theorem cells159 : Tryz.prog.cellsOf 106 = 8 := by kernel_rfl
structure WfB (b : Acre.Ed × Acre.Ed) : Prop where
  lo : WfE b.1
  hi : WfE b.2
def bdV (b : Acre.Ed × Acre.Ed) : Value := .agg #[.int .i64 b.1.1.1, .int .i64 b.1.1.2, .int .i64 b.1.2.1, .int .i64 b.1.2.2, .int .i64 b.2.1.1, .int .i64 b.2.1.2, .int .i64 b.2.2.1, .int .i64 b.2.2.2]
def keB (b : Acre.Ed × Acre.Ed) : Lit := .string (keyBytes [.int .i64 b.1.1.1, .int .i64 b.1.1.2, .int .i64 b.1.2.1, .int .i64 b.1.2.2, .int .i64 b.2.1.1, .int .i64 b.2.1.2, .int .i64 b.2.2.1, .int .i64 b.2.2.2])
theorem lits37 {m : Nat} {a b c d : Int} (ha : (Lit.int .i64 a).wf = true) (hb : (Lit.int .i64 b).wf = true) (hc : (Lit.int .i64 c).wf = true) (hd : (Lit.int .i64 d).wf = true) : Tryz.prog.keyLits (m + 1 + 1 + 1) 42 [Value.int .i64 a, .int .i64 b, .int .i64 c, .int .i64 d] = some [.int .i64 a, .int .i64 b, .int .i64 c, .int .i64 d] := by
  simp [Program.keyLits, Tryz.underlying42, Tryz.underlying40, Tryz.underlying3, ha, hb, hc, hd, cells28, cells3, cells46, List.range, List.range.loop]
theorem key_B {b : Acre.Ed × Acre.Ed} (h : WfB b) : keyOf Tryz.prog 106 (bdV b) = some (keB b) := by
  have k1 : Tryz.prog.keyType 106 = true := by kernel_rfl
  have f1 : (bdV b).formed Tryz.prog 106 = true := by simp [bdV, Value.formed, Tryz.underlying106, cells159]
  obtain ⟨m, hm⟩ : ∃ m, Tryz.prog.types.size = m + 1 + 1 + 1 := ⟨Tryz.prog.types.size - 3, by have := types_big; omega⟩
  unfold keyOf
  rw [Tryz.underlying106, k1, f1, hm]
  have e : Tryz.prog.keyLits (m + 1 + 1 + 1 + 1) 106 [Value.int .i64 b.1.1.1, .int .i64 b.1.1.2, .int .i64 b.1.2.1, .int .i64 b.1.2.2, .int .i64 b.2.1.1, .int .i64 b.2.1.2, .int .i64 b.2.2.1, .int .i64 b.2.2.2] = some [.int .i64 b.1.1.1, .int .i64 b.1.1.2, .int .i64 b.1.2.1, .int .i64 b.1.2.2, .int .i64 b.2.1.1, .int .i64 b.2.1.2, .int .i64 b.2.2.1, .int .i64 b.2.2.2] := by
    unfold Program.keyLits
    simp only [Tryz.underlying106]
    simp [cells159, cells46, List.range, List.range.loop, lits37 h.lo.a h.lo.b h.lo.c h.lo.d, lits37 h.hi.a h.hi.b h.hi.c h.hi.d]
  simp only [bdV, Value.cells, Bool.and_self, if_true]
  rw [e]
  simp [keB]
theorem lits37w {m : Nat} {a b c d : Value} {ls : List Lit} (h : Tryz.prog.keyLits (m + 1 + 1 + 1) 42 [a, b, c, d] = some ls) : ∃ e : Acre.Ed, (a = .int .i64 e.1.1 ∧ b = .int .i64 e.1.2 ∧ c = .int .i64 e.2.1 ∧ d = .int .i64 e.2.2) ∧ WfE e := by
  unfold Program.keyLits at h
  simp only [Tryz.underlying42] at h
  simp [cells46, cells28, List.range, List.range.loop, Option.bind_eq_some_iff] at h
  obtain ⟨a, ha, b, ⟨d', hd, _⟩, _⟩ := h
  obtain ⟨⟨x0, rfl, w0⟩, ⟨x1, rfl, w1⟩⟩ := lits28w ha
  obtain ⟨⟨x2, rfl, w2⟩, ⟨x3, rfl, w3⟩⟩ := lits28w hd
  exact ⟨((x0, x1), (x2, x3)), ⟨rfl, rfl, rfl, rfl⟩, ⟨w0, w1, w2, w3⟩⟩
theorem array8 {α : Type} {cs : Array α} (h : cs.size = 8) : ∃ a b c d e f g i, cs = #[a, b, c, d, e, f, g, i] := by
  obtain ⟨l⟩ := cs
  match l, h with
  | [a, b, c, d, e, f, g, i], _ => exact ⟨a, b, c, d, e, f, g, i, rfl⟩
set_option maxRecDepth 100000 in
theorem invB (key : Value) (kl : Lit) (h : keyOf Tryz.prog 106 key = some kl) : ∃ x : Acre.Ed × Acre.Ed, key = bdV x ∧ WfB x ∧ kl = keB x := by
  have h0 := h
  obtain ⟨m, hm⟩ : ∃ m, Tryz.prog.types.size = m + 1 + 1 + 1 := ⟨Tryz.prog.types.size - 3, by have := types_big; omega⟩
  unfold keyOf at h
  simp only [Tryz.underlying106] at h
  split at h
  · rename_i hf
    simp only [Bool.and_eq_true] at hf
    have hf2 := hf.2
    cases key <;> simp [Value.formed, Tryz.underlying106] at hf2
    rename_i cs
    obtain ⟨c0, c1, c2, c3, c4, c5, c6, c7, rfl⟩ := array8 (hf2.trans cells159)
    rw [hm] at h
    unfold Program.keyLits at h
    simp only [Tryz.underlying106] at h
    simp [cells159, cells46, Value.cells, List.range, List.range.loop, Option.bind_eq_some_iff] at h
    obtain ⟨a, ha, b, ⟨d', hd, _⟩, _⟩ := h
    obtain ⟨e, ⟨rfl, rfl, rfl, rfl⟩, we⟩ := lits37w ha
    obtain ⟨g, ⟨rfl, rfl, rfl, rfl⟩, wg⟩ := lits37w hd
    refine ⟨(e, g), rfl, ⟨we, wg⟩, ?_⟩
    have := key_B (b := (e, g)) ⟨we, wg⟩
    unfold bdV at this
    rw [this] at h0
    exact (Option.some.inj h0).symm
  · simp at h
theorem ktB : KT 106 bdV keB WfB := ⟨lawB, fun _ h => key_B h, invB, fun x y h => by
  simp [bdV] at h
  obtain ⟨h1, h2, h3, h4, h5, h6, h7, h8⟩ := h
  exact Prod.ext (Prod.ext (Prod.ext h1 h2) (Prod.ext h3 h4)) (Prod.ext (Prod.ext h5 h6) (Prod.ext h7 h8))⟩
def lastM (ps : List Acre.Pc) : Acre.Ed × Acre.Ed → Option Value := fun b => (Acre.lastI b ps).map (fun i => .int .i64 i)
theorem lastM_push (ps : List Acre.Pc) (f t : Acre.Fc) (b : Acre.Ed × Acre.Ed) : upd (lastM ps) b (.int .i64 ps.length) = lastM (ps ++ [((f, t), b)]) := by
  funext c
  unfold upd lastM
  by_cases h : c = b
  · subst h; rw [Acre.lastI_snoc_same c ps ((f, t), c) rfl]; simp
  · rw [Acre.lastI_snoc_other c ps ((f, t), b) (fun e => h e.symm)]; simp [h]
theorem lastM_set (ps : List Acre.Pc) (i : Nat) (p : Acre.Pc) (h : p.2 = (Acre.pcAt ps i).2) : lastM (ps.set i p) = lastM ps := by
  funext c
  unfold lastM
  rw [Acre.lastI_set h]
abbrev Sl := (Acre.Fc × Acre.Fc) × (Value × Nat)
def slV4 (x : Sl) : Value := .agg #[.int .i64 x.1.1.1, .int .i64 x.1.1.2, .int .i64 x.1.2.1, .int .i64 x.1.2.2, x.2.1, .map (some x.2.2)]
def pcL (p : Acre.Pc) : List Value := frL p.1.1 ++ frL p.1.2 ++ edL p.2.1 ++ edL p.2.2
def flatP (ps : List Acre.Pc) : List Value := ps.flatMap pcL
end Go.Proofs.YtkjlkbgdkdcboaaGreatDoor
