import Derived.Test.YtkjlkbgdkdcboaaGreatDoorC6A
import Derived.Test.YtkjlkbgdkdcboaaGreatDoorJoinW
import Derived.Test.YtkjlkbgdkdcboaaGreatDoorMtA
import Derived.Test.YtkjlkbgdkdcboaaGreatDoorFiA
import Derived.Test.YtkjlkbgdkdcboaaGreatDoorMaB
import Derived.Laws.AppendOwnNone

set_option linter.unusedSimpArgs false
set_option linter.unusedVariables false

set_option linter.unusedSimpArgs false
set_option linter.unusedVariables false

set_option linter.unusedSimpArgs false
set_option linter.unusedVariables false

namespace Go.Proofs.YtkjlkbgdkdcboaaGreatDoor
open Go.RowKit Go.Maps Go.Shelf
attribute [local go_sem] Oper.semAt_some

theorem psOf_all (E : List Acre.Ed) (kk : Nat) (op : Int) (cs : List Acre.Fc) (xs : List Sl) (h : xs.map (·.1) = Acre.adj cs) : psOf E kk op xs = Acre.joinAll (Acre.bandsP E kk op) cs := by
  unfold psOf Acre.joinAll
  rw [h]
theorem enter86 (args : Array Value) (w : World) : (callFunc 58 args).run Tryz.prog w = .ok (.enter 58 args) w := by
  simp [go_sem, Tryz.func58]

set_option maxRecDepth 100000 in
set_option maxHeartbeats 2000000 in
theorem cut_any (E : List Acre.Ed) (u : Value) (base kk : Nat) (op : Int) (w : World) (F : Acre.Fld E) (hE : w.ownsRow base 42 4 u E.length (flatE E)) (hsm : ∀ e ∈ E, SmE e) (hEl : E.length ≤ 24) (hkk : kk ≤ 24) :
    Calls Tryz.prog 15 #[.agg #[u, .int .i64 kk, .int .i64 op]] w fun e w' => ∃ v, e = .returned v ∧ w'.ownsRow w.heap.size 44 12 v (Acre.joinAll (Acre.bandsP E kk op) (Acre.cutsP E [])).length (flatP (Acre.joinAll (Acre.bandsP E kk op) (Acre.cutsP E []))) ∧ Below w.heap.size w w' := by
  have HC := hide (fun (V : World) (hb : Below w.heap.size w V) => slabs_any E u base kk op [] (.slice none 0 0) 0 V (row_call hE hb) (World.ownsRow_nil _ _ _ _) hsm hEl (by simp) (by simp))
  have hcl := cutsP_len (E := E) (more := []) hEl
  have hok := cutsP_ok (E := E) (more := []) F (by simp)
  have HJ := hide (fun (V w1 : World) (hb : Below w.heap.size w V) (BC BP : Nat) (cv : Value) (h : Slb V w1 BC BP cv u kk op (Acre.cutsP E [])) => callsIn_wide.1 (joined_in 58 #[.pointer (some ⟨BC, 0, none⟩), .pointer (some ⟨BP, 0, none⟩)] enter86 E kk op w1.heap.size _ _ ((Acre.cutsP E []).length - 1) (by simp at hcl; omega) w1 (Nat.le_refl _) hsm hEl ((slabs_seq (fun k => k < w1.heap.size) 18 (by omega) h (row_call (row_call hE hb) h.bel) hsm hEl hkk hok (by simp at hcl; omega) (h.bC.lt (by simp)) (h.bP.lt (by simp)) (fun c e => ((row_call (row_call hE hb) h.bel).lt c e).2) (fun c e => (h.row.lt c e).2)).weak (fun A B hAB => KeepIt.of_below hAB (fun _ hk _ => hk)))))
  obtain ⟨ga, gb, gcap, rfl, hga, hcap⟩ := row_form hE
  go_enter Tryz.func15, Tryz.ntmps15
  clear hE
  have q1 := below1 w (.cells #[.slice ga E.length gcap, .int .i64 kk, .int .i64 op] 48)
  go_wp2_with (first
    | (go_at_call 28; refine (HC.out _ q1).mono ?_; rintro e w1 ⟨BC, BP, cv, rfl, hS⟩; have HS := hide hS; clear hS)
    | (go_at_call 20; refine (HJ.out _ w1 q1 BC BP cv HS.out).mono ?_; rintro e w2 ⟨v, xs, rfl, hxs, hrow, hb2⟩; rw [psOf_all E kk op _ xs hxs] at hrow; obtain ⟨va, vb, vcap, rfl, hva, _⟩ := row_form hrow))
  go_ret
  exact ⟨_, rfl, row_base hrow (Nat.le_trans q1.size HS.out.bel.size), below_call hb2 (below_call HS.out.bel q1)⟩

end Go.Proofs.YtkjlkbgdkdcboaaGreatDoor

set_option linter.unusedSimpArgs false
set_option linter.unusedVariables false

set_option linter.unusedSimpArgs false
set_option linter.unusedVariables false

namespace Go.Proofs.YtkjlkbgdkdcboaaGreatDoor
open Go.RowKit Go.Maps
attribute [local go_sem ↓] Go.wp_at_zero Go.wp_at_succ

def whereP (R : List (List Acre.Pt)) (x y : Int × Int) : Int × Int :=
  if Acre.fieldOk R && (Acre.near x && Acre.near y) then
    if ((Acre.edgesOf R).map Acre.up).any (fun e => Acre.isOnE e x y) then (1, 0)
    else if ((Acre.edgesOf R).map Acre.up).countP (fun e => Acre.isR e x y) % 2 = 1 then (2, 0) else (0, 0)
  else (0, 6)

theorem near_fr {f : Int × Int} (h : Acre.near f = true) : Fr f.1 f.2 := by
  unfold Acre.near at h
  simp only [Bool.and_eq_true, decide_eq_true_eq] at h
  exact ⟨⟨by omega, by omega⟩, by omega, by omega⟩

theorem getD_grid {r : List Acre.Pt} (h : r.all Acre.onGrid = true) (i : Nat) : Sm (r.getD i (0, 0)).1 ∧ Sm (r.getD i (0, 0)).2 := by
  by_cases hi : i < r.length
  · have : r.getD i (0, 0) = r[i] := by simp [List.getD, hi]
    rw [this]
    have := List.all_eq_true.1 h r[i] (List.getElem_mem hi)
    unfold Acre.onGrid at this
    simp at this
    exact ⟨⟨by omega, by omega⟩, ⟨by omega, by omega⟩⟩
  · have : r.getD i (0, 0) = (0, 0) := by simp [List.getD, hi]
    rw [this]; exact ⟨⟨by decide, by decide⟩, ⟨by decide, by decide⟩⟩
theorem edges_sm {R : List (List Acre.Pt)} (h : Acre.fieldOk R = true) : ∀ e ∈ Acre.edgesOf R, SmE e := by
  intro e he
  unfold Acre.edgesOf at he
  obtain ⟨r, hr, he⟩ := List.mem_flatMap.1 he
  unfold Acre.edgesTo at he
  obtain ⟨i, _, rfl⟩ := List.mem_map.1 he
  have hg : r.all Acre.onGrid = true := by
    unfold Acre.fieldOk at h
    simp only [Bool.and_eq_true, List.all_eq_true] at h
    have := h.2 r hr
    unfold Acre.ringOk at this
    simp only [Bool.and_eq_true] at this
    exact this.2
  exact ⟨getD_grid hg _, getD_grid hg _⟩
theorem edges_len {R : List (List Acre.Pt)} (h : Acre.fieldOk R = true) : (Acre.edgesOf R).length ≤ 12 := by
  have h2 := fieldOk_len h
  have hk := fieldOk_ring h
  match R, h2 with
  | [], _ => simp [Acre.edgesOf]
  | [a], _ => have := hk 0 (by simp); simp [Acre.edgesOf, Acre.edgesTo] at *; omega
  | [a, b], _ => have := hk 0 (by simp); have := hk 1 (by simp); simp [Acre.edgesOf, Acre.edgesTo] at *; omega

/-- those that have been met -/
def metBy (left : Lit → Bool) (U : List Acre.Ed) : List Acre.Ed := U.filter fun e => !left (keE e)

theorem met_start {D : DataW Unit} {U : List Acre.Ed} (hc : Cnt D U) (hs : ∀ e ∈ U, SmE e) : metBy (Maps.has D) U = [] := by
  unfold metBy
  rw [List.filter_eq_nil_iff]
  intro e he
  rw [hc.has e (hs e he)]; simp [he]
theorem met_end {left : Lit → Bool} {U : List Acre.Ed} (h : ∀ kl, left kl = false) : metBy left U = U := by
  unfold metBy
  rw [List.filter_eq_self]
  intro e _; rw [h]; rfl
theorem met_step {left : Lit → Bool} {U : List Acre.Ed} {f : Acre.Ed} (hs : ∀ e ∈ U, SmE e) (hf : SmE f) (hl : left (keE f) = true) (P : Acre.Ed → Bool) :
    (metBy (fun z => left z && !z.sameKey (keE f)) U).countP P = (metBy left U).countP P + (if P f then U.count f else 0) := by
  unfold metBy
  induction U with
  | nil => simp
  | cons e r ih =>
    have ih := ih (fun x hx => hs x (by simp [hx]))
    have he := hs e (by simp)
    by_cases hq : e = f
    · subst hq
      have h1 : (keE e).sameKey (keE e) = true := by simp [keE, ke, Lit.sameKey]
      rw [List.filter_cons, List.filter_cons]
      dsimp only at ih ⊢
      simp only [h1, hl, Bool.not_true, Bool.and_false, Bool.not_false, if_true, Bool.false_eq_true, if_false]
      rw [List.countP_cons, ih, List.count_cons_self]
      split <;> omega
    · have h1 : (keE e).sameKey (keE f) = false := sameKey_ne (fun e' => hq (keE_inj he hf e'))
      rw [List.filter_cons, List.filter_cons]
      dsimp only at ih ⊢
      simp only [h1, Bool.not_false, Bool.and_true]
      have hcf : List.count f (e :: r) = List.count f r := List.count_cons_of_ne (by exact hq)
      rw [hcf]
      split
      · rw [List.countP_cons, List.countP_cons, ih]; omega
      · exact ih

theorem on_step {left : Lit → Bool} {U : List Acre.Ed} {f : Acre.Ed} (hs : ∀ e ∈ U, SmE e) (hf : SmE f) {P : Acre.Ed → Bool} (h0 : ∀ e ∈ U, left (keE e) = false → P e = false) (hp : P f = false) :
    ∀ e ∈ U, (left (keE e) && !(keE e).sameKey (keE f)) = false → P e = false := by
  intro e he h
  by_cases hq : e = f
  · subst hq; exact hp
  · rw [sameKey_ne (fun e' => hq (keE_inj (hs e he) hf e'))] at h
    simp at h
    exact h0 e he h

theorem whereP_no {R : List (List Acre.Pt)} {x y : Int × Int} (h : (Acre.fieldOk R && (Acre.near x && Acre.near y)) = false) : whereP R x y = (0, 6) := by unfold whereP; rw [h]; rfl

/-- two fractions in boxes -/
structure FB (B : Nat) (x y : Int × Int) (w : World) : Prop where
  l0 : B < w.heap.size
  l1 : B + 1 < w.heap.size
  x0 : w.cell? ⟨B, 0, none⟩ = some (.int .i64 x.1)
  x1 : w.cell? ⟨B, 1, none⟩ = some (.int .i64 x.2)
  y0 : w.cell? ⟨B + 1, 0, none⟩ = some (.int .i64 y.1)
  y1 : w.cell? ⟨B + 1, 1, none⟩ = some (.int .i64 y.2)
theorem FB.later {B : Nat} {x y : Int × Int} {w w' : World} (m : FB B x y w) (hb : Below w.heap.size w w') : FB B x y w' :=
  ⟨Nat.lt_of_lt_of_le m.l0 hb.size, Nat.lt_of_lt_of_le m.l1 hb.size, cell_later hb m.x0, cell_later hb m.x1, cell_later hb m.y0, cell_later hb m.y1⟩
theorem FB.start (w : World) (x y : Int × Int) (t1 t2 : TypeId) : FB w.heap.size x y ((w.alloc (.cells #[.int .i64 x.1, .int .i64 x.2] t1)).alloc (.cells #[.int .i64 y.1, .int .i64 y.2] t2)) := by
  constructor <;> simp [go_sem]

theorem FB.low {B : Nat} {x y : Int × Int} {w w' : World} (m : FB B x y w) (hb : Below (B + 1 + 1) w w') : FB B x y w' := by
  have cl : ∀ {a : Addr} {v : Value}, a.block < B + 1 + 1 → w.cell? a = some v → w'.cell? a = some v := fun h1 h2 => (hb.cell h1).trans h2
  exact ⟨Nat.lt_of_lt_of_le m.l0 hb.size, Nat.lt_of_lt_of_le m.l1 hb.size, cl (by dsimp only; omega) m.x0, cl (by dsimp only; omega) m.x1, cl (by dsimp only; omega) m.y0, cl (by dsimp only; omega) m.y1⟩
theorem ranges_call {w w' : World} {k : TypeId} {Rd : Value → Option (DataW Unit × List MemPlace)} {b r n : Nat} {D : DataW Unit} {left : Lit → Bool} {cnt : Nat} (h : w.ranges Tryz.prog k Rd b r n D left cnt) (hb : Below w.heap.size w w') : w'.ranges Tryz.prog k Rd b r n D left cnt :=
  h.kept (row := none) ⟨hb.os, hb.tape, hb.output, hb.size, fun i hi _ => hb.block i hi⟩ (by simp) (by simp)
theorem invI (v : Value) (y : DataW Unit × List MemPlace) (h : plainElem Tryz.prog 3 v = some y) : ∃ c, v = Value.int .i64 c := by
  obtain ⟨c, rfl, _⟩ := plainElem_int_inv Tryz.underlying3 h
  exact ⟨c, rfl⟩
theorem whereP_on {R : List (List Acre.Pt)} {x y : Int × Int} (h : (Acre.fieldOk R && (Acre.near x && Acre.near y)) = true) {e : Acre.Ed} (he : e ∈ (Acre.edgesOf R).map Acre.up) (ho : Acre.isOnE e x y = true) : whereP R x y = (1, 0) := by
  unfold whereP; rw [h, if_pos rfl, if_pos (List.any_eq_true.2 ⟨e, he, ho⟩)]
theorem whereP_par {R : List (List Acre.Pt)} {x y : Int × Int} (h : (Acre.fieldOk R && (Acre.near x && Acre.near y)) = true) (ho : ∀ e ∈ (Acre.edgesOf R).map Acre.up, Acre.isOnE e x y = false) :
    whereP R x y = if ((Acre.edgesOf R).map Acre.up).countP (fun e => Acre.isR e x y) % 2 = 1 then (2, 0) else (0, 0) := by
  unfold whereP; rw [h, if_pos rfl, if_neg]
  rw [List.any_eq_true]
  rintro ⟨e, he, h'⟩
  rw [ho e he] at h'; exact absurd h' (by simp)

end Go.Proofs.YtkjlkbgdkdcboaaGreatDoor

set_option linter.unusedSimpArgs false
set_option linter.unusedVariables false

set_option linter.unusedSimpArgs false
set_option linter.unusedVariables false

namespace Go.Proofs.YtkjlkbgdkdcboaaGreatDoor
open Go.RowKit Go.Maps Go.Shelf
attribute [local go_sem] Oper.semAt_some

/-- append(s, t...), both of them rows -/
theorem wpList_append_rows {P : Program} {w : World} {ops : Array Oper} {rest : List Oper} {o : Oper} {a : Act} {Q : Exit → Act → World → Prop} (hgd : o.guard = none) (s x : Operand) (t : TypeId)
    (ho : o.op = .call { callee := .builtin .append, args := #[s, x], argTypes := #[t, t] })
    (base : Nat) (e : TypeId) (i : TypeInfo) (z : Value) (size bytes : Nat) (ht : P.underlying t = some (.slice e)) (hi : P.info? e = some i) (hz : i.zero = some z)
    (hsize : i.size = size) (hby : i.bytes = bytes) (hzs : z.cells.size = size) (hsz : 0 < size)
    (v : Value) (n : Nat) (xs : List Value) (hs : a.eval s = v) (hown : w.ownsRow base e size v n xs)
    (u : Value) (base2 m : Nat) (ys : List Value) (hx : a.eval x = u) (hown2 : w.ownsRow base2 e size u m ys) (h1 : ∀ y ∈ ys, y.oneCell' = true)
    (h63 : n + m ≤ maxLen) (hbytes : (n + m) * bytes ≤ 140737488355328) (hbase : base ≤ w.heap.size)
    (h : ∀ v' w', w'.ownsRow base e size v' (n + m) (xs ++ ys) → w.grownBy w' v.ownBlock → wpList P ops Q rest (a.put o.dst v') w') :
    wpList P ops Q (o :: rest) a w := by
  have hl := hown2.1
  rcases hown2.2 with ⟨rfl, rfl⟩ | ⟨g, cap, cur, rfl, _⟩
  · obtain rfl : ys = [] := List.eq_nil_of_length_eq_zero (by simpa using hl)
    refine wpList_append_own_none hgd s x t ho base e i size ht hi v n xs hs hown hx ?_
    exact h v w (by simpa using hown) ⟨rfl, rfl, rfl, Nat.le_refl _, fun _ _ _ => rfl⟩
  · refine wpList_append_own_at _ hgd s x t ho base e i z size bytes ht hi hz hsize hby hzs hsz v n xs hs hown ⟨g, 0, none⟩ m cap ys hx hl (fun j y hj => ?_) h1 h63 hbytes hbase (fun v' w' h2 h3 _ _ => h v' w' h2 h3)
    have hjl : j < m * size := by rw [← hl]; exact (List.getElem?_eq_some_iff.1 hj).1
    have := hown2.cellAt j hjl
    rw [hj] at this
    by_cases h0 : j = 0
    · subst h0; simpa [Addr.add] using this
    · simpa [Addr.add, h0] using this

theorem flatE_one (E : List Acre.Ed) : ∀ y ∈ flatE E, y.oneCell' = true := by
  intro y hy
  unfold flatE at hy
  obtain ⟨e, _, he⟩ := List.mem_flatMap.1 hy
  simp at he
  rcases he with rfl | rfl | rfl | rfl <;> rfl
/-- what is answered of two texts that are no pair -/
def errP (a b : ByteArray) (op : Int) : Int × Int :=
  if (readP a).2.1 = 0 then if (readP b).2.1 = 0 then if op < 0 ∨ 3 < op then (6, 0) else (0, 0) else ((readP b).2.1, wrap64 ((readP b).2.2 + 1000)) else (readP a).2
def pairE (a b : ByteArray) : List Acre.Ed := Acre.edgesOf (readP a).1 ++ Acre.edgesOf (readP b).1
structure PairPost (a b : ByteArray) (op : Int) (w : World) (pv : Value) (w' : World) : Prop where
  bel : Below w.heap.size w w'
  form : ∃ (sp : Option Addr) (n c : Nat) (k o : Int), pv = .agg #[.slice sp n c, .int .i64 k, .int .i64 o]
  yes : (errP a b op).1 = 0 → ∃ u, pv = .agg #[u, .int .i64 (Acre.edgesOf (readP a).1).length, .int .i64 op] ∧ w'.ownsRow w.heap.size 42 4 u (pairE a b).length (flatE (pairE a b))

set_option maxRecDepth 100000 in
set_option maxHeartbeats 2000000 in
theorem readPair_any (a b : ByteArray) (op : Int) (w : World) : Calls Tryz.prog 13 #[.string a, .string b, .int .i64 op] w fun e w' => ∃ pv, e = .returned (.tuple #[pv, .int .i64 (errP a b op).1, .int .i64 (errP a b op).2]) ∧ PairPost a b op w pv w' := by
  obtain ⟨i0, hi, hz0, hz1, hz2⟩ := info_parts info46
  have HA := hide (fun V => read_any a V)
  have HB := hide (fun V => read_any b V)
  unfold ReadPost at HA HB
  by_cases ha : (readP a).2.1 = 0
  · by_cases hb : (readP b).2.1 = 0
    · by_cases ho : op < 0 ∨ 3 < op
      · have he : Hid (errP a b op = (6, 0)) := hide (by unfold errP; rw [if_pos ha, if_pos hb, if_pos ho])
        obtain ⟨X, hX⟩ : ∃ X, readP a = X := ⟨_, rfl⟩
        obtain ⟨Y, hY⟩ : ∃ Y, readP b = Y := ⟨_, rfl⟩
        rw [hX] at HA ha
        rw [hY] at HB hb
        obtain ⟨R, c, at'⟩ := X
        obtain ⟨S, d, at2⟩ := Y
        dsimp only at HA HB ha hb
        subst ha
        subst hb
        go_enter Tryz.func13, Tryz.ntmps13
        have q1 := below1 w (.cells #[.slice none 0 0, .int .i64 0, .int .i64 0] 48)
        have bb := Box.new w [.slice none 0 0, .int .i64 0, .int .i64 0] 48
        go_upto_region 1 with fail
        generalize w.alloc (.cells #[.slice none 0 0, .int .i64 0, .int .i64 0] 48) = W0 at *
        have hs0 := bb.lt (by simp)
        go_upto_region 4 with (first | (go_at_call 23; refine (HA.out W0).mono ?_; rintro e w1 ⟨u, rfl, hA, hb1⟩) | go_in)
        go_upto_region 7 with (first | (go_at_call 23; refine (HB.out w1).mono ?_; rintro e w2 ⟨u2, rfl, hA2, hb2⟩) | go_in)
        have bx := (bb.later (by simp) hb1).later (by simp) hb2
        have ho2 : op < 0 ∨ (0 ≤ op ∧ 3 < op) := by omega
        have HB1 := hide (below_call hb2 (below_call hb1 q1))
        have k0 := bx.c 0 _ rfl
        have k1 := bx.c 1 _ rfl
        have k2 := bx.c 2 _ rfl
        have g0 := bx.f 0 (by simp)
        have g1 := bx.f 1 (by simp)
        have g2 := bx.f 2 (by simp)
        clear bx bb
        rcases ho2 with ho2 | ⟨ho2, ho3⟩
        all_goals
          go_wp2
          refine bodyPost_ret (v := .tuple #[.agg #[.slice none 0 0, .int .i64 0, .int .i64 0], .int .i64 6, .int .i64 0]) ?_ rfl ⟨_, by rw [he.out], ?_⟩
          · simp [results, Tryz.results13, go_sem, k0, k1, k2]
          · exact ⟨((HB1.out.setCell (p := ⟨w.heap.size, 0, none⟩) (Nat.le_refl _) _).setCell (p := ⟨w.heap.size, 0 + 1, none⟩) (Nat.le_refl _) _).setCell (p := ⟨w.heap.size, 0 + 1 + 1, none⟩) (Nat.le_refl _) _, ⟨_, _, _, _, _, rfl⟩, fun h0 => by rw [he.out] at h0; exact absurd h0 (by simp)⟩

      · have he : Hid (errP a b op = (0, 0)) := hide (by unfold errP; rw [if_pos ha, if_pos hb, if_neg ho])
        have fa := read_field ha
        have fb := read_field hb
        have la := edges_len fa
        have lb := edges_len fb
        have hpe : Hid (pairE a b = Acre.edgesOf (readP a).1 ++ Acre.edgesOf (readP b).1) := hide rfl
        obtain ⟨X, hX⟩ : ∃ X, readP a = X := ⟨_, rfl⟩
        obtain ⟨Y, hY⟩ : ∃ Y, readP b = Y := ⟨_, rfl⟩
        rw [hX] at HA ha fa la hpe
        rw [hY] at HB hb fb lb hpe
        have HX := hide hX
        clear hX hY
        obtain ⟨R, c, at'⟩ := X
        obtain ⟨S, d, at2⟩ := Y
        dsimp only at HA HB ha hb fa fb la lb hpe
        subst ha
        subst hb
        obtain ⟨EA, hEA⟩ : ∃ EA, Acre.edgesOf R = EA := ⟨_, rfl⟩
        obtain ⟨EB, hEB⟩ : ∃ EB, Acre.edgesOf S = EB := ⟨_, rfl⟩
        have HEA := hide (fun (V : World) (v : Value) (h : Rings V v R) => edgesOf_any R v V h fa)
        have HEB := hide (fun (V : World) (v : Value) (h : Rings V v S) => edgesOf_any S v V h fb)
        have HEq := hide hEA
        rw [hEA] at la hpe HEA
        rw [hEB] at lb hpe HEB
        clear hEA hEB fa fb
        go_enter Tryz.func13, Tryz.ntmps13
        have q1 := below1 w (.cells #[.slice none 0 0, .int .i64 0, .int .i64 0] 48)
        have bb := Box.new w [.slice none 0 0, .int .i64 0, .int .i64 0] 48
        go_upto_region 1 with fail
        generalize w.alloc (.cells #[.slice none 0 0, .int .i64 0, .int .i64 0] 48) = W0 at *
        have hs0 := bb.lt (by simp)
        go_upto_region 4 with (first | (go_at_call 23; refine (HA.out W0).mono ?_; rintro e w1 ⟨u, rfl, hA, hb1⟩) | go_in)
        go_upto_region 7 with (first | (go_at_call 23; refine (HB.out w1).mono ?_; rintro e w2 ⟨u2, rfl, hA2, hb2⟩) | go_in)
        have bx := (bb.later (by simp) hb1).later (by simp) hb2
        have HR1 := hide (hA.rings.later hb2)
        have HR2 := hide hA2.rings
        have HB1 := hide (below_call hb2 (below_call hb1 q1))
        have hws : w.heap.size < w2.heap.size := bx.lt (by simp)
        clear hA hA2 hb1 hb2 bb
        have ho2 : ¬ op < 0 := by omega
        have ho3 : ¬ 3 < op := by omega
        go_upto_region 10 with (first | (go_at_call 24; refine (HEA.out w2 u HR1.out).mono ?_; rintro e w3 ⟨v3, rfl, hrow3, hb3⟩) | go_in)
        have bx3 := bx.later (by simp) hb3
        have hr2 := HR2.out.later hb3
        obtain ⟨xa, xb, xcap, rfl, hxa, _⟩ := row_form hrow3
        go_wp2_with (first
          | (go_at_call 24; refine (HEB.out w3 u2 hr2).mono ?_; rintro e w4 ⟨v4, rfl, hrow4, hb4⟩)
          | (at_builtin; refine wpList_append_rows rfl _ _ 46 rfl w2.heap.size 42 i0 _ 4 32 Tryz.underlying46 hi hz0 hz1 hz2 rfl (by decide) _ _ _ rfl (row_call hrow3 hb4) _ _ _ _ rfl hrow4 (flatE_one EB) (by unfold maxLen; omega) (by omega) (by have := hb3.size; have := hb4.size; omega) ?_; intro v5 w5 hrow5 hg5; obtain ⟨ya, yb, ycap, rfl, hya, _⟩ := row_form hrow5; have bx5 := (bx3.later (by simp) hb4).kept (by simp) hg5 (fun e => by have := (hrow3.lt _ e).1; omega); have k0 := bx5.c 0 _ rfl; have k1 := bx5.c 1 _ rfl; have k2 := bx5.c 2 _ rfl; have g0 := bx5.f 0 (by simp); have g1 := bx5.f 1 (by simp); have g2 := bx5.f 2 (by simp); have HH := hide (And.intro hrow5 hg5); clear hrow5 hg5 bx5)
          | go_in)
        refine bodyPost_ret (v := .tuple #[.agg #[.slice ya (EA.length + EB.length) ycap, .int .i64 EA.length, .int .i64 op], .int .i64 0, .int .i64 0]) ?_ rfl ⟨_, by rw [he.out], ?_⟩
        · simp [results, Tryz.results13, go_sem, k0, k1, k2]
        · have hB5 : Below w.heap.size w w5 := (below_call hb4 (below_call hb3 HB1.out)).grown HH.out.2 (by have := hb3.size; have := hb4.size; omega) (fun k e => by have := (hrow3.lt k e).1; omega)
          refine ⟨((hB5.setCell (p := ⟨w.heap.size, 0, none⟩) (Nat.le_refl _) _).setCell (p := ⟨w.heap.size, 0 + 1, none⟩) (Nat.le_refl _) _).setCell (p := ⟨w.heap.size, 0 + 1 + 1, none⟩) (Nat.le_refl _) _, ⟨_, _, _, _, _, rfl⟩, fun _ => ⟨.slice ya (EA.length + EB.length) ycap, ?_, ?_⟩⟩
          · rw [HX.out]
            dsimp only
            rw [HEq.out]
          · have e : flatE (EA ++ EB) = flatE EA ++ flatE EB := by unfold flatE; rw [List.flatMap_append]
            rw [hpe.out, List.length_append, e]
            exact row_base (ownsRow_setCell_below (a := ⟨w.heap.size, 0 + 1 + 1, none⟩) (ownsRow_setCell_below (a := ⟨w.heap.size, 0 + 1, none⟩) (ownsRow_setCell_below (a := ⟨w.heap.size, 0, none⟩) HH.out.1 hws _) hws _) hws _) (by omega)

    · have he : Hid (errP a b op = ((readP b).2.1, wrap64 ((readP b).2.2 + 1000))) := hide (by unfold errP; rw [if_pos ha, if_neg hb])
      obtain ⟨X, hX⟩ : ∃ X, readP a = X := ⟨_, rfl⟩
      obtain ⟨Y, hY⟩ : ∃ Y, readP b = Y := ⟨_, rfl⟩
      rw [hX] at HA ha
      rw [hY] at HB he hb
      obtain ⟨R, c, at'⟩ := X
      obtain ⟨S, d, at2⟩ := Y
      dsimp only at HA HB he ha hb
      subst ha
      go_enter Tryz.func13, Tryz.ntmps13
      have q1 := below1 w (.cells #[.slice none 0 0, .int .i64 0, .int .i64 0] 48)
      have bb := Box.new w [.slice none 0 0, .int .i64 0, .int .i64 0] 48
      go_upto_region 1 with fail
      generalize w.alloc (.cells #[.slice none 0 0, .int .i64 0, .int .i64 0] 48) = W0 at *
      have hs0 := bb.lt (by simp)
      go_upto_region 4 with (first | (go_at_call 23; refine (HA.out W0).mono ?_; rintro e w1 ⟨u, rfl, hA, hb1⟩) | go_in)
      go_upto_region 6 with (first | (go_at_call 23; refine (HB.out w1).mono ?_; rintro e w2 ⟨u2, rfl, hA2, hb2⟩) | go_in)
      have bx := (bb.later (by simp) hb1).later (by simp) hb2
      have k0 := bx.c 0 _ rfl
      have k1 := bx.c 1 _ rfl
      have k2 := bx.c 2 _ rfl
      have g0 := bx.f 0 (by simp)
      have g1 := bx.f 1 (by simp)
      have g2 := bx.f 2 (by simp)
      have HB1 := hide (below_call hb2 (below_call hb1 q1))
      clear bx bb
      go_wp2
      refine bodyPost_ret (v := .tuple #[.agg #[.slice none 0 0, .int .i64 0, .int .i64 0], .int .i64 d, .int .i64 (wrap64 (at2 + 1000))]) ?_ rfl ⟨_, by rw [he.out], ?_⟩
      · simp [results, Tryz.results13, go_sem, k0, k1, k2]
      · exact ⟨((HB1.out.setCell (p := ⟨w.heap.size, 0, none⟩) (Nat.le_refl _) _).setCell (p := ⟨w.heap.size, 0 + 1, none⟩) (Nat.le_refl _) _).setCell (p := ⟨w.heap.size, 0 + 1 + 1, none⟩) (Nat.le_refl _) _, ⟨_, _, _, _, _, rfl⟩, fun h0 => by rw [he.out] at h0; exact absurd h0 (by simp [*])⟩

  · have he : Hid (errP a b op = (readP a).2) := hide (by unfold errP; rw [if_neg ha])
    obtain ⟨X, hX⟩ : ∃ X, readP a = X := ⟨_, rfl⟩
    rw [hX] at HA he ha
    obtain ⟨R, c, at'⟩ := X
    dsimp only at HA he ha
    go_enter Tryz.func13, Tryz.ntmps13
    have q1 := below1 w (.cells #[.slice none 0 0, .int .i64 0, .int .i64 0] 48)
    have bb := Box.new w [.slice none 0 0, .int .i64 0, .int .i64 0] 48
    go_upto_region 1 with fail
    generalize w.alloc (.cells #[.slice none 0 0, .int .i64 0, .int .i64 0] 48) = W0 at *
    have hs0 := bb.lt (by simp)
    go_upto_region 3 with (first | (go_at_call 23; refine (HA.out W0).mono ?_; rintro e w1 ⟨u, rfl, hA, hb1⟩) | go_in)
    have bx := bb.later (by simp) hb1
    have k0 := bx.c 0 _ rfl
    have k1 := bx.c 1 _ rfl
    have k2 := bx.c 2 _ rfl
    have g0 := bx.f 0 (by simp)
    have g1 := bx.f 1 (by simp)
    have g2 := bx.f 2 (by simp)
    have HB1 := hide (below_call hb1 q1)
    clear bx bb
    go_wp2
    refine bodyPost_ret (v := .tuple #[.agg #[.slice none 0 0, .int .i64 0, .int .i64 0], .int .i64 c, .int .i64 at']) ?_ rfl ⟨_, by rw [he.out], ?_⟩
    · simp [results, Tryz.results13, go_sem, k0, k1, k2]
    · exact ⟨((HB1.out.setCell (p := ⟨w.heap.size, 0, none⟩) (Nat.le_refl _) _).setCell (p := ⟨w.heap.size, 0 + 1, none⟩) (Nat.le_refl _) _).setCell (p := ⟨w.heap.size, 0 + 1 + 1, none⟩) (Nat.le_refl _) _, ⟨_, _, _, _, _, rfl⟩, fun h0 => by rw [he.out] at h0; exact absurd h0 (by simp [*])⟩

end Go.Proofs.YtkjlkbgdkdcboaaGreatDoor
