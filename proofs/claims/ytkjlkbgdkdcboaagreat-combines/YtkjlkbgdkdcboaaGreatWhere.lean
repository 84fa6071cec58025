import Derived.Test.YtkjlkbgdkdcboaaGreatMtA

set_option linter.unusedSimpArgs false
set_option linter.unusedVariables false

set_option linter.unusedSimpArgs false
set_option linter.unusedVariables false

namespace Go.Proofs.YtkjlkbgdkdcboaaGreat
open Go.RowKit Go.Maps
attribute [local go_sem ↓] Go.wp_at_zero Go.wp_at_succ

def whereP (R : List (List Acre.Pt)) (x y : Int × Int) : Int × Int :=
  if Acre.fieldOk R && (Acre.near x && Acre.near y) then
    if ((Acre.edgesOf R).map Acre.up).any (fun e => Acre.isOnE e x y) then (1, 0)
    else if ((Acre.edgesOf R).map Acre.up).countP (fun e => Acre.isR e x y) % 2 = 1 then (2, 0) else (0, 0)
  else (0, 6)

theorem near_fr {f : Int × Int} (h : Acre.near f = true) : Fr f.1 f.2 := by
  unfold Acre.near at h
  simp only [Bool.and_eq_true, decide_eq_true_eq] at h
  exact ⟨⟨by omega, by omega⟩, by omega, by omega⟩

theorem getD_grid {r : List Acre.Pt} (h : r.all Acre.onGrid = true) (i : Nat) : Sm (r.getD i (0, 0)).1 ∧ Sm (r.getD i (0, 0)).2 := by
  by_cases hi : i < r.length
  · have : r.getD i (0, 0) = r[i] := by simp [List.getD, hi]
    rw [this]
    have := List.all_eq_true.1 h r[i] (List.getElem_mem hi)
    unfold Acre.onGrid at this
    simp at this
    exact ⟨⟨by omega, by omega⟩, ⟨by omega, by omega⟩⟩
  · have : r.getD i (0, 0) = (0, 0) := by simp [List.getD, hi]
    rw [this]; exact ⟨⟨by decide, by decide⟩, ⟨by decide, by decide⟩⟩
theorem edges_sm {R : List (List Acre.Pt)} (h : Acre.fieldOk R = true) : ∀ e ∈ Acre.edgesOf R, SmE e := by
  intro e he
  unfold Acre.edgesOf at he
  obtain ⟨r, hr, he⟩ := List.mem_flatMap.1 he
  unfold Acre.edgesTo at he
  obtain ⟨i, _, rfl⟩ := List.mem_map.1 he
  have hg : r.all Acre.onGrid = true := by
    unfold Acre.fieldOk at h
    simp only [Bool.and_eq_true, List.all_eq_true] at h
    have := h.2 r hr
    unfold Acre.ringOk at this
    simp only [Bool.and_eq_true] at this
    exact this.2
  exact ⟨getD_grid hg _, getD_grid hg _⟩
theorem edges_len {R : List (List Acre.Pt)} (h : Acre.fieldOk R = true) : (Acre.edgesOf R).length ≤ 12 := by
  have h2 := fieldOk_len h
  have hk := fieldOk_ring h
  match R, h2 with
  | [], _ => simp [Acre.edgesOf]
  | [a], _ => have := hk 0 (by simp); simp [Acre.edgesOf, Acre.edgesTo] at *; omega
  | [a, b], _ => have := hk 0 (by simp); have := hk 1 (by simp); simp [Acre.edgesOf, Acre.edgesTo] at *; omega

/-- those that have been met -/
def metBy (left : Lit → Bool) (U : List Acre.Ed) : List Acre.Ed := U.filter fun e => !left (keE e)

theorem met_start {D : DataW Unit} {U : List Acre.Ed} (hc : Cnt D U) (hs : ∀ e ∈ U, SmE e) : metBy (Maps.has D) U = [] := by
  unfold metBy
  rw [List.filter_eq_nil_iff]
  intro e he
  rw [hc.has e (hs e he)]; simp [he]
theorem met_end {left : Lit → Bool} {U : List Acre.Ed} (h : ∀ kl, left kl = false) : metBy left U = U := by
  unfold metBy
  rw [List.filter_eq_self]
  intro e _; rw [h]; rfl
theorem met_step {left : Lit → Bool} {U : List Acre.Ed} {f : Acre.Ed} (hs : ∀ e ∈ U, SmE e) (hf : SmE f) (hl : left (keE f) = true) (P : Acre.Ed → Bool) :
    (metBy (fun z => left z && !z.sameKey (keE f)) U).countP P = (metBy left U).countP P + (if P f then U.count f else 0) := by
  unfold metBy
  induction U with
  | nil => simp
  | cons e r ih =>
    have ih := ih (fun x hx => hs x (by simp [hx]))
    have he := hs e (by simp)
    by_cases hq : e = f
    · subst hq
      have h1 : (keE e).sameKey (keE e) = true := by simp [keE, ke, Lit.sameKey]
      rw [List.filter_cons, List.filter_cons]
      dsimp only at ih ⊢
      simp only [h1, hl, Bool.not_true, Bool.and_false, Bool.not_false, if_true, Bool.false_eq_true, if_false]
      rw [List.countP_cons, ih, List.count_cons_self]
      split <;> omega
    · have h1 : (keE e).sameKey (keE f) = false := sameKey_ne (fun e' => hq (keE_inj he hf e'))
      rw [List.filter_cons, List.filter_cons]
      dsimp only at ih ⊢
      simp only [h1, Bool.not_false, Bool.and_true]
      have hcf : List.count f (e :: r) = List.count f r := List.count_cons_of_ne (by exact hq)
      rw [hcf]
      split
      · rw [List.countP_cons, List.countP_cons, ih]; omega
      · exact ih

theorem on_step {left : Lit → Bool} {U : List Acre.Ed} {f : Acre.Ed} (hs : ∀ e ∈ U, SmE e) (hf : SmE f) {P : Acre.Ed → Bool} (h0 : ∀ e ∈ U, left (keE e) = false → P e = false) (hp : P f = false) :
    ∀ e ∈ U, (left (keE e) && !(keE e).sameKey (keE f)) = false → P e = false := by
  intro e he h
  by_cases hq : e = f
  · subst hq; exact hp
  · rw [sameKey_ne (fun e' => hq (keE_inj (hs e he) hf e'))] at h
    simp at h
    exact h0 e he h

theorem whereP_no {R : List (List Acre.Pt)} {x y : Int × Int} (h : (Acre.fieldOk R && (Acre.near x && Acre.near y)) = false) : whereP R x y = (0, 6) := by unfold whereP; rw [h]; rfl

/-- two fractions in boxes -/
structure FB (B : Nat) (x y : Int × Int) (w : World) : Prop where
  l0 : B < w.heap.size
  l1 : B + 1 < w.heap.size
  x0 : w.cell? ⟨B, 0, none⟩ = some (.int .i64 x.1)
  x1 : w.cell? ⟨B, 1, none⟩ = some (.int .i64 x.2)
  y0 : w.cell? ⟨B + 1, 0, none⟩ = some (.int .i64 y.1)
  y1 : w.cell? ⟨B + 1, 1, none⟩ = some (.int .i64 y.2)
theorem FB.later {B : Nat} {x y : Int × Int} {w w' : World} (m : FB B x y w) (hb : Below w.heap.size w w') : FB B x y w' :=
  ⟨Nat.lt_of_lt_of_le m.l0 hb.size, Nat.lt_of_lt_of_le m.l1 hb.size, cell_later hb m.x0, cell_later hb m.x1, cell_later hb m.y0, cell_later hb m.y1⟩
theorem FB.start (w : World) (x y : Int × Int) (t1 t2 : TypeId) : FB w.heap.size x y ((w.alloc (.cells #[.int .i64 x.1, .int .i64 x.2] t1)).alloc (.cells #[.int .i64 y.1, .int .i64 y.2] t2)) := by
  constructor <;> simp [go_sem]

theorem FB.low {B : Nat} {x y : Int × Int} {w w' : World} (m : FB B x y w) (hb : Below (B + 1 + 1) w w') : FB B x y w' := by
  have cl : ∀ {a : Addr} {v : Value}, a.block < B + 1 + 1 → w.cell? a = some v → w'.cell? a = some v := fun h1 h2 => (hb.cell h1).trans h2
  exact ⟨Nat.lt_of_lt_of_le m.l0 hb.size, Nat.lt_of_lt_of_le m.l1 hb.size, cl (by dsimp only; omega) m.x0, cl (by dsimp only; omega) m.x1, cl (by dsimp only; omega) m.y0, cl (by dsimp only; omega) m.y1⟩
theorem ranges_call {w w' : World} {k : TypeId} {Rd : Value → Option (DataW Unit × List MemPlace)} {b r n : Nat} {D : DataW Unit} {left : Lit → Bool} {cnt : Nat} (h : w.ranges Tryz.prog k Rd b r n D left cnt) (hb : Below w.heap.size w w') : w'.ranges Tryz.prog k Rd b r n D left cnt :=
  h.kept (row := none) ⟨hb.os, hb.tape, hb.output, hb.size, fun i hi _ => hb.block i hi⟩ (by simp) (by simp)
theorem invI (v : Value) (y : DataW Unit × List MemPlace) (h : plainElem Tryz.prog 3 v = some y) : ∃ c, v = Value.int .i64 c := by
  obtain ⟨c, rfl, _⟩ := plainElem_int_inv Tryz.underlying3 h
  exact ⟨c, rfl⟩
theorem whereP_on {R : List (List Acre.Pt)} {x y : Int × Int} (h : (Acre.fieldOk R && (Acre.near x && Acre.near y)) = true) {e : Acre.Ed} (he : e ∈ (Acre.edgesOf R).map Acre.up) (ho : Acre.isOnE e x y = true) : whereP R x y = (1, 0) := by
  unfold whereP; rw [h, if_pos rfl, if_pos (List.any_eq_true.2 ⟨e, he, ho⟩)]
theorem whereP_par {R : List (List Acre.Pt)} {x y : Int × Int} (h : (Acre.fieldOk R && (Acre.near x && Acre.near y)) = true) (ho : ∀ e ∈ (Acre.edgesOf R).map Acre.up, Acre.isOnE e x y = false) :
    whereP R x y = if ((Acre.edgesOf R).map Acre.up).countP (fun e => Acre.isR e x y) % 2 = 1 then (2, 0) else (0, 0) := by
  unfold whereP; rw [h, if_pos rfl, if_neg]
  rw [List.any_eq_true]
  rintro ⟨e, he, h'⟩
  rw [ho e he] at h'; exact absurd h' (by simp)

set_option maxRecDepth 100000 in
set_option maxHeartbeats 4000000 in
theorem where_any (R : List (List Acre.Pt)) (v : Value) (x y : Int × Int) (w : World) (hR : Rings w v R) (hn : R.length ≤ maxLen) (hm : ∀ r ∈ R, r.length ≤ maxLen) :
    Calls Tryz.prog 16 #[v, .agg #[.int .i64 x.1, .int .i64 x.2], .agg #[.int .i64 y.1, .int .i64 y.2]] w fun e w' => e = .returned (.tuple #[.int .i64 (whereP R x y).1, .int .i64 (whereP R x y).2]) ∧ Below w.heap.size w w' := by
  have m0 := FB.start w x y 33 33
  have q0 := below2 w (.cells #[.int .i64 x.1, .int .i64 x.2] 33) (.cells #[.int .i64 y.1, .int .i64 y.2] 33)
  cases hF : Acre.fieldOk R
  · have HW : Hid _ := whereP_no (x := x) (y := y) (by rw [hF]; rfl)
    go_enter Tryz.func16, Tryz.ntmps16
    go_wp2_with fail
    refine (isField_any R v _ (hR.later q0) hn hm).mono ?_
    rintro e w1 ⟨rfl, hb1⟩
    rw [hF]
    go_wp2
    go_ret2
    exact ⟨by rw [HW.out]; rfl, below_call hb1 q0⟩
  · cases hX : Acre.near x
    · have HW : Hid _ := whereP_no (R := R) (y := y) (by rw [hX]; simp)
      have k24 : ∀ V : World, Calls Tryz.prog 40 #[.agg #[.int .i64 x.1, .int .i64 x.2], .int .i64 13] V fun e w' => e = .returned (.bool false) ∧ Below V.heap.size V w' := fun V => by
        have := isNear_any x.1 x.2 V; rw [← hX]; exact this
      have H24 : Hid _ := k24
      clear k24
      go_enter Tryz.func16, Tryz.ntmps16
      go_wp2_with fail
      refine (isField_any R v _ (hR.later q0) hn hm).mono ?_
      rintro e w1 ⟨rfl, hb1⟩
      rw [hF]
      have m1 := m0.later hb1
      obtain ⟨l0, l1, x0, x1, y0, y1⟩ := id m1
      go_wp2_with fail
      refine (H24.out _).mono ?_
      rintro e w2 ⟨rfl, hb2⟩
      go_wp2
      go_ret2
      exact ⟨by rw [HW.out]; rfl, below_call hb2 (below_call hb1 q0)⟩
    · have k24 : ∀ V : World, Calls Tryz.prog 40 #[.agg #[.int .i64 x.1, .int .i64 x.2], .int .i64 13] V fun e w' => e = .returned (.bool true) ∧ Below V.heap.size V w' := fun V => by
        have := isNear_any x.1 x.2 V; rw [← hX]; exact this
      have H24 : Hid _ := k24
      clear k24
      have k24y : ∀ V : World, Calls Tryz.prog 40 #[.agg #[.int .i64 y.1, .int .i64 y.2], .int .i64 13] V fun e w' => e = .returned (.bool (Acre.near y)) ∧ Below V.heap.size V w' := fun V => isNear_any y.1 y.2 V
      have H24y : Hid _ := k24y
      clear k24y
      go_enter Tryz.func16, Tryz.ntmps16
      go_wp2_with fail
      refine (isField_any R v _ (hR.later q0) hn hm).mono ?_
      rintro e w1 ⟨rfl, hb1⟩
      rw [hF]
      have m1 := m0.later hb1
      obtain ⟨l0, l1, x0, x1, y0, y1⟩ := id m1
      go_wp2_with fail
      refine (H24.out _).mono ?_
      rintro e w2 ⟨rfl, hb2⟩
      have m2 := m1.later hb2
      have q2 := below_call hb2 (below_call hb1 q0)
      clear l0 l1 x0 x1 y0 y1
      obtain ⟨l0, l1, x0, x1, y0, y1⟩ := id m2
      go_wp2_with fail
      refine (H24y.out _).mono ?_
      rintro e w3 ⟨rfl, hb3⟩
      have m3 := m2.later hb3
      have q3 := below_call hb3 q2
      clear m0 m1 m2 hb1 hb2 hb3 l0 l1 x0 x1 y0 y1 q2
      cases hY : Acre.near y
      · have HW : Hid _ := whereP_no (R := R) (x := x) (by rw [hY]; simp)
        go_wp2
        go_ret2
        exact ⟨by rw [HW.out]; rfl, q3⟩
      · go_wp2_with fail
        refine (edgesOf_any R v _ (hR.later q3) hF).mono ?_
        rintro e w4 ⟨u, rfl, hown4, hb4⟩
        go_wp2_with fail
        refine (tally_any (Acre.edgesOf R) u _ _ hown4 (edges_sm hF) (edges_len hF)).mono ?_
        rintro e w5 ⟨mb, n, DD, rfl, hn12, hmap, hcnt, hb5⟩
        have hb35 := below_call hb5 hb4
        have m5 := m3.later hb35
        have q5 := below_call hb35 q3
        go_wp2_with (first
          | (at_range; refine wpList_range_own _ rfl _ 98 rfl 37 3 (Keyed.of_law lawEd) Tryz.underlying98 _ mb n DD rfl hmap ?_; intro w6 hrg0 hg0 hs0)
          | go_in)
        go_frame
        have hall : (Acre.fieldOk R && (Acre.near x && Acre.near y)) = true := by rw [hF, hX, hY]; rfl
        have hsU : ∀ e ∈ (Acre.edgesOf R).map Acre.up, SmE e := fun e he => by
          obtain ⟨f, hf, rfl⟩ := List.mem_map.1 he
          exact up_sm (edges_sm hF f hf)
        have hon : ∀ e ∈ (Acre.edgesOf R).map Acre.up, Acre.isOnE e x y = true → whereP R x y = (1, 0) := fun e he ho => whereP_on hall he ho
        have hpar := whereP_par hall
        have hlenU : ((Acre.edgesOf R).map Acre.up).length ≤ 12 := by rw [List.length_map]; exact edges_len hF
        obtain ⟨U, hU⟩ : ∃ U, (Acre.edgesOf R).map Acre.up = U := ⟨_, rfl⟩
        rw [hU] at hcnt hsU hpar hlenU
        rw [hU] at hon
        have hon' : ∀ e ∈ U, Acre.isOnE e x y = true → whereP R x y = (1, 0) := hon
        have Hon : Hid _ := hon'
        have Hpar : Hid _ := hpar
        have hfx := near_fr hX
        have hfy := near_fr hY
        clear hon hon' hpar hU hall hown4 hb4 hb5 hmap
        have b56 : Below w5.heap.size w5 w6 := ⟨hg0.os, hg0.tape, hg0.output, hg0.size, fun i hi => hg0.block i hi (by simp)⟩
        have m6 := m5.later b56
        have q6 := below_call b56 q5
        have l51 := m5.l1
        have q5s := q5.size
        clear hb35 m3 m5 q3 q5 b56 hg0
        go_loopw [8] (fun cr wr => ∃ (left : Lit → Bool) (cnt : Nat), cr = .int .i64 ((metBy left U).countP (fun e => Acre.isR e x y) : Nat) ∧ Hid (wr.ranges Tryz.prog 37 (plainElem Tryz.prog 3) mb w5.heap.size n DD left cnt ∧ (∀ kl, left kl = true → Maps.has DD kl = true) ∧ (∀ e ∈ U, left (keE e) = false → Acre.isOnE e x y = false) ∧ FB w.heap.size x y wr ∧ Below w.heap.size w wr)) (fun _ wr => wr.rangeLeft mb w5.heap.size)
        case atStart =>
          exact ⟨Maps.has DD, Maps.size DD, by rw [met_start hcnt hsU]; rfl, hrg0, fun _ h => h, fun e he h => by rw [hcnt.has e (hsU e he)] at h; simp [he] at h, m6, q6⟩
        case round =>
          clear hrg0 m6 q6 hs0
          obtain ⟨left, cnt, rfl, hr⟩ := hrel
          obtain ⟨hrg, hleft, hono, mr, qr⟩ := hr.out
          have Hrg : Hid _ := hrg
          have Hleft : Hid _ := hleft
          have Hono : Hid _ := hono
          have hcl : ((metBy left U).countP (fun e => Acre.isR e x y) : Int) ≤ 12 := by
            have h1 := List.countP_le_length (p := fun e => Acre.isR e x y) (l := metBy left U)
            have h2 : (metBy left U).length ≤ U.length := List.length_filter_le _ _
            omega
          have hcl0 : (0 : Int) ≤ ((metBy left U).countP (fun e => Acre.isR e x y) : Int) := Int.natCast_nonneg _
          clear hleft hono hr
          go_wp2_with (first
            | (at_next; refine wpList_next_ranges _ rfl _ rfl 37 (Keyed.of_law lawEd) _ edV4 (Value.int .i64) invE invI mb w5.heap.size n DD left cnt rfl hrg ?_ ?_)
            | go_in)
          · intro _ hl0
            have hp := Hpar.out (fun e he => Hono.out e he (hl0 _))
            rw [met_end hl0] at hcl hcl0 ⊢
            obtain ⟨c, hc⟩ : ∃ c, U.countP (fun e => Acre.isR e x y) = c := ⟨_, rfl⟩
            rw [hc] at hp hcl hcl0 ⊢
            have Hp : Hid _ := hp
            clear hp hc
            by_cases hpp : c % 2 = 1
            · have t1 : ((c : Int).tmod 2) = 1 := by rw [Int.tmod_eq_emod_of_nonneg hcl0]; omega
              have t2 : (c : Int) % 2 = 1 := by omega
              go_wp2
              go_ret2
              exact ⟨by rw [Hp.out, if_pos hpp]; rfl, qr⟩
            · have t1 : ((c : Int).tmod 2) = 0 := by rw [Int.tmod_eq_emod_of_nonneg hcl0]; omega
              have t2 : (c : Int) % 2 = 0 := by omega
              go_wp2
              go_ret2
              exact ⟨by rw [Hp.out, if_neg hpp]; rfl, qr⟩
          · intro a1 a2 b1 b2 c kl yv yp w7 cnt7 hkey hlk hv hat hrg7 hlt7 hg7 hs7 hen
            obtain ⟨e, heU, hkl⟩ := hcnt.keys kl (Hleft.out kl hlk)
            subst hkl
            have hse := hsU e heU
            obtain rfl : ((a1, a2), (b1, b2)) = e := by
              have := (Keyed.of_law lawEd).inj hkey (key_E hse)
              simp [edV4] at this
              exact Prod.ext (Prod.ext this.1 this.2.1) (Prod.ext this.2.2.1 this.2.2.2)
            obtain ⟨c', hc', hy', _⟩ := plainElem_int_inv Tryz.underlying3 hv
            obtain rfl : c = c' := by simpa using hc'
            have hcc : c = (U.count ((a1, a2), (b1, b2)) : Nat) := by
              have h1 := hat (.lit (.int .i64 0))
              rw [hcnt.at' _ hse] at h1
              simp only [Prod.mk.injEq] at hy'
              rw [hy'.1] at h1
              simpa using h1.symm
            subst hcc
            have b7 : Below w5.heap.size wr w7 := ⟨hg7.os, hg7.tape, hg7.output, hg7.size, fun i hi => hg7.block i (by have := hrg.lt; omega) (by simp; omega)⟩
            have m7 := mr.low (b7.mono l51)
            have q7 := qr.trans (b7.mono (by omega))
            have hcU : ((U.count ((a1, a2), (b1, b2)) : Nat) : Int) ≤ 12 := by have := List.count_le_length (a := ((a1, a2), (b1, b2))) (l := U); omega
            have hcU0 : (0 : Int) ≤ ((U.count ((a1, a2), (b1, b2)) : Nat) : Int) := Int.natCast_nonneg _
            have hst := met_step (left := left) (U := U) (f := ((a1, a2), (b1, b2))) hsU hse hlk (fun e => Acre.isR e x y)
            have Hon1 : Hid (Acre.isOnE ((a1, a2), (b1, b2)) x y = true → whereP R x y = (1, 0)) := Hon.out _ heU
            have Hos : Hid (Acre.isOnE ((a1, a2), (b1, b2)) x y = false → ∀ e ∈ U, (left (keE e) && !(keE e).sameKey (keE ((a1, a2), (b1, b2)))) = false → Acre.isOnE e x y = false) := fun h => on_step hsU hse Hono.out h
            have Hls : Hid (∀ kl, (left kl && !kl.sameKey (keE ((a1, a2), (b1, b2)))) = true → Maps.has DD kl = true) := fun kl h => Hleft.out kl (by simp at h; exact h.1)
            have Hrg7 : Hid (w7.ranges Tryz.prog 37 (plainElem Tryz.prog 3) mb w5.heap.size n DD (fun z => left z && !z.sameKey (keE ((a1, a2), (b1, b2)))) cnt7) := hrg7
            obtain ⟨cu, hcu⟩ : ∃ cu, U.count ((a1, a2), (b1, b2)) = cu := ⟨_, rfl⟩
            rw [hcu] at hcU hcU0 hen hst ⊢
            have Hst : Hid _ := hst
            have hlt := hrg.lt
            have hle := hrg.left_eq
            have Hle : Hid _ := hle
            clear hst hat hkey hy' hc' hrg hg7 hv hrg7 hcu hs7 hle
            obtain ⟨⟨g1, g2⟩, ⟨g3, g4⟩⟩ := id hse
            dsimp only at g1 g2 g3 g4
            obtain ⟨l0, l1, x0, x1, y0, y1⟩ := id m7
            go_wp2_with fail
            refine (isOn_any a1 a2 b1 b2 x.1 x.2 y.1 y.2 _ g1 g2 g3 g4 hfx hfy).mono ?_
            rintro e w8 ⟨rfl, hb8⟩
            have bb8 := below_call hb8 (below1 _ _)
            have m8 := m7.later bb8
            have q8 := below_call bb8 q7
            have c08 := cell_later hb8 (a := ⟨w7.heap.size, 0, none⟩) (v := .int .i64 a1) (by simp [go_sem])
            have c18 := cell_later hb8 (a := ⟨w7.heap.size, 1, none⟩) (v := .int .i64 a2) (by simp [go_sem])
            have c28 := cell_later hb8 (a := ⟨w7.heap.size, 2, none⟩) (v := .int .i64 b1) (by simp [go_sem])
            have c38 := cell_later hb8 (a := ⟨w7.heap.size, 3, none⟩) (v := .int .i64 b2) (by simp [go_sem])
            obtain ⟨l08, l18, x08, x18, y08, y18⟩ := id m8
            cases hO : Acre.onE a1 a2 b1 b2 x.1 x.2 y.1 y.2
            · have HO : Hid (Acre.isOnE ((a1, a2), (b1, b2)) x y = false) := hO
              clear hO
              go_wp2_with fail
              refine (isRightOf_any a1 a2 b1 b2 x y _ g1 g2 g3 g4 hfx hfy).mono ?_
              rintro e w9 ⟨rfl, hb9⟩
              have bb9 := below_call hb9 bb8
              have m9 := m7.later bb9
              have q9 := below_call bb9 q7
              have hr9 := ranges_call Hrg7.out bb9
              cases hR' : Acre.isR ((a1, a2), (b1, b2)) x y
              · have HR : Hid _ := hR'
                clear hR'
                have NN : Hid ((metBy (fun z => left z && !z.sameKey (keE ((a1, a2), (b1, b2)))) U).countP (fun e => Acre.isR e x y) = (metBy left U).countP (fun e => Acre.isR e x y)) := by
                  show _ = _; have := Hst.out; rw [HR.out] at this; simpa using this
                go_wp2
                go_roundw
                case rel => exact ⟨_, cnt7, by rw [NN.out], hr9, Hls.out, Hos.out HO.out, m9, q9⟩
                case measure => rw [hr9.left_eq, Hle.out]; exact hlt7
              · have HR : Hid _ := hR'
                clear hR'
                have NN : Hid ((metBy (fun z => left z && !z.sameKey (keE ((a1, a2), (b1, b2)))) U).countP (fun e => Acre.isR e x y) = (metBy left U).countP (fun e => Acre.isR e x y) + cu) := by
                  show _ = _; have := Hst.out; rw [HR.out] at this; simpa using this
                go_wp2
                go_roundw
                case rel => exact ⟨_, cnt7, by rw [NN.out]; go_num, hr9, Hls.out, Hos.out HO.out, m9, q9⟩
                case measure => rw [hr9.left_eq, Hle.out]; exact hlt7
            · have HO : Hid (Acre.isOnE ((a1, a2), (b1, b2)) x y = true) := hO
              clear hO
              go_wp2
              go_ret2
              exact ⟨by rw [Hon1.out HO.out]; rfl, q8⟩

end Go.Proofs.YtkjlkbgdkdcboaaGreat
