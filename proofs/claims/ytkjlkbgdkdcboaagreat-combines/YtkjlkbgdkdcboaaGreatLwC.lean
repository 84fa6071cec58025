import Derived.Test.YtkjlkbgdkdcboaaGreatChk
import Derived.Test.YtkjlkbgdkdcboaaGreatMaB
import Derived.Test.YtkjlkbgdkdcboaaGreatFiA

set_option linter.unusedSimpArgs false
set_option linter.unusedVariables false

set_option linter.unusedSimpArgs false
set_option linter.unusedVariables false

namespace Go.Proofs.YtkjlkbgdkdcboaaGreat
open Go.RowKit
attribute [local go_sem ↓] Go.wp_at_zero Go.wp_at_succ

/-- is the place in the piece? -/
def inP (p : Acre.Pc) (x y : Acre.Fc) : Bool := decide (p.1.1.1 * x.2 ≤ x.1 * p.1.1.2) && decide (x.1 * p.1.2.2 < p.1.2.1 * x.2) && decide (0 < Acre.sgn (hgtD p.2.1 x y)) && decide (Acre.sgn (hgtD p.2.2 x y) < 0)

set_option maxRecDepth 100000 in
set_option maxHeartbeats 1000000 in
theorem in_any (p : Acre.Pc) (x y : Acre.Fc) (w : World) (h1 : CutOk p.1.1) (h2 : CutOk p.1.2) (hl : SmE p.2.1) (hh : SmE p.2.2) (hx : Fr x.1 x.2) (hy : Fr y.1 y.2) :
    Calls Tryz.prog 19 #[pcV p, .agg #[.int .i64 x.1, .int .i64 x.2], .agg #[.int .i64 y.1, .int .i64 y.2]] w fun e w' => e = .returned (.bool (inP p x y)) ∧ Below w.heap.size w w' := by
  have HL := hide (fun V => lheight_any p.2.1 x y V hl hx hy)
  have HH := hide (fun V => lheight_any p.2.2 x y V hh hx hy)
  have b1 := h1.n
  have b2 := h2.n
  have m1 := Acre.mul_bd x.1 p.1.1.2 60000 1152 (by omega) (by omega)
  have m2 := Acre.mul_bd p.1.1.1 x.2 13824 2000 (by omega) (by omega)
  have m3 := Acre.mul_bd x.1 p.1.2.2 60000 1152 (by omega) (by omega)
  have m4 := Acre.mul_bd p.1.2.1 x.2 13824 2000 (by omega) (by omega)
  have HI : Hid (inP p x y = (decide (p.1.1.1 * x.2 ≤ x.1 * p.1.1.2) && decide (x.1 * p.1.2.2 < p.1.2.1 * x.2) && decide (0 < Acre.sgn (hgtD p.2.1 x y)) && decide (Acre.sgn (hgtD p.2.2 x y) < 0))) := rfl
  generalize Acre.sgn (hgtD p.2.1 x y) = s1 at *
  generalize Acre.sgn (hgtD p.2.2 x y) = s2 at *
  generalize inP p x y = r at *
  obtain ⟨⟨⟨f1, f2⟩, ⟨t1, t2⟩⟩, ⟨⟨⟨l0, l1⟩, ⟨l2, l3⟩⟩, ⟨⟨k0, k1⟩, ⟨k2, k3⟩⟩⟩⟩ := p
  obtain ⟨x1, x2⟩ := x
  obtain ⟨y1, y2⟩ := y
  dsimp only at HL HH HI b1 b2 m1 m2 m3 m4 hx hy ⊢
  have hv : pcV (((f1, f2), (t1, t2)), (((l0, l1), (l2, l3)), ((k0, k1), (k2, k3)))) = .agg #[.int .i64 f1, .int .i64 f2, .int .i64 t1, .int .i64 t2, .int .i64 l0, .int .i64 l1, .int .i64 l2, .int .i64 l3, .int .i64 k0, .int .i64 k1, .int .i64 k2, .int .i64 k3] := rfl
  rw [hv]
  clear hv h1 h2 hl hh
  have hB := below3 w (.cells #[.int .i64 f1, .int .i64 f2, .int .i64 t1, .int .i64 t2, .int .i64 l0, .int .i64 l1, .int .i64 l2, .int .i64 l3, .int .i64 k0, .int .i64 k1, .int .i64 k2, .int .i64 k3] 39) (.cells #[.int .i64 x1, .int .i64 x2] 33) (.cells #[.int .i64 y1, .int .i64 y2] 33)
  have bP : Box (((w.alloc (.cells #[.int .i64 f1, .int .i64 f2, .int .i64 t1, .int .i64 t2, .int .i64 l0, .int .i64 l1, .int .i64 l2, .int .i64 l3, .int .i64 k0, .int .i64 k1, .int .i64 k2, .int .i64 k3] 39)).alloc (.cells #[.int .i64 x1, .int .i64 x2] 33)).alloc (.cells #[.int .i64 y1, .int .i64 y2] 33)) w.heap.size [.int .i64 f1, .int .i64 f2, .int .i64 t1, .int .i64 t2, .int .i64 l0, .int .i64 l1, .int .i64 l2, .int .i64 l3, .int .i64 k0, .int .i64 k1, .int .i64 k2, .int .i64 k3] := ((Box.new w [.int .i64 f1, .int .i64 f2, .int .i64 t1, .int .i64 t2, .int .i64 l0, .int .i64 l1, .int .i64 l2, .int .i64 l3, .int .i64 k0, .int .i64 k1, .int .i64 k2, .int .i64 k3] 39).later (by simp) (below1 _ _)).later (by simp) (below1 _ _)
  have bX : Box (((w.alloc (.cells #[.int .i64 f1, .int .i64 f2, .int .i64 t1, .int .i64 t2, .int .i64 l0, .int .i64 l1, .int .i64 l2, .int .i64 l3, .int .i64 k0, .int .i64 k1, .int .i64 k2, .int .i64 k3] 39)).alloc (.cells #[.int .i64 x1, .int .i64 x2] 33)).alloc (.cells #[.int .i64 y1, .int .i64 y2] 33)) (w.heap.size + 1) [.int .i64 x1, .int .i64 x2] := by
    have := (Box.new (w.alloc (.cells #[.int .i64 f1, .int .i64 f2, .int .i64 t1, .int .i64 t2, .int .i64 l0, .int .i64 l1, .int .i64 l2, .int .i64 l3, .int .i64 k0, .int .i64 k1, .int .i64 k2, .int .i64 k3] 39)) [.int .i64 x1, .int .i64 x2] 33).later (by simp) (below1 _ (.cells #[.int .i64 y1, .int .i64 y2] 33))
    simpa using this
  have bY : Box (((w.alloc (.cells #[.int .i64 f1, .int .i64 f2, .int .i64 t1, .int .i64 t2, .int .i64 l0, .int .i64 l1, .int .i64 l2, .int .i64 l3, .int .i64 k0, .int .i64 k1, .int .i64 k2, .int .i64 k3] 39)).alloc (.cells #[.int .i64 x1, .int .i64 x2] 33)).alloc (.cells #[.int .i64 y1, .int .i64 y2] 33)) (w.heap.size + 1 + 1) [.int .i64 y1, .int .i64 y2] := by
    have := Box.new ((w.alloc (.cells #[.int .i64 f1, .int .i64 f2, .int .i64 t1, .int .i64 t2, .int .i64 l0, .int .i64 l1, .int .i64 l2, .int .i64 l3, .int .i64 k0, .int .i64 k1, .int .i64 k2, .int .i64 k3] 39)).alloc (.cells #[.int .i64 x1, .int .i64 x2] 33)) [.int .i64 y1, .int .i64 y2] 33
    simpa using this
  go_enter Tryz.func19, Tryz.ntmps19
  go_upto_region 1 with fail
  generalize ((w.alloc (.cells #[.int .i64 f1, .int .i64 f2, .int .i64 t1, .int .i64 t2, .int .i64 l0, .int .i64 l1, .int .i64 l2, .int .i64 l3, .int .i64 k0, .int .i64 k1, .int .i64 k2, .int .i64 k3] 39)).alloc (.cells #[.int .i64 x1, .int .i64 x2] 33)).alloc (.cells #[.int .i64 y1, .int .i64 y2] 33) = W0 at *
  have p0 := bP.c 0 _ rfl
  have p1 := bP.c 1 _ rfl
  have p2 := bP.c 2 _ rfl
  have p3 := bP.c 3 _ rfl
  have p4 := bP.c 4 _ rfl
  have p5 := bP.c 5 _ rfl
  have p6 := bP.c 6 _ rfl
  have p7 := bP.c 7 _ rfl
  have e0 := bX.c 0 _ rfl
  have e1 := bX.c 1 _ rfl
  have g0 := bY.c 0 _ rfl
  have g1 := bY.c 1 _ rfl
  by_cases c1 : f1 * x2 ≤ x1 * f2
  · have d1 : decide (f1 * x2 ≤ x1 * f2) = true := decide_eq_true c1
    by_cases c2 : x1 * t2 < t1 * x2
    · have d2 : decide (x1 * t2 < t1 * x2) = true := decide_eq_true c2
      by_cases c3 : 0 < s1
      · have d3 : decide (0 < s1) = true := decide_eq_true c3
        have HR := hide (show r = decide (s2 < 0) by rw [HI.out, d1, d2, d3]; simp)
        clear HI
        go_wp2_with fail
        refine (HL.out _).mono ?_
        rintro e w1 ⟨rfl, hb1⟩
        have bP1 := bP.later (by simp) hb1
        have bX1 := bX.later (by simp) hb1
        have bY1 := bY.later (by simp) hb1
        have hB1 := below_call hb1 hB
        have q8 := bP1.c 8 _ rfl
        have q9 := bP1.c 9 _ rfl
        have q10 := bP1.c 10 _ rfl
        have q11 := bP1.c 11 _ rfl
        have u0 := bX1.c 0 _ rfl
        have u1 := bX1.c 1 _ rfl
        have v0 := bY1.c 0 _ rfl
        have v1 := bY1.c 1 _ rfl
        go_wp2_with fail
        refine (HH.out _).mono ?_
        rintro e w2 ⟨rfl, hb2⟩
        have HB2 := hide (below_call hb2 hB1)
        clear hb2 hb1
        go_wp2
        go_ret
        exact ⟨by rw [HR.out]; rfl, HB2.out⟩
      · have d3 : decide (0 < s1) = false := decide_eq_false c3
        have HR := hide (show r = false by rw [HI.out, d3]; simp)
        clear HI
        go_wp2_with fail
        refine (HL.out _).mono ?_
        rintro e w1 ⟨rfl, hb1⟩
        have HB1 := hide (below_call hb1 hB)
        clear hb1
        go_wp2
        go_ret
        exact ⟨by rw [HR.out]; rfl, HB1.out⟩
    · have d2 : decide (x1 * t2 < t1 * x2) = false := decide_eq_false c2
      have HR := hide (show r = false by rw [HI.out, d2]; simp)
      have HB := hide hB
      clear HI hB
      go_wp2
      go_ret
      exact ⟨by rw [HR.out]; rfl, HB.out⟩
  · have d1 : decide (f1 * x2 ≤ x1 * f2) = false := decide_eq_false c1
    have HR := hide (show r = false by rw [HI.out, d1]; simp)
    have HB := hide hB
    clear HI hB
    go_wp2
    go_ret
    exact ⟨by rw [HR.out]; rfl, HB.out⟩

end Go.Proofs.YtkjlkbgdkdcboaaGreat

namespace Go.Proofs.YtkjlkbgdkdcboaaGreat
open Go.RowKit

theorem hD_off (a b : Acre.Pt) (x y : Acre.Fc) : hD a b x y = Acre.offN a b x y := by
  unfold hD Acre.offN
  grind
theorem sgn_gt (n : Int) : 0 < Acre.sgn n ↔ 0 < n := by
  unfold Acre.sgn
  split <;> (try split) <;> omega
theorem sgn_lt (n : Int) : Acre.sgn n < 0 ↔ n < 0 := by
  unfold Acre.sgn
  split <;> (try split) <;> omega
theorem hgtD_ly {e : Acre.Ed} {x y : Acre.Fc} (hu : Acre.upr e = false) (hx : 0 < x.2) (hy : 0 < y.2) : (0 < hgtD e x y ↔ Acre.ly e (Acre.v x) < Acre.v y) ∧ (hgtD e x y < 0 ↔ Acre.v y < Acre.ly e (Acre.v x)) := by
  have hne : e.1.1 ≠ e.2.1 := by unfold Acre.upr at hu; simpa using hu
  unfold hgtD
  by_cases h : e.2.1 < e.1.1
  · rw [if_pos h, hD_off]
    exact Acre.off_left h hx hy
  · rw [if_neg h, hD_off]
    exact Acre.off_right (by omega) hx hy
theorem inP_cnt {E : List Acre.Ed} {p : Acre.Pc} {x y : Acre.Fc} (hg : Acre.Good E p) (hx : 0 < x.2) (hy : 0 < y.2) : inP p x y = ((decide (Acre.ly p.2.1 (Acre.v x) < Acre.v y) && decide (Acre.v y < Acre.ly p.2.2 (Acre.v x))) && Acre.atX p (Acre.v x)) := by
  have h1 := hgtD_ly (x := x) (y := y) hg.lo.2 hx hy
  have h2 := hgtD_ly (x := x) (y := y) hg.hi.2 hx hy
  have f0 := hg.from'.red.1
  have t0 := hg.to'.red.1
  have e1 : (p.1.1.1 * x.2 ≤ x.1 * p.1.1.2) ↔ Acre.v p.1.1 ≤ Acre.v x := by
    have := Acre.v_lt hx f0
    unfold Acre.Lt at this
    rw [← Rat.not_lt, this]
    omega
  have e2 : (x.1 * p.1.2.2 < p.1.2.1 * x.2) ↔ Acre.v x < Acre.v p.1.2 := (Acre.v_lt hx t0).symm
  unfold inP Acre.atX
  rw [Bool.eq_iff_iff]
  simp only [Bool.and_eq_true, decide_eq_true_eq, sgn_gt, sgn_lt, e1, e2, h1.1, h2.2]
  constructor
  · rintro ⟨⟨⟨a, b⟩, c⟩, d⟩
    exact ⟨⟨c, d⟩, a, b⟩
  · rintro ⟨⟨c, d⟩, a, b⟩
    exact ⟨⟨⟨a, b⟩, c⟩, d⟩
theorem edgesTo_len (r : List Acre.Pt) (k : Nat) : (Acre.edgesTo r k).length = k := by unfold Acre.edgesTo; simp
theorem edges_le12 {R : List (List Acre.Pt)} (h : Acre.fieldOk R = true) : (Acre.edgesOf R).length ≤ 12 := by
  unfold Acre.fieldOk at h
  simp only [Bool.and_eq_true, decide_eq_true_eq, List.all_eq_true] at h
  have := flatMap_le (fun r => Acre.edgesTo r r.length) 6 R (fun r hr => by
    rw [edgesTo_len]
    have := h.2 r hr
    unfold Acre.ringOk at this
    simp only [Bool.and_eq_true, decide_eq_true_eq] at this
    omega)
  unfold Acre.edgesOf
  have h1 := Nat.mul_le_mul_left 6 h.1
  omega
theorem fld_sm {E : List Acre.Ed} (F : Acre.Fld E) : ∀ e ∈ E, SmE e := fun e he => by
  have h := F.grid e he
  have a := onG h.1
  have b := onG h.2
  exact ⟨⟨by omega, by omega⟩, ⟨by omega, by omega⟩⟩
theorem pair_ok {a b : ByteArray} {op : Int} (h : (errP a b op).1 = 0) : Acre.Fld (pairE a b) ∧ (∀ e ∈ pairE a b, SmE e) ∧ (pairE a b).length ≤ 24 ∧ (Acre.edgesOf (readP a).1).length ≤ 24 := by
  obtain ⟨h1, h2, _⟩ := pair_fields h
  have F := (Acre.fld_of (read_field h1)).append (Acre.fld_of (read_field h2))
  have l1 := edges_le12 (read_field h1)
  have l2 := edges_le12 (read_field h2)
  refine ⟨F, fld_sm F, ?_, by omega⟩
  unfold pairE
  rw [List.length_append]
  omega
theorem isOn_up (e : Acre.Ed) (x y : Acre.Fc) : Acre.isOnE (Acre.up e) x y = Acre.isOnE e x y := by
  unfold Acre.up
  split
  · unfold Acre.isOnE
    exact Acre.onE_back e.1 e.2 x y
  · rfl
theorem not_on {R : List (List Acre.Pt)} {x y : Acre.Fc} (h : ((Acre.edgesOf R).map Acre.up).any (fun e => Acre.isOnE e x y) = false) : ∀ e ∈ Acre.edgesOf R, Acre.isOnE e x y = false := fun e he => by
  rw [← isOn_up]
  rw [List.any_eq_false] at h
  have := h (Acre.up e) (List.mem_map.2 ⟨e, he, rfl⟩)
  simpa using this
/-- what Combine answers: the pieces are good, and hold a place as often as they should -/
theorem comb_right {a b : ByteArray} {op : Int} (offer : ByteArray) (h : (errP a b op).1 = 0) {x y : Acre.Fc} (hx : 0 < x.2) (hy : 0 < y.2) (hoA : ∀ e ∈ Acre.edgesOf (readP a).1, Acre.isOnE e x y = false) (hoB : ∀ e ∈ Acre.edgesOf (readP b).1, Acre.isOnE e x y = false) :
    (∀ p ∈ combP a b op offer, Acre.Good (pairE a b) p ∧ CutOk p.1.1 ∧ CutOk p.1.2) ∧ (combP a b op offer).countP (fun p => inP p x y) = if Acre.opK op (((Acre.edgesOf (readP a).1).map Acre.up).countP (fun e => Acre.isR e x y) % 2 == 1) (((Acre.edgesOf (readP b).1).map Acre.up).countP (fun e => Acre.isR e x y) % 2 == 1) = true then 1 else 0 := by
  obtain ⟨F, hsm, hl, hk⟩ := pair_ok h
  obtain ⟨h1, h2, _⟩ := pair_fields h
  have hFa := read_field h1
  have hFb := read_field h2
  have hno : ∀ e ∈ pairE a b, Acre.inX e (Acre.v x) = true → Acre.ly e (Acre.v x) ≠ Acre.v y := fun e he hi => by
    unfold pairE at he
    rcases List.mem_append.1 he with he | he
    · exact Acre.off_edge hx hy (hoA e he) hi
    · exact Acre.off_edge hx hy (hoB e he) hi
  have hgood : ∀ p ∈ combP a b op offer, Acre.Good (pairE a b) p ∧ CutOk p.1.1 ∧ CutOk p.1.2 := by
    unfold combP
    cases hc : checkP offer (pairE a b) (Acre.edgesOf (readP a).1).length op with
    | none =>
      intro p hp
      obtain ⟨g1, g2, g3⟩ := Acre.cut_good F (Acre.edgesOf (readP a).1).length op p hp
      have hok := cutsP_ok (E := pairE a b) (more := []) F (by simp)
      exact ⟨g1, hok _ g2, hok _ g3⟩
    | some ps =>
      unfold checkP at hc
      split at hc
      · simp at hc
      · rw [Option.bind_eq_some_iff] at hc
        obtain ⟨qs, hq, hc⟩ := hc
        split at hc
        · simp at hc
          subst hc
          have := certC_good hq
          exact fun p hp => ⟨this.1 p hp, (this.2.1 p hp).1, (this.2.1 p hp).2⟩
        · simp at hc
  refine ⟨hgood, ?_⟩
  rw [← Acre.keeps_where hFa hFb op hx hy hoA hoB]
  have hcnt : (combP a b op offer).countP (fun p => inP p x y) = Acre.cntN (fun b => decide (Acre.ly b.1 (Acre.v x) < Acre.v y) && decide (Acre.v y < Acre.ly b.2 (Acre.v x))) (combP a b op offer) (Acre.v x) := by
    unfold Acre.cntN
    exact List.countP_congr (fun p hp => by rw [inP_cnt (hgood p hp).1 hx hy])
  rw [hcnt]
  show Acre.cntN _ _ _ = if Acre.keepsB op (Acre.bel (pairE a b) (Acre.edgesOf (readP a).1).length (Acre.v x) (Acre.v y) false) (Acre.bel (pairE a b) (Acre.edgesOf (readP a).1).length (Acre.v x) (Acre.v y) true) = true then 1 else 0
  unfold combP
  cases hc : checkP offer (pairE a b) (Acre.edgesOf (readP a).1).length op with
  | none => exact Acre.cut_right F _ op hno (fun o => Acre.even_two hFa hFb _ o)
  | some ps =>
    unfold checkP at hc
    split at hc
    · simp at hc
    · rw [Option.bind_eq_some_iff] at hc
      obtain ⟨qs, hq, hc⟩ := hc
      split at hc
      · rename_i hfl
        simp at hc
        subst hc
        exact Acre.fill_right F _ op (certC_good hq).1 hfl hno
      · simp at hc

end Go.Proofs.YtkjlkbgdkdcboaaGreat
