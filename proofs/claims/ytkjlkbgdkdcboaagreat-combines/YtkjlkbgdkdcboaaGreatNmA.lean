import Derived.Test.YtkjlkbgdkdcboaaGreatPuA
import Derived.Test.YtkjlkbgdkdcboaaGreatRtA
import Derived.Test.YtkjlkbgdkdcboaaGreatCtA
import Derived.Deep.DeepCutAuto

set_option linter.unusedSimpArgs false
set_option linter.unusedVariables false

set_option linter.unusedSimpArgs false
set_option linter.unusedVariables false

namespace Go.Proofs.YtkjlkbgdkdcboaaGreat.Ref
open Go.RowKit Go.Maps
attribute [local go_sem ↓] Go.wp_at_zero Go.wp_at_succ

def edV' (e : Acre.Ed) : Value := .agg #[.int .i64 e.1.1, .int .i64 e.1.2, .int .i64 e.2.1, .int .i64 e.2.2]
theorem eql56 (a b c d a' b' c' d' : Int) (w' : World) : (binOp .eql 56 (.agg #[.int .i64 a, .int .i64 b, .int .i64 c, .int .i64 d]) (.agg #[.int .i64 a', .int .i64 b', .int .i64 c', .int .i64 d'])).run Tryz.prog w' = .ok (.bool ((a == a' && b == b') && (c == c' && d == d'))) w' := by
  by_cases h1 : a = a' <;> by_cases h2 : b = b' <;> by_cases h3 : c = c' <;> by_cases h4 : d = d' <;> simp [go_sem, h1, h2, h3, h4]
set_option maxHeartbeats 1000000 in
theorem ledge_any (a b c d : Int) (w : World) : Calls Tryz.prog 28 #[.agg #[.int .i64 a, .int .i64 b, .int .i64 c, .int .i64 d]] w fun e w' => e = .returned (.agg #[.int .i64 a, .int .i64 b, .int .i64 c, .int .i64 d]) ∧ Below w.heap.size w w' := by
  go_enter Tryz.func28, Tryz.ntmps28
  go_wp2
  refine bodyPost_ret (v := .agg #[.int .i64 a, .int .i64 b, .int .i64 c, .int .i64 d]) ?_ rfl ⟨rfl, below2 _ _ _⟩
  simp [results, Tryz.results28, go_sem]

set_option maxRecDepth 100000 in
set_option maxHeartbeats 2000000 in
theorem number_any (E : List Acre.Ed) (e : Acre.Ed) (v : Value) (b1 : Nat) (w : World) (hl : w.ownsRow b1 56 4 v E.length (flatE E)) (hlen : E.length ≤ 1000) (hm : e ∈ E) :
    Calls Tryz.prog 27 #[v, edV' e] w fun r w' => r = .returned (.int .i64 (E.idxOf e : Nat)) ∧ Below w.heap.size w w' := by
  obtain ⟨ga, gb, gcap, rfl, hga⟩ := rowE_form hl
  have hix : E.idxOf e < E.length := List.idxOf_lt_length_iff.2 hm
  have hget : E[E.idxOf e] = e := List.getElem_idxOf hix
  obtain ⟨⟨e0, e1⟩, ⟨e2, e3⟩⟩ := e
  unfold edV'
  dsimp only
  generalize hN : E.idxOf ((e0, e1), (e2, e3)) = N at *
  go_enter Tryz.func27, Tryz.ntmps27
  go_wp2
  go_loopw [5] (fun i wr => ∃ k : Nat, i = .int .i64 k ∧ k ≤ N ∧ Hid (Box wr w.heap.size [.int .i64 e0, .int .i64 e1, .int .i64 e2, .int .i64 e3] ∧ Below w.heap.size w wr)) (fun i _ => E.length - (intOf i).toNat)
  case atStart => exact ⟨0, rfl, Nat.zero_le _, Box.new w [.int .i64 e0, .int .i64 e1, .int .i64 e2, .int .i64 e3] 56, below1 _ _⟩
  case round =>
    obtain ⟨k, rfl, hk, hr⟩ := hrel
    obtain ⟨bx, hb⟩ := hr.out
    have hlt : k < E.length := by omega
    obtain rfl := hga (by omega)
    obtain ⟨c0, c1, c2, c3⟩ := row_e hl k hlt
    have d0 := cell_later hb c0
    have d1 := cell_later hb c1
    have d2 := cell_later hb c2
    have d3 := cell_later hb c3
    have q0 := bx.c 0 _ rfl
    have q1 := bx.c 1 _ rfl
    have q2 := bx.c 2 _ rfl
    have q3 := bx.c 3 _ rfl
    have HBx := hide bx
    have HB := hide hb
    have hne : k < N → E[k] ≠ ((e0, e1), (e2, e3)) := fun h => by
      intro he
      have := List.not_of_lt_findIdx (p := (· == ((e0, e1), (e2, e3)))) (xs := E) (i := k) (by
        show k < E.idxOf _
        omega)
      simp [he] at this
    obtain ⟨⟨⟨a0, a1⟩, ⟨a2, a3⟩⟩, he⟩ : ∃ e, E[k] = e := ⟨_, rfl⟩
    have hend : k = N → ((a0, a1), (a2, a3)) = ((e0, e1), (e2, e3)) := fun h => by
      subst h
      rw [← he, hget]
    rw [he] at d0 d1 d2 d3 hne
    have heq := eql56 a0 a1 a2 a3 e0 e1 e2 e3
    clear c0 c1 c2 c3 bx hb hr
    by_cases hkn : k = N
    · have h := hend hkn
      simp only [Prod.mk.injEq] at h
      obtain ⟨⟨rfl, rfl⟩, rfl, rfl⟩ := h
      have hbe : ((a0 == a0 && a1 == a1) && (a2 == a2 && a3 == a3)) = true := by simp
      rw [hbe] at heq
      subst hkn
      clear hne hend hbe
      go_wp2_with fail
      go_quiet (fail)
      go_wp2
      go_ret
      exact ⟨rfl, below_drewN HB.out _⟩
    · have hbe : ((a0 == e0 && a1 == e1) && (a2 == e2 && a3 == e3)) = false := by
        have := hne (by omega)
        rw [Bool.eq_false_iff]
        intro h
        simp only [Bool.and_eq_true, beq_iff_eq] at h
        exact this (by rw [h.1.1, h.1.2, h.2.1, h.2.2])
      rw [hbe] at heq
      clear hne hend hbe
      go_wp2_with fail
      go_quiet (fail)
      generalize hV : wr.drewN _ = V
      have hbV : Below wr.heap.size wr V := by rw [← hV]; exact below_drewN (Below.refl _ _) _
      have HBy := hide (HBx.out.later (by simp) hbV)
      have HBz := hide (below_call hbV HB.out)
      clear hV hbV q0 q1 q2 q3 d0 d1 d2 d3 HBx HB
      go_wp2
      go_roundw
      case rel => exact ⟨k + 1, by go_num, by omega, HBy.out, HBz.out⟩
      case measure => simp [intOf]; omega

end Go.Proofs.YtkjlkbgdkdcboaaGreat.Ref

set_option linter.unusedSimpArgs false
set_option linter.unusedVariables false

namespace Go.Proofs.YtkjlkbgdkdcboaaGreat.Ref
open Go.RowKit Go.Maps
attribute [local go_sem ↓] Go.wp_at_zero Go.wp_at_succ

/-- a piece by the numbers of its edges -/
def mkT (E : List Acre.Ed) (p : Acre.Pc) : PcT := ⟨p.1.1, p.1.2, (E.idxOf p.2.1 : Nat), (E.idxOf p.2.2 : Nat), 0, 0, 0, 0⟩
theorem gd_idx {E : List Acre.Ed} {e : Acre.Ed} (h : e ∈ E) : Acre.gd E (E.idxOf e) = e := by
  have hix : E.idxOf e < E.length := List.idxOf_lt_length_iff.2 h
  unfold Acre.gd
  rw [List.getD_eq_getElem?_getD, List.getElem?_eq_getElem hix, List.getElem_idxOf hix]
  rfl
theorem toPc_mk {E : List Acre.Ed} {p : Acre.Pc} (h : Acre.Good E p) : toPc E (mkT E p) = p := by
  unfold toPc mkT
  simp only [Int.toNat_natCast]
  rw [gd_idx h.lo.1, gd_idx h.hi.1]
theorem mk_ok {E : List Acre.Ed} {p : Acre.Pc} (h : Acre.Good E p) (hc : CutOk p.1.1 ∧ CutOk p.1.2) : PtOk E (mkT E p) := by
  have h1 : E.idxOf p.2.1 < E.length := List.idxOf_lt_length_iff.2 h.lo.1
  have h2 : E.idxOf p.2.2 < E.length := List.idxOf_lt_length_iff.2 h.hi.1
  refine ⟨cut_mid hc.1, cut_mid hc.2, ⟨?_, ?_, ?_⟩, ⟨?_, ?_, ?_⟩⟩
  · show (0 : Int) ≤ (E.idxOf p.2.1 : Nat); omega
  · show ((E.idxOf p.2.1 : Nat) : Int) < E.length; omega
  · show Acre.upr (Acre.gd E ((E.idxOf p.2.1 : Nat) : Int).toNat) = false
    rw [Int.toNat_natCast, gd_idx h.lo.1]; exact h.lo.2
  · show (0 : Int) ≤ (E.idxOf p.2.2 : Nat); omega
  · show ((E.idxOf p.2.2 : Nat) : Int) < E.length; omega
  · show Acre.upr (Acre.gd E ((E.idxOf p.2.2 : Nat) : Int).toNat) = false
    rw [Int.toNat_natCast, gd_idx h.hi.1]; exact h.hi.2
theorem fair_cut {x : Acre.Fc} (h : CutOk x) : fairB x.1 x.2 = true := by
  have hn := h.n
  have hl := h.lim
  have a1 := (Acre.le_v (a := -12) hl.red.1).2 (by have := hl.lo; push_cast; exact this)
  have a2 := (Acre.v_le (a := 12) hl.red.1).2 (by have := hl.hi; push_cast; exact this)
  unfold fairB
  rw [hl.red.2]
  simp only [Bool.and_eq_true, decide_eq_true_eq, BEq.rfl, and_true]
  exact ⟨⟨by omega, by omega⟩, by omega, by omega⟩
/-- while the pieces are numbered -/
structure McI (w wr : World) (v : Value) (out : List PcT) : Prop where
  row : wr.ownsRow w.heap.size 53 11 v out.length (flatT out)
  bel : Below w.heap.size w wr
theorem McI.app {w wr w' : World} {q : PcT} {v v' : Value} {out : List PcT} (h : McI w wr v out) (o : Obj) (hg : (wr.alloc o).grownBy w' v.ownBlock) (hown : w'.ownsRow w.heap.size 53 11 v' (out.length + 1) (flatT out ++ ptL q)) : McI w w' v' (out ++ [q]) :=
  ⟨by rw [flatT_snoc, List.length_append]; exact hown, (below_call (below1 _ o) h.bel).grown hg (by have := h.bel.size; simp; omega) (fun c hc => (h.row.lt c hc).1)⟩

set_option maxRecDepth 100000 in
set_option maxHeartbeats 4000000 in
theorem pieces_any (E : List Acre.Ed) (ps : List Acre.Pc) (vl ve : Value) (b1 b2 : Nat) (w : World) (hl : w.ownsRow b1 39 12 vl ps.length (flatP ps)) (hE : w.ownsRow b2 56 4 ve E.length (flatE E)) (hlen : E.length ≤ 24) (hpl : ps.length ≤ 1000000) (hg : ∀ p ∈ ps, Acre.Good E p) (hc : ∀ p ∈ ps, CutOk p.1.1 ∧ CutOk p.1.2) :
    Calls Tryz.prog 12 #[vl, ve] w fun e w' => ∃ u, e = .returned (.tuple #[u, .bool true]) ∧ w'.ownsRow w.heap.size 53 11 u (ps.map (mkT E)).length (flatT (ps.map (mkT E))) ∧ Below w.heap.size w w' := by
  obtain ⟨la, lg, lcap, rfl, hla⟩ := rowE_form hl
  obtain ⟨ea, eg, ecap, rfl, hea⟩ := rowE_form hE
  obtain ⟨i1, hi1, hy0, hy1, hy2⟩ := info_parts info53
  go_enter Tryz.func12, Tryz.ntmps12
  go_wp2
  go_loopw [6, 7] (fun ov i wr => ∃ k : Nat, i = .int .i64 k ∧ k ≤ ps.length ∧ Hid (McI w wr ov ((ps.take k).map (mkT E)))) (fun _ i _ => ps.length - (intOf i).toNat)
  case atStart => exact ⟨0, rfl, Nat.zero_le _, World.ownsRow_nil _ _ _ _, Below.refl _ _⟩
  case round =>
    obtain ⟨k, rfl, hk, hr⟩ := hrel
    by_cases hlt : k < ps.length
    · obtain rfl := hla (by omega)
      have hgp := hg ps[k] (List.getElem_mem hlt)
      have hcp := hc ps[k] (List.getElem_mem hlt)
      have hst : (ps.take (k + 1)).map (mkT E) = (ps.take k).map (mkT E) ++ [mkT E ps[k]] := by rw [List.take_succ_eq_append_getElem hlt, List.map_append]; rfl
      have hlo : ((ps.take k).map (mkT E)).length = k := by rw [List.length_map, List.length_take]; omega
      have hcell : ∀ j v, j < 12 → (pcL ps[k])[j]? = some v → w.cell? ⟨lg, k * 12 + j, none⟩ = some v := fun j v hj hv => by
        have := row_at (f := pcL) (m := 12) (fun _ => rfl) hl k j hlt hj
        rw [this]
        exact hv
      generalize (ps.take k).map (mkT E) = out at *
      obtain ⟨pc, hpc⟩ : ∃ pc, ps[k] = pc := ⟨_, rfl⟩
      rw [hpc] at hgp hcp hst hcell
      have HN1 := hide (fun V (h : V.ownsRow b2 56 4 (.slice ea E.length ecap) E.length (flatE E)) => number_any E pc.2.1 (.slice ea E.length ecap) b2 V h (by omega) hgp.lo.1)
      have HN2 := hide (fun V (h : V.ownsRow b2 56 4 (.slice ea E.length ecap) E.length (flatE E)) => number_any E pc.2.2 (.slice ea E.length ecap) b2 V h (by omega) hgp.hi.1)
      have h1 : E.idxOf pc.2.1 < E.length := List.idxOf_lt_length_iff.2 hgp.lo.1
      have h2 : E.idxOf pc.2.2 < E.length := List.idxOf_lt_length_iff.2 hgp.hi.1
      have hg1 : E[E.idxOf pc.2.1] = pc.2.1 := List.getElem_idxOf h1
      have hg2 : E[E.idxOf pc.2.2] = pc.2.2 := List.getElem_idxOf h2
      have hu1 := hgp.lo.2
      have hu2 := hgp.hi.2
      have hf1 := fair_cut hcp.1
      have hf2 := fair_cut hcp.2
      have hmk : mkT E pc = ⟨pc.1.1, pc.1.2, (E.idxOf pc.2.1 : Nat), (E.idxOf pc.2.2 : Nat), 0, 0, 0, 0⟩ := rfl
      generalize E.idxOf pc.2.1 = n1 at *
      generalize E.idxOf pc.2.2 = n2 at *
      obtain rfl := hea (by omega)
      obtain ⟨s0, s1, s2, s3⟩ := row_e hE n1 h1
      obtain ⟨r0, r1, r2, r3⟩ := row_e hE n2 h2
      rw [hg1] at s0 s1 s2 s3
      rw [hg2] at r0 r1 r2 r3
      obtain ⟨⟨⟨f1, f2⟩, ⟨t1, t2⟩⟩, ⟨⟨⟨l0, l1⟩, ⟨l2, l3⟩⟩, ⟨⟨k0, k1⟩, ⟨k2, k3⟩⟩⟩⟩ := pc
      unfold Acre.upr at hu1 hu2
      dsimp only at hu1 hu2 hf1 hf2 hmk s0 s1 s2 s3 r0 r1 r2 r3
      unfold edV' at HN1 HN2
      dsimp only at HN1 HN2
      rw [hmk] at hst
      have Hst := hide hst
      have HF1 := hide (fun V => rfair_any f1 f2 V)
      have HF2 := hide (fun V => rfair_any t1 t2 V)
      rw [hf1] at HF1
      rw [hf2] at HF2
      have M0 := hcell 0 _ (by omega) rfl
      have M1 := hcell 1 _ (by omega) rfl
      have M2 := hcell 2 _ (by omega) rfl
      have M3 := hcell 3 _ (by omega) rfl
      have M4 := hcell 4 _ (by omega) rfl
      have M5 := hcell 5 _ (by omega) rfl
      have M6 := hcell 6 _ (by omega) rfl
      have M7 := hcell 7 _ (by omega) rfl
      have M8 := hcell 8 _ (by omega) rfl
      have M9 := hcell 9 _ (by omega) rfl
      have M10 := hcell 10 _ (by omega) rfl
      have M11 := hcell 11 _ (by omega) rfl
      simp only [Nat.add_zero] at M0
      have HM := hide (And.intro M0 (And.intro M1 (And.intro M2 (And.intro M3 (And.intro M4 (And.intro M5 (And.intro M6 (And.intro M7 (And.intro M8 (And.intro M9 (And.intro M10 M11)))))))))))
      have HS := hide (And.intro s0 (And.intro s1 (And.intro s2 (And.intro s3 (And.intro r0 (And.intro r1 (And.intro r2 r3)))))))
      clear hcell hpc hst hmk hgp hcp hg1 hg2 hf1 hf2 M0 M1 M2 M3 M4 M5 M6 M7 M8 M9 M10 M11 s0 s1 s2 s3 r0 r1 r2 r3
      have m0 := cell_later hr.out.bel HM.out.1
      have m1 := cell_later hr.out.bel HM.out.2.1
      go_wp2_with fail
      refine (rfrac_any f1 f2 _).mono ?_
      rintro e V1 ⟨rfl, hb1⟩
      have hq1 := below_call (below1 V1 (.cells #[.int .i64 f1, .int .i64 f2] 50)) hb1
      have HI1 := hide (And.intro (row_call hr.out.row hq1) (below_call hq1 hr.out.bel))
      have bF := Box.new V1 [.int .i64 f1, .int .i64 f2] 50
      have HBF := hide bF
      clear m0 m1 hb1 hr hq1 bF
      have m2 := cell_later HI1.out.2 HM.out.2.2.1
      have m3 := cell_later HI1.out.2 HM.out.2.2.2.1
      go_upto_region 6 with fail
      generalize V1.alloc (.cells #[.int .i64 f1, .int .i64 f2] 50) = W1 at *
      generalize V1.heap.size = B1 at *
      go_wp2_with fail
      refine (rfrac_any t1 t2 _).mono ?_
      rintro e V2 ⟨rfl, hb2⟩
      have hq2 := below_call (below1 V2 (.cells #[.int .i64 t1, .int .i64 t2] 50)) hb2
      have HI2 := hide (And.intro (row_call HI1.out.1 hq2) (below_call hq2 HI1.out.2))
      have HBF2 := hide (HBF.out.later (by simp) hq2)
      have HBT := hide (Box.new V2 [.int .i64 t1, .int .i64 t2] 50)
      clear m2 m3 hb2 HI1 hq2 HBF
      go_upto_region 7 with fail
      generalize V2.alloc (.cells #[.int .i64 t1, .int .i64 t2] 50) = W2 at *
      generalize V2.heap.size = B2 at *
      have m4 : W2.cell? ⟨lg, k * 12 + 4, none⟩ = some (.int .i64 l0) := cell_later HI2.out.2 HM.out.2.2.2.2.1
      have m5 : W2.cell? ⟨lg, k * 12 + 4 + 1, none⟩ = some (.int .i64 l1) := cell_later HI2.out.2 HM.out.2.2.2.2.2.1
      have m6 : W2.cell? ⟨lg, k * 12 + 4 + 2, none⟩ = some (.int .i64 l2) := cell_later HI2.out.2 HM.out.2.2.2.2.2.2.1
      have m7 : W2.cell? ⟨lg, k * 12 + 4 + 3, none⟩ = some (.int .i64 l3) := cell_later HI2.out.2 HM.out.2.2.2.2.2.2.2.1
      go_wp2_with fail
      refine (ledge_any l0 l1 l2 l3 _).mono ?_
      rintro e V3 ⟨rfl, hb3⟩
      have HI3 := hide (And.intro (row_call HI2.out.1 hb3) (below_call hb3 HI2.out.2))
      have HBF3 := hide (HBF2.out.later (by simp) hb3)
      have HBT3 := hide (HBT.out.later (by simp) hb3)
      clear m4 m5 m6 m7 hb3 HI2 HBF2 HBT
      go_wp2_with fail
      refine (HN1.out _ (row_call hE HI3.out.2)).mono ?_
      rintro e V4 ⟨rfl, hb4⟩
      have HI4 := hide (And.intro (row_call HI3.out.1 hb4) (below_call hb4 HI3.out.2))
      have HBF4 := hide (HBF3.out.later (by simp) hb4)
      have HBT4 := hide (HBT3.out.later (by simp) hb4)
      clear hb4 HI3 HBF3 HBT3 HN1
      have m8 : V4.cell? ⟨lg, k * 12 + 8, none⟩ = some (.int .i64 k0) := cell_later HI4.out.2 HM.out.2.2.2.2.2.2.2.2.1
      have m9 : V4.cell? ⟨lg, k * 12 + 8 + 1, none⟩ = some (.int .i64 k1) := cell_later HI4.out.2 HM.out.2.2.2.2.2.2.2.2.2.1
      have m10 : V4.cell? ⟨lg, k * 12 + 8 + 2, none⟩ = some (.int .i64 k2) := cell_later HI4.out.2 HM.out.2.2.2.2.2.2.2.2.2.2.1
      have m11 : V4.cell? ⟨lg, k * 12 + 8 + 3, none⟩ = some (.int .i64 k3) := cell_later HI4.out.2 HM.out.2.2.2.2.2.2.2.2.2.2.2
      go_wp2_with fail
      refine (ledge_any k0 k1 k2 k3 _).mono ?_
      rintro e V5 ⟨rfl, hb5⟩
      have HI5 := hide (And.intro (row_call HI4.out.1 hb5) (below_call hb5 HI4.out.2))
      have HBF5 := hide (HBF4.out.later (by simp) hb5)
      have HBT5 := hide (HBT4.out.later (by simp) hb5)
      clear m8 m9 m10 m11 hb5 HI4 HBF4 HBT4
      go_wp2_with fail
      refine (HN2.out _ (row_call hE HI5.out.2)).mono ?_
      rintro e V6 ⟨rfl, hb6⟩
      have HI6 := hide (And.intro (row_call HI5.out.1 hb6) (below_call hb6 HI5.out.2))
      have hbF := HBF5.out.later (by simp) hb6
      have hbT := HBT5.out.later (by simp) hb6
      have HBF6 := hide hbF
      have HBT6 := hide hbT
      clear hb6 HI5 HBF5 HBT5 HN2
      have c0 := hbF.c 0 _ rfl
      have c1 := hbF.c 1 _ rfl
      clear hbF hbT
      go_wp2_with fail
      refine (HF1.out _).mono ?_
      rintro e V7 ⟨rfl, hb7⟩
      have HI7 := hide (And.intro (row_call HI6.out.1 hb7) (below_call hb7 HI6.out.2))
      have HBF7 := hide (HBF6.out.later (by simp) hb7)
      have hbT := HBT6.out.later (by simp) hb7
      have HBT7 := hide hbT
      clear hb7 HI6 HBF6 HBT6 HF1 c0 c1
      have c0 := hbT.c 0 _ rfl
      have c1 := hbT.c 1 _ rfl
      clear hbT
      go_wp2_with fail
      refine (HF2.out _).mono ?_
      rintro e V8 ⟨rfl, hb8⟩
      have HI8 := hide (And.intro (row_call HI7.out.1 hb8) (below_call hb8 HI7.out.2))
      have HBF8 := hide (HBF7.out.later (by simp) hb8)
      have HBT8 := hide (HBT7.out.later (by simp) hb8)
      clear hb8 HI7 HBF7 HBT7 HF2 c0 c1
      have g1 : ¬ (n1 : Int) < 0 := by omega
      have g2 : ¬ (n2 : Int) < 0 := by omega
      have g3 : (n1 : Int) < (E.length : Int) := by omega
      have g4 : (n2 : Int) < (E.length : Int) := by omega
      have g5 : (0 : Int) ≤ (n1 : Int) := by omega
      have g6 : (0 : Int) ≤ (n2 : Int) := by omega
      obtain ⟨S0, S1, S2, S3, R0, R1, R2, R3⟩ := HS.out
      have s0 := cell_later HI8.out.2 S0
      have s2 := cell_later HI8.out.2 S2
      have r0 := cell_later HI8.out.2 R0
      have r2 := cell_later HI8.out.2 R2
      clear S0 S1 S2 S3 R0 R1 R2 R3
      go_upto_region 11 with fail
      go_quiet (fail)
      generalize hV : V8.drewN _ = V9
      have hbc : Below V8.heap.size V8 V9 := by rw [← hV]; exact below_drewN (Below.refl _ _) _
      have HI9 := hide (And.intro (row_call HI8.out.1 hbc) (below_call hbc HI8.out.2))
      have bF := HBF8.out.later (by simp) hbc
      have bT := HBT8.out.later (by simp) hbc
      have c0 := bF.c 0 _ rfl
      have c1 := bF.c 1 _ rfl
      have c2 := bT.c 0 _ rfl
      have c3 := bT.c 1 _ rfl
      have e2 := HI9.out.1
      have hsz := HI9.out.2.size
      clear bF bT HI8 HBF8 HBT8 s0 s2 r0 r2 hbc hV
      go_wp2_with (first
        | (at_builtin; refine wpList_append_own_at _ rfl _ _ 44 rfl w.heap.size 53 i1 _ 11 88 Tryz.underlying44 hi1 hy0 hy1 hy2 rfl (by decide) _ _ _ rfl (e2.alloc _) ⟨V9.heap.size, 0, none⟩ 1 1 [.int .i64 f1, .int .i64 f2, .int .i64 t1, .int .i64 t2, .int .i64 n1, .int .i64 n2, .int .i64 0, .int .i64 0, .int .i64 0, .int .i64 0, .int .i64 0] rfl rfl (World.news_of_block (cs := #[.int .i64 f1, .int .i64 f2, .int .i64 t1, .int .i64 t2, .int .i64 n1, .int .i64 n2, .int .i64 0, .int .i64 0, .int .i64 0, .int .i64 0, .int .i64 0]) (t := 53) (fr := (0, 0)) (heap_alloc_new V9 _)) (ptL_one ⟨(f1, f2), (t1, t2), (n1 : Int), (n2 : Int), 0, 0, 0, 0⟩) (by unfold maxLen; omega) (by omega) (by simp; omega) ?_; intro v3 w3 hown3 hgrow3 hnil3 hloc3)
        | go_in)
      have hI := hide (McI.app (q := ⟨(f1, f2), (t1, t2), (n1 : Int), (n2 : Int), 0, 0, 0, 0⟩) ⟨HI9.out.1, HI9.out.2⟩ _ hgrow3 hown3)
      clear hown3 hgrow3 hnil3 hloc3 HI9 e2 c0 c1 c2 c3
      go_wp2
      go_roundw
      case rel => exact ⟨k + 1, by go_num, by omega, by rw [Hst.out]; exact hI⟩
      case measure => simp [intOf]; omega
    · obtain rfl : k = ps.length := by omega
      have hr1 := hr.out
      rw [List.take_length] at hr1
      have HR := hide hr1
      clear hr hr1
      go_wp2
      refine bodyPost_ret (v := .tuple #[u6, .bool true]) (by simp [results, Tryz.results12, go_sem]) rfl ?_
      exact ⟨_, rfl, HR.out.row, HR.out.bel⟩

end Go.Proofs.YtkjlkbgdkdcboaaGreat.Ref

set_option linter.unusedSimpArgs false
set_option linter.unusedVariables false

namespace Go.Proofs.YtkjlkbgdkdcboaaGreat.Ref
open Go.RowKit Go.Maps
attribute [local go_sem ↓] Go.wp_at_zero Go.wp_at_succ

theorem check_parts {s : ByteArray} {E : List Acre.Ed} {kk : Nat} {op : Int} {ps : List Acre.Pc} (hc : checkP s E kk op = some ps) : certC s E = some ps ∧ Acre.filledP E kk op ps = true := by
  unfold checkP at hc
  split at hc
  · simp at hc
  · rw [Option.bind_eq_some_iff] at hc
    obtain ⟨qs, hq, hc⟩ := hc
    split at hc
    · rename_i hf
      simp at hc
      subst hc
      exact ⟨hq, hf⟩
    · simp at hc
theorem comb_good {a b : ByteArray} {op : Int} (offer : ByteArray) (h : (errP a b op).1 = 0) : (∀ p ∈ combP a b op offer, Acre.Good (pairE a b) p) ∧ (∀ p ∈ combP a b op offer, CutOk p.1.1 ∧ CutOk p.1.2) ∧ (combP a b op offer).length ≤ 100000 ∧ Acre.filledP (pairE a b) (Acre.edgesOf (readP a).1).length op (combP a b op offer) = true := by
  obtain ⟨F, hsm, hl, hk⟩ := pair_ok h
  obtain ⟨h1, h2, _⟩ := pair_fields h
  unfold combP
  cases hc : checkP offer (pairE a b) (Acre.edgesOf (readP a).1).length op with
  | none =>
    have hcg := Acre.cut_good F (Acre.edgesOf (readP a).1).length op
    have hok := cutsP_ok (E := pairE a b) (more := []) F (by simp)
    refine ⟨fun p hp => (hcg p hp).1, fun p hp => ⟨hok _ (hcg p hp).2.1, hok _ (hcg p hp).2.2⟩, ?_, ?_⟩
    · have hcl := cutsP_len (E := pairE a b) (more := []) hl
      have hj : ∀ (l : List (Acre.Fc × Acre.Fc)) (ps : List Acre.Pc), (l.foldl (Acre.joinS (Acre.bandsP (pairE a b) (Acre.edgesOf (readP a).1).length op)) ps).length ≤ ps.length + 24 * l.length := by
        intro l
        induction l with
        | nil => intro ps; simp
        | cons s r ih =>
          intro ps
          rw [List.foldl_cons]
          have i1 := ih (Acre.joinS (Acre.bandsP (pairE a b) (Acre.edgesOf (readP a).1).length op) ps s)
          have i2 : (Acre.joinS (Acre.bandsP (pairE a b) (Acre.edgesOf (readP a).1).length op) ps s).length ≤ ps.length + 24 := by
            unfold Acre.joinS
            have j1 := foldB_len s.1 s.2 (Acre.bandsP (pairE a b) (Acre.edgesOf (readP a).1).length op s.1 s.2) ps
            have j2 := bandsP_len (pairE a b) (Acre.edgesOf (readP a).1).length op s.1 s.2 hl
            omega
          simp only [List.length_cons]
          omega
      have := hj (Acre.adj (Acre.cutsP (pairE a b) [])) []
      rw [adj_len] at this
      simp only [List.length_nil] at this hcl
      show (Acre.joinAll _ _).length ≤ _
      unfold Acre.joinAll
      omega
    · exact Acre.fill_cut F _ op (fun X o => Acre.even_two (read_field h1) (read_field h2) X o)
  | some ps =>
    obtain ⟨c1, c2⟩ := check_parts hc
    have := certC_good c1
    exact ⟨this.1, this.2.1, Nat.le_trans this.2.2 (by omega), c2⟩
/-- **what Combine answers is right for the document** -/
theorem comb_doc {a b : ByteArray} {op : Int} (offer : ByteArray) (h : (errP a b op).1 = 0) : Acre.rightP (Acre.edgesOf (readP a).1) (Acre.edgesOf (readP b).1) op (combP a b op offer) = true := by
  obtain ⟨g1, g2, g3, g4⟩ := comb_good offer h
  obtain ⟨h1, h2, _⟩ := pair_fields h
  exact Acre.fill_doc (pair_ok h).1 op g1 g4 (Acre.inX_even (read_field h1)) (Acre.inX_even (read_field h2))
/-- **what is right for the document is what Combine answers** -/
theorem doc_comb {a b : ByteArray} {op : Int} {offer : ByteArray} (h : (errP a b op).1 = 0) (hr : rckErr a b op offer = 0) : certErr (pairE a b) offer = 0 ∧ combP a b op offer = (parseP offer).1.map (toPc (pairE a b)) := by
  unfold rckErr at hr
  rw [if_pos h] at hr
  by_cases hc : certErr (pairE a b) offer = 0
  · rw [if_pos hc] at hr
    refine ⟨hc, ?_⟩
    split at hr
    · rename_i hR
      obtain ⟨h1, h2, _⟩ := pair_fields h
      have hcs := cert_same hc
      have hg := (certC_good hcs).1
      have hf : Acre.filledP (pairE a b) (Acre.edgesOf (readP a).1).length op ((parseP offer).1.map (toPc (pairE a b))) = true := Acre.doc_fill (pair_ok h).1 op hg hR (Acre.inX_even (read_field h1)) (Acre.inX_even (read_field h2))
      have hck : checkP offer (pairE a b) (Acre.edgesOf (readP a).1).length op = some ((parseP offer).1.map (toPc (pairE a b))) := by
        unfold checkP
        rw [if_neg (cert_zero hc).1, hcs, Option.bind_some, if_pos hf]
      unfold combP
      rw [hck]
    · exact absurd hr (by decide)
  · rw [if_neg hc] at hr
    exact absurd hr hc

/-- a row of pieces that may be wiped -/
def Wpe (W : World) (g n : Nat) : Prop := ∀ j, j < n * 12 → (∃ v, W.cell? ⟨g, j, none⟩ = some v) ∧ W.frozen? ⟨g, j, none⟩ = false
theorem Wpe.set {W : World} {g n : Nat} (h : Wpe W g n) (o : Nat) (v : Value) : Wpe (W.setCell ⟨g, o, none⟩ v) g n := fun j hj => by
  obtain ⟨⟨u, hu⟩, hf⟩ := h j hj
  refine ⟨?_, by rw [frozen_set]; exact hf⟩
  by_cases e : o = j
  · subst e
    exact ⟨v, by simp [go_sem, hu]⟩
  · exact ⟨u, by simp [go_sem, hu]; try omega⟩
theorem wpe_row {W : World} {base g cap n : Nat} {xs : List Value} (h : W.ownsRow base 39 12 (.slice (some ⟨g, 0, none⟩) n cap) n xs) : Wpe W g n ∧ base ≤ g ∧ g < W.heap.size := by
  rcases h.2 with ⟨h0, _⟩ | ⟨g', cap', cur, hv, hb, hbl, h1, h2, h3, h4⟩
  · cases h0
  · cases hv
    refine ⟨fun j hj => ?_, hb, (Array.getElem?_eq_some_iff.1 hbl).1⟩
    have hjc : j < cur.size := by
      rw [h3]
      have := Nat.mul_le_mul_right 12 h1
      omega
    refine ⟨⟨cur[j], ?_⟩, by simp [World.frozen?, hbl]⟩
    simp [World.cell?, hbl, hjc]

end Go.Proofs.YtkjlkbgdkdcboaaGreat.Ref
