import Derived.Test.YtkjlkbgdkdcboaaGreatDoorSpA
import Derived.Test.YtkjlkbgdkdcboaaGreatDoorLwA
import Derived.Deep.DeepCutAuto

set_option linter.unusedSimpArgs false
set_option linter.unusedVariables false

set_option linter.unusedSimpArgs false
set_option linter.unusedVariables false

namespace Go.Proofs.YtkjlkbgdkdcboaaGreatDoor.Ref
open Go.RowKit Go.Maps
attribute [local go_sem ↓] Go.wp_at_zero Go.wp_at_succ

/-- what the looks at pieces are handed -/
structure Hand (w : World) (A B : List Acre.Ed) (qs : List PcT) (va vb vq : Value) (b1 b2 b3 : Nat) : Prop where
  a : w.ownsRow b1 86 4 va A.length (flatE A)
  b : w.ownsRow b2 86 4 vb B.length (flatE B)
  q : w.ownsRow b3 93 11 vq qs.length (flatT qs)
theorem Hand.later {w w' : World} {A B : List Acre.Ed} {qs : List PcT} {va vb vq : Value} {b1 b2 b3 : Nat} (h : Hand w A B qs va vb vq b1 b2 b3) (hb : Below w.heap.size w w') : Hand w' A B qs va vb vq b1 b2 b3 :=
  ⟨row_call h.a hb, row_call h.b hb, row_call h.q hb⟩
structure HandOk (A B : List Acre.Ed) (qs : List PcT) : Prop where
  sm : ∀ e ∈ A ++ B, SmE e
  la : A.length ≤ 12
  lb : B.length ≤ 12
  q : ∀ q ∈ qs, PtOk (A ++ B) q
  lq : qs.length ≤ 1000000
theorem row_ptV {w : World} {base g cap : Nat} {l : List PcT} (h : w.ownsRow base 93 11 (.slice (some ⟨g, 0, none⟩) l.length cap) l.length (flatT l)) (k : Nat) (hk : k < l.length) : ∀ j v, l[k].cells[j]? = some v → w.cell? ⟨g, k * 11 + j, none⟩ = some (.int .i64 v) := fun j v hv => row_t h k hk j v hv

set_option maxRecDepth 100000 in
set_option maxHeartbeats 4000000 in
theorem right_any (A B : List Acre.Ed) (qs : List PcT) (va vb vq : Value) (b1 b2 b3 : Nat) (op : Int) (x y : Acre.Fc) (o : Bool) (w : World) (hH : Hand w A B qs va vb vq b1 b2 b3) (hok : HandOk A B qs) (hop : 0 ≤ op ∧ op ≤ 3) (hx : MidX x) (hy : Mid y) :
    Calls Tryz.prog 70 #[spV x y o, va, vb, .int .i64 op, vq] w fun e w' => e = .returned (.bool (Acre.rightS A B op (qs.map (toPc (A ++ B))) x y o)) ∧ Below w.heap.size w w' := by
  have HA := hide (fun V (h : V.ownsRow b1 86 4 va A.length (flatE A)) => at_any A x y o va b1 V h (fun e he => hok.sm e (by simp [he])) (by have := hok.la; omega) hx hy)
  have HB := hide (fun V (h : V.ownsRow b2 86 4 vb B.length (flatE B)) => at_any B x y o vb b2 V h (fun e he => hok.sm e (by simp [he])) (by have := hok.lb; omega) hx hy)
  have HJ := hide (fun V (h : Hand V A B qs va vb vq b1 b2 b3) => rjoined_any A B va vb b1 b2 V h.a h.b (by have := hok.la; omega) (by have := hok.lb; omega))
  have HIn := hide (fun V v q base (h : V.ownsRow base 86 4 v (A ++ B).length (flatE (A ++ B))) (hq : PtOk (A ++ B) q) => in_any (A ++ B) q x y o v base V h hok.sm (by have := hok.la; have := hok.lb; rw [List.length_append]; omega) hx hy hq)
  have hdef : Acre.rightS A B op (qs.map (toPc (A ++ B))) x y o = if Acre.atS A x y o = 1 ∨ Acre.atS B x y o = 1 then true else if Acre.opK op (decide (Acre.atS A x y o = 2)) (decide (Acre.atS B x y o = 2)) = true then decide ((qs.map (toPc (A ++ B))).countP (Acre.inS x y o) = 1) else decide ((qs.map (toPc (A ++ B))).countP (Acre.inS x y o) = 0) := rfl
  obtain ⟨R, hR⟩ : ∃ R, Acre.rightS A B op (qs.map (toPc (A ++ B))) x y o = R := ⟨_, rfl⟩
  rw [hR]
  rw [hR] at hdef
  clear hR
  generalize Acre.atS A x y o = p at *
  generalize Acre.atS B x y o = q at *
  have HD := hide hdef
  clear hdef
  obtain ⟨x1, x2⟩ := x
  obtain ⟨y1, y2⟩ := y
  have hsp : spV (x1, x2) (y1, y2) o = .agg #[.int .i64 x1, .int .i64 x2, .int .i64 y1, .int .i64 y2, .bool o] := rfl
  rw [hsp] at HA HB HIn ⊢
  have hI0 : SpI w (w.alloc (.cells #[.int .i64 x1, .int .i64 x2, .int .i64 y1, .int .i64 y2, .bool o] 160)) (x1, x2) (y1, y2) o := ⟨Box.new w [.int .i64 x1, .int .i64 x2, .int .i64 y1, .int .i64 y2, .bool o] 160, below1 _ _⟩
  have hH0 := hH.later (below1 w (.cells #[.int .i64 x1, .int .i64 x2, .int .i64 y1, .int .i64 y2, .bool o] 160))
  go_enter Tryz.func70, Tryz.ntmps70
  go_wp2_with fail
  generalize w.alloc (.cells #[.int .i64 x1, .int .i64 x2, .int .i64 y1, .int .i64 y2, .bool o] 160) = V0 at *
  refine (HA.out _ hH0.a).mono ?_
  rintro e V1 ⟨rfl, hb1⟩
  have hI1 := hI0.call hb1
  have hH1 := hide (hH0.later hb1)
  have HI1 := hide hI1
  clear hI0 hH0 HA hb1
  have s0 := hI1.box.c 0 _ rfl
  have s1 := hI1.box.c 1 _ rfl
  have s2 := hI1.box.c 2 _ rfl
  have s3 := hI1.box.c 3 _ rfl
  have s4 := hI1.box.c 4 _ rfl
  clear hI1
  go_wp2_with fail
  refine (HB.out _ hH1.out.b).mono ?_
  rintro e V2 ⟨rfl, hb2⟩
  have HI2 := hide (HI1.out.call hb2)
  have hH2 := hide (hH1.out.later hb2)
  clear HI1 hH1 HB hb2 s0 s1 s2 s3 s4
  by_cases hp : p = 1
  · have HR := hide (show R = true by rw [HD.out, if_pos (.inl hp)])
    clear HD
    subst hp
    go_wp2
    go_ret
    exact ⟨by rw [HR.out]; rfl, HI2.out.bel⟩
  · have hpb : (p == 1) = false := by simpa using hp
    by_cases hq : q = 1
    · have HR := hide (show R = true by rw [HD.out, if_pos (.inr hq)])
      clear HD
      subst hq
      go_wp2
      go_ret
      exact ⟨by rw [HR.out]; rfl, HI2.out.bel⟩
    · have hqb : (q == 1) = false := by simpa using hq
      have hor : ¬ (p = 1 ∨ q = 1) := by rintro (h | h) <;> contradiction
      have Hor := hide hor
      clear hor
      go_wp2_with fail
      refine (HJ.out _ hH2.out).mono ?_
      rintro e V3 ⟨u3, rfl, hrow3, hb3⟩
      have HI3 := hide (HI2.out.call hb3)
      have hH3 := hide (hH2.out.later hb3)
      have HR3 := hide hrow3
      clear HI2 hH2 HJ hb3 hrow3
      obtain ⟨qa, qg, qcap, rfl, hqa⟩ := rowE_form hH3.out.q
      have hlq := hok.lq
      have hqok := hok.q
      go_wp2
      go_loopw [14, 15] (fun n i wr => ∃ k : Nat, i = .int .i64 k ∧ k ≤ qs.length ∧ n = .int .i64 (((qs.take k).map (toPc (A ++ B))).countP (Acre.inS (x1, x2) (y1, y2) o) : Nat) ∧ Hid (Below V3.heap.size V3 wr)) (fun _ i _ => qs.length - (intOf i).toNat)
      case atStart => exact ⟨0, rfl, Nat.zero_le _, rfl, Below.refl _ _⟩
      case round =>
        obtain ⟨k, rfl, hk, rfl, hr⟩ := hrel
        by_cases hlt : k < qs.length
        · obtain rfl := hqa (by omega)
          have hI := HI3.out.call hr.out
          have hcell := row_ptV (hH3.out.later hr.out).q k hlt
          have hqk := hqok qs[k] (List.getElem_mem hlt)
          have hcn : ((qs.take (k + 1)).map (toPc (A ++ B))).countP (Acre.inS (x1, x2) (y1, y2) o) = ((qs.take k).map (toPc (A ++ B))).countP (Acre.inS (x1, x2) (y1, y2) o) + if Acre.inS (x1, x2) (y1, y2) o (toPc (A ++ B) qs[k]) = true then 1 else 0 := by
            rw [List.take_succ_eq_append_getElem hlt, List.map_append, List.countP_append]
            simp [List.countP_cons]
          have hcl : ((qs.take k).map (toPc (A ++ B))).countP (Acre.inS (x1, x2) (y1, y2) o) ≤ k := Nat.le_trans List.countP_le_length (by rw [List.length_map, List.length_take]; omega)
          obtain ⟨qk, hqq⟩ : ∃ q, qs[k] = q := ⟨_, rfl⟩
          rw [hqq] at hcell hqk hcn
          have HK := hide (fun V (h : V.ownsRow V2.heap.size 86 4 u3 (A ++ B).length (flatE (A ++ B))) => HIn.out V u3 qk V2.heap.size h hqk)
          obtain ⟨⟨f1, f2⟩, ⟨t1, t2⟩, lo, hi, ta, tb, tc, td⟩ := qk
          have hpt : ptV ⟨(f1, f2), (t1, t2), lo, hi, ta, tb, tc, td⟩ = .agg #[.int .i64 f1, .int .i64 f2, .int .i64 t1, .int .i64 t2, .int .i64 lo, .int .i64 hi, .int .i64 ta, .int .i64 ta, .int .i64 tb, .int .i64 tc, .int .i64 td] := rfl
          rw [hpt] at HK
          have m0 := hcell 0 _ rfl
          have m1 := hcell 1 _ rfl
          have m2 := hcell 2 _ rfl
          have m3 := hcell 3 _ rfl
          have m4 := hcell 4 _ rfl
          have m5 := hcell 5 _ rfl
          have m6 := hcell 6 _ rfl
          have m7 := hcell 7 _ rfl
          have m8 := hcell 8 _ rfl
          have m9 := hcell 9 _ rfl
          have m10 := hcell 10 _ rfl
          simp only [Nat.add_zero] at m0
          have HCN := hide hcn
          have s0 := hI.box.c 0 _ rfl
          have s1 := hI.box.c 1 _ rfl
          have s2 := hI.box.c 2 _ rfl
          have s3 := hI.box.c 3 _ rfl
          have s4 := hI.box.c 4 _ rfl
          generalize ((qs.take k).map (toPc (A ++ B))).countP (Acre.inS (x1, x2) (y1, y2) o) = cn at *
          generalize Acre.inS (x1, x2) (y1, y2) o (toPc (A ++ B) ⟨(f1, f2), (t1, t2), lo, hi, ta, tb, tc, td⟩) = here at *
          clear hcell hqq hpt hcn hI hqk
          have hdr : Below wr.heap.size wr wr.drew := Below.drew (Below.refl _ _)
          have HR4 := hide (row_call (row_call HR3.out hr.out) hdr)
          go_wp2_with fail
          go_region_with (first
            | (go_at_call 120; refine (HK.out _ HR4.out).mono ?_; rintro e w1 ⟨rfl, hb1⟩)
            | go_in)
          all_goals
           have HB1 := hide (below_call hb1 (below_call hdr hr.out))
           clear hb1 hr HK s0 s1 s2 s3 s4 m0 m1 m2 m3 m4 m5 m6 m7 m8 m9 m10 HR4 hdr
           cases here
           · have HC2 := hide (show ((qs.take (k + 1)).map (toPc (A ++ B))).countP (Acre.inS (x1, x2) (y1, y2) o) = cn from HCN.out)
             clear HCN
             go_wp2
             go_roundw
             case rel => exact ⟨k + 1, by go_num, by omega, by rw [HC2.out], HB1⟩
             case measure => simp [intOf]; omega
           · have HC2 := hide (show ((qs.take (k + 1)).map (toPc (A ++ B))).countP (Acre.inS (x1, x2) (y1, y2) o) = cn + 1 from HCN.out)
             clear HCN
             go_wp2
             go_roundw
             case rel => exact ⟨k + 1, by go_num, by omega, by rw [HC2.out]; go_num, HB1⟩
             case measure => simp [intOf]; omega
        · obtain rfl : k = qs.length := by omega
          rw [List.take_length]
          have HBe := hide (below_call hr.out HI3.out.bel)
          have hpd : (p == 2) = decide (p = 2) := rfl
          have hqd : (q == 2) = decide (q = 2) := rfl
          have HOp := hide (fun V => _root_.Go.Proofs.YtkjlkbgdkdcboaaGreatDoor.rop_any op (p == 2) (q == 2) V hop)
          have hD := HD.out
          rw [if_neg Hor.out, ← hpd, ← hqd] at hD
          generalize ((qs.map (toPc (A ++ B))).countP (Acre.inS (x1, x2) (y1, y2) o)) = cn at *
          clear hr hpd hqd HD
          have HD := hide hD
          clear hD
          cases hK : Acre.opK op (p == 2) (q == 2)
          · rw [hK] at HOp
            have HR := hide (show R = _ by rw [HD.out, hK])
            clear hK HD
            go_wp2_with fail
            refine (HOp.out _).mono ?_
            rintro e w1 ⟨rfl, rfl⟩
            clear HOp
            go_wp2
            go_ret
            refine ⟨?_, HBe.out⟩
            rw [HR.out]
            simp
            try (rw [Bool.eq_iff_iff]; simp only [beq_iff_eq, decide_eq_true_eq]; omega)
          · rw [hK] at HOp
            have HR := hide (show R = _ by rw [HD.out, hK])
            clear hK HD
            go_wp2_with fail
            refine (HOp.out _).mono ?_
            rintro e w1 ⟨rfl, rfl⟩
            clear HOp
            go_wp2
            go_ret
            refine ⟨?_, HBe.out⟩
            rw [HR.out]
            simp
            try (rw [Bool.eq_iff_iff]; simp only [beq_iff_eq, decide_eq_true_eq]; omega)

end Go.Proofs.YtkjlkbgdkdcboaaGreatDoor.Ref

set_option linter.unusedSimpArgs false
set_option linter.unusedVariables false

namespace Go.Proofs.YtkjlkbgdkdcboaaGreatDoor.Ref
open Go.RowKit Go.Maps
attribute [local go_sem ↓] Go.wp_at_zero Go.wp_at_succ

def colF (x : Acre.Fc) (ys : List Acre.Fc) (e : Acre.Ed) : List Acre.Fc := if Acre.upr e = true then Acre.insF (e.2.2, 1) (Acre.insF (e.1.2, 1) ys) else Acre.insF (Acre.hgt e x) ys
theorem colY_def (E : List Acre.Ed) (x : Acre.Fc) : Acre.colY E x = E.foldl (colF x) [(-1012, 1)] := rfl
/-- while the heights are gathered -/
structure ClI (w wr : World) (x : Acre.Fc) (E : List Acre.Ed) (u v : Value) (L : List Acre.Fc) (n : Nat) : Prop where
  ys : CuI w wr v L n
  bx : Box wr w.heap.size [.int .i64 x.1, .int .i64 x.2]
  le : wr.ownsRow (w.heap.size + 1) 86 4 u E.length (flatE E)
theorem ClI.call {w wr w' : World} {x : Acre.Fc} {E : List Acre.Ed} {u v : Value} {L : List Acre.Fc} {n : Nat} (h : ClI w wr x E u v L n) (hb : Below wr.heap.size wr w') : ClI w w' x E u v L n :=
  ⟨h.ys.call hb, h.bx.later (by simp) hb, row_call h.le hb⟩
theorem ClI.put {w wr w' : World} {x : Acre.Fc} {E : List Acre.Ed} {u v v' : Value} {L : List Acre.Fc} {n : Nat} {f : Acre.Fc} (h : ClI w wr x E u v L n) (hf : Mid f) (hrow : w'.ownsRow wr.heap.size 90 2 v' (Acre.insF f L).length (flatF (Acre.insF f L))) (hb : Below wr.heap.size wr w') : ClI w w' x E u v' (Acre.insF f L) (n + 1) :=
  ⟨h.ys.put hf hrow hb, h.bx.later (by simp) hb, row_call h.le hb⟩

set_option maxRecDepth 100000 in
set_option maxHeartbeats 4000000 in
theorem column_any (A B : List Acre.Ed) (qs : List PcT) (va vb vq : Value) (b1 b2 b3 : Nat) (op : Int) (x : Acre.Fc) (w : World) (hH : Hand w A B qs va vb vq b1 b2 b3) (hok : HandOk A B qs) (hop : 0 ≤ op ∧ op ≤ 3) (hx : MidX x) :
    Calls Tryz.prog 35 #[va, vb, .int .i64 op, vq, fcV x] w fun e w' => e = .returned (.bool (Acre.colS A B op (qs.map (toPc (A ++ B))) x)) ∧ Below w.heap.size w w' := by
  have HJ := hide (fun V (h : Hand V A B qs va vb vq b1 b2 b3) => rjoined_any A B va vb b1 b2 V h.a h.b (by have := hok.la; omega) (by have := hok.lb; omega))
  have HR := hide (fun V y o (h : Hand V A B qs va vb vq b1 b2 b3) (hy : Mid y) => right_any A B qs va vb vq b1 b2 b3 op x y o V h hok hop hx hy)
  have hlE : (A ++ B).length ≤ 24 := by have := hok.la; have := hok.lb; rw [List.length_append]; omega
  have hsm := hok.sm
  obtain ⟨E, hE⟩ : ∃ E, A ++ B = E := ⟨_, rfl⟩
  have hcol : Acre.colS A B op (qs.map (toPc (A ++ B))) x = (E.foldl (colF x) [(-1012, 1)]).all (fun y => Acre.rightS A B op (qs.map (toPc (A ++ B))) x y false && Acre.rightS A B op (qs.map (toPc (A ++ B))) x y true) := by rw [← hE]; rfl
  rw [hcol]
  rw [hE] at HJ hlE hsm
  clear hcol hE
  obtain ⟨x1, x2⟩ := x
  obtain ⟨⟨hx1, hx2⟩, ⟨hx3, hx4⟩⟩ := id hx
  dsimp only at hx1 hx2 hx3 hx4
  unfold fcV
  dsimp only
  have hb0 := below1 w (.cells #[.int .i64 x1, .int .i64 x2] 90)
  have hH0 := hH.later hb0
  have bX0 := Box.new w [.int .i64 x1, .int .i64 x2] 90
  go_enter Tryz.func35, Tryz.ntmps35
  go_wp2_with fail
  have hsz0 : (w.alloc (.cells #[.int .i64 x1, .int .i64 x2] 90)).heap.size = w.heap.size + 1 := by simp
  generalize w.alloc (.cells #[.int .i64 x1, .int .i64 x2] 90) = V0 at *
  refine (HJ.out _ hH0).mono ?_
  rintro e V1 ⟨u1, rfl, hrow1, hb1⟩
  rw [hsz0] at hrow1
  have hbA := below_call hb1 hb0
  have hI1 : ClI w (V1.alloc (.cells #[.int .i64 (-1012), .int .i64 1] 90)) (x1, x2) E u1 (.slice (some ⟨V1.heap.size, 0, none⟩) 1 1) [((-1012 : Int), (1 : Int))] 1 := by
    refine ⟨⟨⟨rfl, .inr ⟨V1.heap.size, 1, #[.int .i64 (-1012), .int .i64 1], rfl, hbA.size, heap_alloc_new V1 _, Nat.le_refl _, by unfold maxLen; omega, rfl, rfl⟩⟩, below_call (below1 _ _) hbA, ?_, by simp⟩, (bX0.later (by simp) hb1).later (by simp) (below1 _ _), row_call hrow1 (below1 _ _)⟩
    intro z hz
    simp at hz
    rw [hz]
    unfold Mid; dsimp only; omega
  have HH1 := hide ((hH0.later hb1).later (below1 V1 (.cells #[.int .i64 (-1012), .int .i64 1] 90)))
  have HI1 := hide hI1
  clear hH0 HJ hb1 hb0 bX0 hsz0 hbA hI1 hrow1
  obtain ⟨ea, eg, ecap, rfl, hea⟩ := rowE_form HI1.out.le
  go_wp2
  generalize V1.alloc (.cells #[.int .i64 (-1012), .int .i64 1] 90) = V2 at *
  generalize V1.heap.size = Y1 at *
  go_loopw [12, 13] (fun yv i wr => ∃ k : Nat, i = .int .i64 k ∧ k ≤ E.length ∧ Hid (ClI w wr (x1, x2) E (.slice ea E.length ecap) yv ((E.take k).foldl (colF (x1, x2)) [(-1012, 1)]) (1 + 2 * k) ∧ Below V2.heap.size V2 wr)) (fun _ i _ => E.length - (intOf i).toNat)
  case atStart => exact ⟨0, rfl, Nat.zero_le _, HI1.out, Below.refl _ _⟩
  case round =>
    obtain ⟨k, rfl, hk, hr⟩ := hrel
    by_cases hlt : k < E.length
    · obtain rfl := hea (by omega)
      obtain ⟨hI, hb2⟩ := hr.out
      obtain ⟨c0, c1, c2, c3⟩ := row_e hI.le k hlt
      have hse := hsm E[k] (List.getElem_mem hlt)
      have hst : (E.take (k + 1)).foldl (colF (x1, x2)) [(-1012, 1)] = colF (x1, x2) ((E.take k).foldl (colF (x1, x2)) [(-1012, 1)]) E[k] := by rw [List.take_succ_eq_append_getElem hlt, List.foldl_append]; rfl
      generalize (E.take k).foldl (colF (x1, x2)) [(-1012, 1)] = L at *
      obtain ⟨⟨⟨e0, e1⟩, ⟨e2, e3⟩⟩, he⟩ : ∃ e, E[k] = e := ⟨_, rfl⟩
      rw [he] at c0 c1 c2 c3 hse hst
      have Hst := hide hst
      have HI := hide hI
      have HB2 := hide hb2
      have hlen := hI.ys.len
      have hmid := hI.ys.mid
      have q0 := hI.bx.c 0 _ rfl
      have q1 := hI.bx.c 1 _ rfl
      have HU := hide (fun V => rupright_any e0 e1 e2 e3 V)
      clear hst he hI hb2 hr
      go_wp2_with fail
      refine (HU.out _).mono ?_
      rintro e w1 ⟨rfl, hb1⟩
      have hI1' := HI.out.call hb1
      have HIa := hide hI1'
      have HBa := hide (below_call hb1 HB2.out)
      have c0' := cell_later hb1 c0
      have c1' := cell_later hb1 c1
      have c2' := cell_later hb1 c2
      have c3' := cell_later hb1 c3
      clear HI HB2 HU hb1 q0 q1 c0 c1 c2 c3
      have q0 := hI1'.bx.c 0 _ rfl
      have q1 := hI1'.bx.c 1 _ rfl
      clear hI1'
      obtain ⟨⟨p1, p2⟩, ⟨p3, p4⟩⟩ := id hse
      dsimp only at p1 p2 p3 p4
      by_cases hup : e0 = e2
      · subst hup
        have hcF : colF (x1, x2) L ((e0, e1), (e0, e3)) = Acre.insF (e3, 1) (Acre.insF (e1, 1) L) := by unfold colF Acre.upr; simp
        have HP := hide (fun V v (h : V.ownsRow w.heap.size 90 2 v L.length (flatF L)) => put_any L (e1, 1) v w.heap.size V h hmid (mid_int p2) (by omega))
        have hmid2 : ∀ z ∈ Acre.insF (e1, 1) L, Mid z := fun z hz => by
          rcases (Acre.mem_insF _ z L).1 hz with rfl | hz
          · exact mid_int p2
          · exact hmid z hz
        have hlen2 := insF_len (e1, 1) L
        have HP2 := hide (fun V v (h : V.ownsRow w.heap.size 90 2 v (Acre.insF (e1, 1) L).length (flatF (Acre.insF (e1, 1) L))) => put_any _ (e3, 1) v w.heap.size V h hmid2 (mid_int p4) (by omega))
        unfold fcV at HP HP2
        dsimp only at HP HP2
        have HcF := hide hcF
        clear hmid2 hcF
        go_wp2_with fail
        refine (HP.out _ _ HIa.out.ys.row).mono ?_
        rintro e w2 ⟨v2, rfl, hrow2, hb2⟩
        have HI2 := hide (HIa.out.put (mid_int p2) hrow2 hb2)
        have HBb := hide (below_call hb2 HBa.out)
        have d3 := cell_later hb2 c3'
        clear HIa HBa HP hrow2 hb2 c0' c1' c2' c3' q0 q1
        go_wp2_with fail
        refine (HP2.out _ _ HI2.out.ys.row).mono ?_
        rintro e w3 ⟨v3, rfl, hrow3, hb3⟩
        have HI3 := hide (HI2.out.put (mid_int p4) hrow3 hb3)
        have HBc := hide (below_call hb3 HBb.out)
        clear HI2 HBb HP2 hrow3 hb3 d3
        go_wp2
        go_roundw
        case rel =>
          refine ⟨k + 1, by go_num, by omega, ?_, HBc.out⟩
          rw [Hst.out, HcF.out]
          exact ⟨⟨HI3.out.ys.row, HI3.out.ys.bel, HI3.out.ys.mid, Nat.le_trans HI3.out.ys.len (by omega)⟩, HI3.out.bx, HI3.out.le⟩
        case measure => simp [intOf]; omega
      · have hupb : Acre.upr ((e0, e1), (e2, e3)) = false := by unfold Acre.upr; simpa using hup
        have hcF : colF (x1, x2) L ((e0, e1), (e2, e3)) = Acre.insF (Acre.hgt ((e0, e1), (e2, e3)) (x1, x2)) L := by unfold colF; rw [hupb]; rfl
        have hT2 := hgt_mid (e := ((e0, e1), (e2, e3))) (x := (x1, x2)) hse hupb hx
        have HT2 := hide (fun V => rheight_any e0 e1 e2 e3 x1 x2 V p1 p2 p3 p4 ⟨by omega, by omega⟩ ⟨by omega, by omega⟩ (fun e => hup e.symm) (by omega))
        rw [hgtF_eq] at HT2
        have HP := hide (fun V v (h : V.ownsRow w.heap.size 90 2 v L.length (flatF L)) => put_any L (Acre.hgt ((e0, e1), (e2, e3)) (x1, x2)) v w.heap.size V h hmid hT2 (by omega))
        unfold fcV at HP
        generalize Acre.hgt ((e0, e1), (e2, e3)) (x1, x2) = hh at *
        obtain ⟨h1, h2⟩ := hh
        dsimp only at HP HT2
        have HcF := hide hcF
        clear hcF
        have hdr : Below w1.heap.size w1 w1.drew := Below.drew (Below.refl _ _)
        go_wp2_with fail
        go_region_with (first
          | (go_at_call 69; refine (HT2.out _).mono ?_; rintro e w2 ⟨rfl, hb2⟩)
          | (go_at_call 67; refine (HP.out _ _ (row_call HIa.out.ys.row (below_call hb2 hdr))).mono ?_; rintro e w3 ⟨v3, rfl, hrow3, hb3⟩)
          | go_in)
        all_goals
          have HI3 := hide ((HIa.out.call (below_call hb2 hdr)).put hT2 hrow3 hb3)
          have HBc := hide (below_call hb3 (below_call (below_call hb2 hdr) HBa.out))
          clear HIa HBa HT2 hb2 c0' c1' c2' c3' q0 q1 HP hrow3 hb3 hdr
          go_wp2
          go_roundw
          case rel =>
            refine ⟨k + 1, by go_num, by omega, ?_, HBc.out⟩
            rw [Hst.out, HcF.out]
            exact ⟨⟨HI3.out.ys.row, HI3.out.ys.bel, HI3.out.ys.mid, Nat.le_trans HI3.out.ys.len (by omega)⟩, HI3.out.bx, HI3.out.le⟩
          case measure => simp [intOf]; omega
    · obtain rfl : k = E.length := by omega
      have hr1 := hr.out
      rw [List.take_length] at hr1
      clear hr
      obtain ⟨Y, hYd⟩ : ∃ Y, E.foldl (colF (x1, x2)) [(-1012, 1)] = Y := ⟨_, rfl⟩
      rw [hYd] at hr1
      have HY := hide hYd
      clear hYd
      obtain ⟨hI, hb2⟩ := hr1
      obtain ⟨ya, yg, ycap, rfl, hya⟩ := rowE_form hI.ys.row
      have hlenY := hI.ys.len
      have hmid := hI.ys.mid
      have HI := hide hI
      have HH := hide (HH1.out.later hb2)
      clear hI hb2 HH1 HI1
      generalize wr = W9 at *
      go_wp2
      go_loopw [14] (fun i wr => ∃ k : Nat, i = .int .i64 k ∧ k ≤ Y.length ∧ Hid ((Y.take k).all (fun y => Acre.rightS A B op (qs.map (toPc (A ++ B))) (x1, x2) y false && Acre.rightS A B op (qs.map (toPc (A ++ B))) (x1, x2) y true) = true ∧ Below W9.heap.size W9 wr)) (fun i _ => Y.length - (intOf i).toNat)
      case atStart => exact ⟨0, rfl, Nat.zero_le _, rfl, Below.refl _ _⟩
      case round =>
        obtain ⟨k, rfl, hk, hr⟩ := hrel
        by_cases hlt : k < Y.length
        · obtain rfl := hya (by omega)
          obtain ⟨hall, hbs⟩ := hr.out
          have hIs := HI.out.call hbs
          have hHs := hide (HH.out.later hbs)
          obtain ⟨c0, c1⟩ := row_f hIs.ys.row k hlt
          have q0 := hIs.bx.c 0 _ rfl
          have q1 := hIs.bx.c 1 _ rfl
          have hmy := hmid Y[k] (List.getElem_mem hlt)
          have hst : (Y.take (k + 1)).all (fun y => Acre.rightS A B op (qs.map (toPc (A ++ B))) (x1, x2) y false && Acre.rightS A B op (qs.map (toPc (A ++ B))) (x1, x2) y true) = (Acre.rightS A B op (qs.map (toPc (A ++ B))) (x1, x2) Y[k] false && Acre.rightS A B op (qs.map (toPc (A ++ B))) (x1, x2) Y[k] true) := by
            rw [List.take_succ_eq_append_getElem hlt, List.all_append, hall]; simp
          have hno : (Acre.rightS A B op (qs.map (toPc (A ++ B))) (x1, x2) Y[k] false && Acre.rightS A B op (qs.map (toPc (A ++ B))) (x1, x2) Y[k] true) = false → Y.all (fun y => Acre.rightS A B op (qs.map (toPc (A ++ B))) (x1, x2) y false && Acre.rightS A B op (qs.map (toPc (A ++ B))) (x1, x2) y true) = false := fun h => by
            rw [List.all_eq_false]
            exact ⟨_, List.getElem_mem hlt, by rw [h]; simp⟩
          obtain ⟨⟨y1, y2⟩, hy⟩ : ∃ y, Y[k] = y := ⟨_, rfl⟩
          rw [hy] at c0 c1 hmy hst hno
          have HR1 := hide (fun V o (h : Hand V A B qs va vb vq b1 b2 b3) => HR.out V (y1, y2) o h hmy)
          unfold spV at HR1
          dsimp only at HR1
          have HRf := hide (fun V (h : Hand V A B qs va vb vq b1 b2 b3) => HR1.out V false h)
          have HRt := hide (fun V (h : Hand V A B qs va vb vq b1 b2 b3) => HR1.out V true h)
          obtain ⟨r1, hr1⟩ : ∃ r, Acre.rightS A B op (qs.map (toPc (A ++ B))) (x1, x2) (y1, y2) false = r := ⟨_, rfl⟩
          obtain ⟨r2, hr2⟩ : ∃ r, Acre.rightS A B op (qs.map (toPc (A ++ B))) (x1, x2) (y1, y2) true = r := ⟨_, rfl⟩
          rw [hr1, hr2] at hst hno
          rw [hr1] at HRf
          rw [hr2] at HRt
          have Hst := hide hst
          have Hno := hide hno
          have HIs := hide hIs
          have HBs := hide hbs
          clear hst hno hy hr hall hIs hbs HR1 hr1 hr2
          have hdr : Below wr.heap.size wr wr.drew := Below.drew (Below.refl _ _)
          have hHd := hide (hHs.out.later hdr)
          go_upto_region 13 with fail
          go_cut [15] (fun t wx => t = .bool r1 ∧ Hid (Below wr.heap.size wr wx))
          case first =>
            go_region_with (first
              | (go_at_call 70; refine (HRf.out _ hHd.out).mono ?_; rintro e w4 ⟨rfl, hb4⟩)
              | go_in)
            all_goals
              have HB4 := hide (below_call hb4 hdr)
              clear hb4
              go_wp2_with fail
              go_meet
              exact ⟨rfl, HB4.out⟩
          case rest =>
          obtain ⟨rfl, hb5⟩ := hcut
          have d0 := cell_later hb5.out c0
          have d1 := cell_later hb5.out c1
          have p0 := cell_later hb5.out q0
          have p1 := cell_later hb5.out q1
          clear c0 c1 q0 q1 hHd hdr HRf
          have hdr : Below wc.heap.size wc wc.drew := Below.drew (Below.refl _ _)
          have hHd := hide ((hHs.out.later hb5.out).later hdr)
          go_upto_region 14 with fail
          go_cut [16] (fun t wx => t = .bool r2 ∧ Hid (Below wc.heap.size wc wx))
          case first =>
            go_region_with (first
              | (go_at_call 70; refine (HRt.out _ hHd.out).mono ?_; rintro e w4 ⟨rfl, hb4⟩)
              | go_in)
            all_goals
              have HB4 := hide (below_call hb4 hdr)
              clear hb4
              go_wp2_with fail
              go_meet
              exact ⟨rfl, HB4.out⟩
          case rest =>
          obtain ⟨rfl, hb6⟩ := hcut
          have HBz := hide (below_call hb6.out (below_call hb5.out HBs.out))
          clear d0 d1 p0 p1 hHd hdr HRt hb5 hb6
          cases r1
          · have HN := hide (Hno.out rfl)
            clear Hno Hst
            go_wp2
            go_ret
            exact ⟨by rw [HY.out, HN.out]; rfl, below_call HBz.out HI.out.ys.bel⟩
          · cases r2
            · have HN := hide (Hno.out rfl)
              clear Hno Hst
              go_wp2
              go_ret
              exact ⟨by rw [HY.out, HN.out]; rfl, below_call HBz.out HI.out.ys.bel⟩
            · have HN := hide (Hst.out)
              clear Hno Hst
              go_wp2
              go_roundw
              case rel => exact ⟨k + 1, by go_num, by omega, HN.out, HBz.out⟩
              case measure => simp [intOf]; omega
        · obtain rfl : k = Y.length := by omega
          obtain ⟨hall, hbs⟩ := hr.out
          rw [List.take_length] at hall
          have HA := hide hall
          have HBs := hide hbs
          clear hall hbs hr
          go_wp2
          go_ret
          exact ⟨by rw [HY.out, HA.out]; rfl, below_call HBs.out HI.out.ys.bel⟩

end Go.Proofs.YtkjlkbgdkdcboaaGreatDoor.Ref

set_option linter.unusedSimpArgs false
set_option linter.unusedVariables false

namespace Go.Proofs.YtkjlkbgdkdcboaaGreatDoor.Ref
open Go.RowKit Go.Maps
attribute [local go_sem ↓] Go.wp_at_zero Go.wp_at_succ

/-- a cut as it comes up -/
def Cut (x : Acre.Fc) : Prop := (-14000 ≤ x.1 ∧ x.1 ≤ 14000) ∧ (0 < x.2 ∧ x.2 ≤ 1152)
theorem cut_midX {x : Acre.Fc} (h : Cut x) : MidX x := by
  obtain ⟨⟨a, b⟩, ⟨c, d⟩⟩ := h
  exact ⟨⟨by omega, by omega⟩, ⟨by omega, by omega⟩⟩
theorem mid_midX {x y : Acre.Fc} (hx : Cut x) (hy : Cut y) : MidX (Acre.midF x y) := by
  obtain ⟨⟨a, b⟩, ⟨c, d⟩⟩ := hx
  obtain ⟨⟨a', b'⟩, ⟨c', d'⟩⟩ := hy
  have m1 := mul_bd (p := x.1) (q := y.2) (P := 14000) (Q := 1152) ⟨a, b⟩ (by omega)
  have m2 := mul_bd (p := y.1) (q := x.2) (P := 14000) (Q := 1152) ⟨a', b'⟩ (by omega)
  have m3 := mul_bd (p := 2 * x.2) (q := y.2) (P := 2304) (Q := 1152) (by omega) (by omega)
  have hp : 0 < 2 * x.2 * y.2 := Int.mul_pos (by omega) c'
  have hb := Acre.low_bd (x.1 * y.2 + y.1 * x.2) (2 * x.2 * y.2)
  have hs := Acre.low_spec (x.1 * y.2 + y.1 * x.2) (2 * x.2 * y.2) (by omega)
  unfold Acre.midF MidX
  omega
theorem adj_take : ∀ (l : List Acre.Fc) (k : Nat) (h : k + 1 < l.length), (Acre.adj l)[k]? = some (l[k], l[k + 1])
  | [], k, h => by simp at h
  | [a], k, h => by simp at h
  | a :: b :: r, 0, _ => rfl
  | a :: b :: r, k + 1, h => by
    have := adj_take (b :: r) k (by simpa using h)
    simpa [Acre.adj] using this
theorem adj_len : ∀ (l : List Acre.Fc), (Acre.adj l).length = l.length - 1
  | [] => rfl
  | [a] => rfl
  | a :: b :: r => by
    have := adj_len (b :: r)
    simp only [Acre.adj, List.length_cons] at this ⊢
    omega

set_option maxRecDepth 100000 in
set_option maxHeartbeats 4000000 in
theorem rightR_any (A B : List Acre.Ed) (qs : List PcT) (va vb vq : Value) (b1 b2 b3 : Nat) (op : Int) (w : World) (hH : Hand w A B qs va vb vq b1 b2 b3) (hok : HandOk A B qs) (hop : 0 ≤ op ∧ op ≤ 3) (hcuts : ∀ z ∈ Acre.cutR (A ++ B) (qs.map (toPc (A ++ B))), Cut z) :
    Calls Tryz.prog 19 #[va, vb, .int .i64 op, vq] w fun e w' => e = .returned (.bool (Acre.rightP A B op (qs.map (toPc (A ++ B))))) ∧ Below w.heap.size w w' := by
  have HJ := hide (fun V (h : Hand V A B qs va vb vq b1 b2 b3) => rjoined_any A B va vb b1 b2 V h.a h.b (by have := hok.la; omega) (by have := hok.lb; omega))
  have HC := hide (fun V v base (h : V.ownsRow base 86 4 v (A ++ B).length (flatE (A ++ B))) (hq : V.ownsRow b3 93 11 vq qs.length (flatT qs)) => cuts_any (A ++ B) qs v vq base b3 V h hq hok.sm (by have := hok.la; have := hok.lb; rw [List.length_append]; omega) (fun q hm => ⟨(hok.q q hm).f, (hok.q q hm).t⟩) hok.lq)
  have HCol := hide (fun V x (h : Hand V A B qs va vb vq b1 b2 b3) (hx : MidX x) => column_any A B qs va vb vq b1 b2 b3 op x V h hok hop hx)
  have hdef : Acre.rightP A B op (qs.map (toPc (A ++ B))) = (Acre.adj (Acre.cutR (A ++ B) (qs.map (toPc (A ++ B))))).all (fun s => Acre.colS A B op (qs.map (toPc (A ++ B))) s.1 && Acre.colS A B op (qs.map (toPc (A ++ B))) (Acre.midF s.1 s.2)) := rfl
  obtain ⟨R, hR⟩ : ∃ R, Acre.rightP A B op (qs.map (toPc (A ++ B))) = R := ⟨_, rfl⟩
  rw [hR]
  rw [hR] at hdef
  clear hR
  generalize Acre.cutR (A ++ B) (qs.map (toPc (A ++ B))) = C at *
  have HD := hide hdef
  clear hdef
  go_enter Tryz.func19, Tryz.ntmps19
  go_wp2_with fail
  refine (HJ.out _ hH).mono ?_
  rintro e V1 ⟨u1, rfl, hrow1, hb1⟩
  have hH1 := hide (hH.later hb1)
  have HR1 := hide hrow1
  clear HJ hrow1
  go_wp2_with fail
  refine (HC.out _ _ _ HR1.out hH1.out.q).mono ?_
  rintro e V2 ⟨u2, rfl, hrow2, hb2, _⟩
  have hH2 := hide (hH1.out.later hb2)
  have HR2 := hide hrow2
  have HB2 := hide (below_call hb2 hb1)
  clear HC hrow2 hH1 HR1 hb1 hb2
  obtain ⟨ca, cg, ccap, rfl, hca⟩ := rowE_form HR2.out
  have hlenC : C.length ≤ maxLen := by
    rcases HR2.out.2 with ⟨_, h⟩ | ⟨g, cap, cur, _, _, _, h1, h2, _⟩
    · rw [h]; exact Nat.zero_le _
    · omega
  unfold maxLen at hlenC
  go_wp2
  go_loopw [10] (fun i wr => ∃ k : Nat, i = .int .i64 k ∧ (k < C.length ∨ k = 0) ∧ Hid (((Acre.adj C).take k).all (fun s => Acre.colS A B op (qs.map (toPc (A ++ B))) s.1 && Acre.colS A B op (qs.map (toPc (A ++ B))) (Acre.midF s.1 s.2)) = true ∧ Below V2.heap.size V2 wr)) (fun i _ => C.length - (intOf i).toNat)
  case atStart => exact ⟨0, rfl, .inr rfl, rfl, Below.refl _ _⟩
  case round =>
    obtain ⟨k, rfl, hk, hr⟩ := hrel
    obtain ⟨hall, hbw⟩ := hr.out
    by_cases hlt : k + 1 < C.length
    · obtain rfl := hca (by omega)
      obtain ⟨c0, c1⟩ := row_f HR2.out k (by omega)
      obtain ⟨d0, d1⟩ := row_f HR2.out (k + 1) hlt
      have hak := adj_take C k hlt
      have hc1 := hcuts (C[k]'(by omega)) (List.getElem_mem _)
      have hc2 := hcuts C[k + 1] (List.getElem_mem hlt)
      have hal : k < (Acre.adj C).length := by rw [adj_len]; omega
      have hst : ((Acre.adj C).take (k + 1)).all (fun s => Acre.colS A B op (qs.map (toPc (A ++ B))) s.1 && Acre.colS A B op (qs.map (toPc (A ++ B))) (Acre.midF s.1 s.2)) = (Acre.colS A B op (qs.map (toPc (A ++ B))) (C[k]'(by omega)) && Acre.colS A B op (qs.map (toPc (A ++ B))) (Acre.midF (C[k]'(by omega)) C[k + 1])) := by
        rw [List.take_succ_eq_append_getElem hal, List.all_append, hall]
        rw [List.getElem?_eq_getElem hal] at hak
        simp only [Option.some.injEq] at hak
        simp [hak]
      have hno : (Acre.colS A B op (qs.map (toPc (A ++ B))) (C[k]'(by omega)) && Acre.colS A B op (qs.map (toPc (A ++ B))) (Acre.midF (C[k]'(by omega)) C[k + 1])) = false → R = false := fun h => by
        rw [HD.out, List.all_eq_false]
        exact ⟨_, List.mem_of_getElem? hak, by rw [h]; simp⟩
      obtain ⟨⟨f1, f2⟩, hf⟩ : ∃ y, (C[k]'(by omega)) = y := ⟨_, rfl⟩
      obtain ⟨⟨t1, t2⟩, ht⟩ : ∃ y, C[k + 1] = y := ⟨_, rfl⟩
      rw [hf] at c0 c1 hst hno hc1
      rw [ht] at d0 d1 hst hno hc2
      have HC1 := hide (fun V (h : Hand V A B qs va vb vq b1 b2 b3) => HCol.out V (f1, f2) h (cut_midX hc1))
      have hmx := mid_midX hc1 hc2
      obtain ⟨⟨a1, a2⟩, ⟨a3, a4⟩⟩ := id hc1
      obtain ⟨⟨a5, a6⟩, ⟨a7, a8⟩⟩ := id hc2
      dsimp only at a1 a2 a3 a4 a5 a6 a7 a8
      have m1 := mul_bd (p := f1) (q := t2) (P := 14000) (Q := 1152) ⟨a1, a2⟩ (by omega)
      have m2 := mul_bd (p := t1) (q := f2) (P := 14000) (Q := 1152) ⟨a5, a6⟩ (by omega)
      have m3 := mul_bd (p := 2 * f2) (q := t2) (P := 2304) (Q := 1152) (by omega) (by omega)
      have hp : 0 < 2 * f2 * t2 := Int.mul_pos (by omega) a7
      have HM := hide (fun V => rmiddle_any f1 f2 t1 t2 V (by omega) (by omega) (by omega) (by omega) (by omega))
      have hmm : midF (f1, f2) (t1, t2) = Acre.midF (f1, f2) (t1, t2) := rfl
      rw [hmm] at HM
      have HC2 := hide (fun V (h : Hand V A B qs va vb vq b1 b2 b3) => HCol.out V _ h hmx)
      unfold fcV at HC1 HC2
      generalize Acre.midF (f1, f2) (t1, t2) = mm at *
      obtain ⟨g1, g2⟩ := mm
      dsimp only at HC1 HC2 HM
      generalize Acre.colS A B op (qs.map (toPc (A ++ B))) (f1, f2) = r1 at *
      generalize Acre.colS A B op (qs.map (toPc (A ++ B))) (g1, g2) = r2 at *
      have Hst := hide hst
      have Hno := hide hno
      have HBw := hide hbw
      have y0 := cell_later hbw c0
      have y1 := cell_later hbw c1
      have z0 := cell_later hbw d0
      have z1 := cell_later hbw d1
      have hHw := hide (hH2.out.later hbw)
      have hk2 : ((k : Int) + 1) < (C.length : Int) := by omega
      have hk4 : (0 : Int) ≤ (k : Int) + 1 := by omega
      have hk5 : IntKind.i64.wrap ((k : Int) + 1) = (k : Int) + 1 := wrap_in _ (by omega)
      have hk6 : ((k : Int) + 1).toNat = k + 1 := by omega
      have hk7 : (0 : Int) ≤ (k : Int) := by omega
      have hk8 : (k : Int) < (C.length : Int) := by omega
      clear hst hno hf ht hall hbw hr hak c0 c1 d0 d1 hp m1 m2 m3 hmm hal
      go_wp2_with fail
      refine (HC1.out _ hHw.out).mono ?_
      rintro e w1 ⟨rfl, hb1⟩
      have x0 := cell_later hb1 y0
      have x1 := cell_later hb1 y1
      have x2 := cell_later hb1 z0
      have x3 := cell_later hb1 z1
      have hHx := hide (hHw.out.later hb1)
      have HBx := hide (below_call hb1 HBw.out)
      clear HC1 hHw HBw hb1 y0 y1 z0 z1
      have hdr : Below w1.heap.size w1 w1.drew := Below.drew (Below.refl _ _)
      go_upto_region 6 with fail
      go_cut [12] (fun t wx => t = .bool r2 ∧ Hid (Below w1.heap.size w1 wx))
      case first =>
        go_region_with (first
          | (go_at_call 36; refine (HM.out _).mono ?_; rintro e w2 ⟨rfl, hb2⟩)
          | (go_at_call 35; refine (HC2.out _ (hHx.out.later (below_call hb2 hdr))).mono ?_; rintro e w3 ⟨rfl, hb3⟩)
          | go_in)
        all_goals
          have HB4 := hide (below_call hb3 (below_call hb2 hdr))
          clear hb3 hb2
          go_wp2_with fail
          go_meet
          exact ⟨rfl, HB4.out⟩
      case rest =>
      obtain ⟨rfl, hb5⟩ := hcut
      have HBz := hide (below_call hb5.out HBx.out)
      clear HC2 HM hHx HBx hb5 x0 x1 x2 x3 hdr
      cases r1
      · have HN := hide (Hno.out rfl)
        clear Hno Hst
        cases r2
        all_goals
          go_wp2
          go_ret
          exact ⟨by rw [HN.out]; rfl, below_call HBz.out HB2.out⟩
      · cases r2
        · have HN := hide (Hno.out rfl)
          clear Hno Hst
          go_wp2
          go_ret
          exact ⟨by rw [HN.out]; rfl, below_call HBz.out HB2.out⟩
        · have HN := hide Hst.out
          clear Hno Hst
          go_wp2
          go_roundw
          case rel => exact ⟨k + 1, by go_num, .inl hlt, HN.out, HBz.out⟩
          case measure => simp [intOf]; omega
    · have hfull : (Acre.adj C).take k = Acre.adj C := List.take_of_length_le (by rw [adj_len]; omega)
      rw [hfull] at hall
      have HN := hide (show R = true by rw [HD.out]; exact hall)
      have HBz := hide hbw
      have hk2 : ¬ ((k : Int) + 1) < (C.length : Int) := by omega
      have hk3 : (k : Int) + 1 ≤ 9223372036854775807 := by rcases hk with h | h <;> omega
      clear hall hbw hr hfull
      go_wp2
      go_ret
      exact ⟨by rw [HN.out]; rfl, below_call HBz.out HB2.out⟩

end Go.Proofs.YtkjlkbgdkdcboaaGreatDoor.Ref

