import Derived.Test.YtkjlkbgdkdcboaaGreatDoorPuA
import Derived.Test.YtkjlkbgdkdcboaaGreatDoorNaA
import Derived.Test.YtkjlkbgdkdcboaaGreatDoorCutR
import Derived.Deep.DeepCutAuto

set_option linter.unusedSimpArgs false
set_option linter.unusedVariables false

set_option linter.unusedSimpArgs false
set_option linter.unusedVariables false

namespace Go.Proofs.YtkjlkbgdkdcboaaGreatDoor.Ref
open Go.RowKit Go.Maps
attribute [local go_sem ↓] Go.wp_at_zero Go.wp_at_succ

/-- the x of a column -/
def MidX (x : Acre.Fc) : Prop := (-40000000 ≤ x.1 ∧ x.1 ≤ 40000000) ∧ (0 < x.2 ∧ x.2 ≤ 2660000)
theorem hgtF_eq (e : Acre.Ed) (x : Acre.Fc) : hgtF e x = Acre.hgt e x := by
  unfold hgtF Acre.hgt
  rw [Int.mul_comm (e.2.2 - e.1.2)]
def spV (x y : Acre.Fc) (o : Bool) : Value := .agg #[.int .i64 x.1, .int .i64 x.2, .int .i64 y.1, .int .i64 y.2, .bool o]
theorem hgt_mid {e : Acre.Ed} {x : Acre.Fc} (he : SmE e) (hu : Acre.upr e = false) (hx : MidX x) : Mid (Acre.hgt e x) := by
  obtain ⟨⟨a1, a2⟩, ⟨a3, a4⟩⟩ := he
  obtain ⟨⟨x1, x2⟩, ⟨x3, x4⟩⟩ := hx
  have hne : e.2.1 - e.1.1 ≠ 0 := by unfold Acre.upr at hu; simp at hu; omega
  have hr := Acre.hgt_red e x hu x3
  unfold Acre.hgt at hr ⊢
  have m1 := mul_bd (p := e.1.2) (q := e.2.1 - e.1.1) (P := 13) (Q := 26) a2 (by omega)
  have m2 := mul_bd (p := e.1.2 * (e.2.1 - e.1.1)) (q := x.2) (P := 338) (Q := 2660000) m1 (by omega)
  have m3 := mul_bd (p := e.1.1) (q := x.2) (P := 13) (Q := 2660000) a1 (by omega)
  have m4 := mul_bd (p := x.1 - e.1.1 * x.2) (q := e.2.2 - e.1.2) (P := 75000000) (Q := 26) (by omega) (by omega)
  have m5 := mul_bd (p := e.2.1 - e.1.1) (q := x.2) (P := 26) (Q := 2660000) (by omega) (by omega)
  have hb := Acre.low_bd (e.1.2 * (e.2.1 - e.1.1) * x.2 + (x.1 - e.1.1 * x.2) * (e.2.2 - e.1.2)) ((e.2.1 - e.1.1) * x.2)
  unfold Mid
  have := hr.1
  omega

/-- while a spot is looked up -/
structure SpI (w wr : World) (x y : Acre.Fc) (o : Bool) : Prop where
  box : Box wr w.heap.size [.int .i64 x.1, .int .i64 x.2, .int .i64 y.1, .int .i64 y.2, .bool o]
  bel : Below w.heap.size w wr
theorem SpI.call {w wr w' : World} {x y : Acre.Fc} {o : Bool} (h : SpI w wr x y o) (hb : Below wr.heap.size wr w') : SpI w w' x y o := ⟨h.box.later (by simp) hb, below_call hb h.bel⟩

set_option maxRecDepth 100000 in
set_option maxHeartbeats 4000000 in
theorem at_any (l : List Acre.Ed) (x y : Acre.Fc) (o : Bool) (v : Value) (b1 : Nat) (w : World) (hl : w.ownsRow b1 86 4 v l.length (flatE l)) (hsm : ∀ e ∈ l, SmE e) (hlen : l.length ≤ 1000) (hx : MidX x) (hy : Mid y) :
    Calls Tryz.prog 119 #[spV x y o, v] w fun e w' => e = .returned (.int .i64 (Acre.atS l x y o)) ∧ Below w.heap.size w w' := by
  obtain ⟨ga, gb, gcap, rfl, hga⟩ := rowE_form hl
  obtain ⟨x1, x2⟩ := x
  obtain ⟨y1, y2⟩ := y
  obtain ⟨⟨hx1, hx2⟩, ⟨hx3, hx4⟩⟩ := id hx
  obtain ⟨⟨hy1, hy2⟩, ⟨hy3, hy4⟩⟩ := id hy
  dsimp only at hx1 hx2 hx3 hx4 hy1 hy2 hy3 hy4
  unfold spV
  dsimp only
  go_enter Tryz.func119, Tryz.ntmps119
  go_wp2
  go_loopw [5, 6] (fun nv i wr => ∃ k : Nat, i = .int .i64 k ∧ k ≤ l.length ∧ nv = .int .i64 ((l.take k).countP (Acre.abS (x1, x2) (y1, y2)) : Nat) ∧ Hid ((l.take k).any (Acre.onS (x1, x2) (y1, y2) o) = false ∧ SpI w wr (x1, x2) (y1, y2) o)) (fun _ i _ => l.length - (intOf i).toNat)
  case atStart => exact ⟨0, rfl, Nat.zero_le _, rfl, rfl, Box.new w [.int .i64 x1, .int .i64 x2, .int .i64 y1, .int .i64 y2, .bool o] 160, below1 _ _⟩
  case round =>
    obtain ⟨k, rfl, hk, rfl, hr⟩ := hrel
    by_cases hlt : k < l.length
    · obtain rfl := hga (by omega)
      obtain ⟨hon, hI⟩ := hr.out
      obtain ⟨c0, c1, c2, c3⟩ := row_e hl k hlt
      have hse := hsm l[k] (List.getElem_mem hlt)
      have htk : l.take (k + 1) = l.take k ++ [l[k]] := List.take_succ_eq_append_getElem hlt
      have hany : Acre.onS (x1, x2) (y1, y2) o l[k] = true → l.any (Acre.onS (x1, x2) (y1, y2) o) = true := fun h => List.any_eq_true.2 ⟨_, List.getElem_mem hlt, h⟩
      have hon2 : Acre.onS (x1, x2) (y1, y2) o l[k] = false → (l.take (k + 1)).any (Acre.onS (x1, x2) (y1, y2) o) = false := fun h => by rw [htk, List.any_append, hon]; simp [h]
      have hcn : (l.take (k + 1)).countP (Acre.abS (x1, x2) (y1, y2)) = (l.take k).countP (Acre.abS (x1, x2) (y1, y2)) + if Acre.abS (x1, x2) (y1, y2) l[k] = true then 1 else 0 := by rw [htk, List.countP_append, List.countP_singleton]
      have hcl : (l.take k).countP (Acre.abS (x1, x2) (y1, y2)) ≤ k := Nat.le_trans List.countP_le_length (by rw [List.length_take]; omega)
      obtain ⟨⟨⟨e0, e1⟩, ⟨e2, e3⟩⟩, he⟩ : ∃ e, l[k] = e := ⟨_, rfl⟩
      rw [he] at c0 c1 c2 c3 hse hany hon2 hcn
      have d0 := cell_later hI.bel c0
      have d1 := cell_later hI.bel c1
      have d2 := cell_later hI.bel c2
      have d3 := cell_later hI.bel c3
      have Hany := hide hany
      have Hon2 := hide hon2
      have Hcn := hide hcn
      have HI := hide hI
      clear c0 c1 c2 c3 htk hany hon2 hcn he hon hr hI
      obtain ⟨⟨⟨a0, a1⟩, ⟨a2, a3⟩⟩, hlf⟩ : ∃ e', leftE ((e0, e1), (e2, e3)) = e' := ⟨_, rfl⟩
      have hlf2 : Acre.lft ((e0, e1), (e2, e3)) = ((a0, a1), (a2, a3)) := hlf
      have hsl : SmE ((a0, a1), (a2, a3)) := by
        rw [← hlf2]
        unfold Acre.lft
        split
        · exact ⟨hse.2, hse.1⟩
        · exact hse
      have hle : a0 ≤ a2 := by have := Acre.lft_le ((e0, e1), (e2, e3)); rw [hlf2] at this; exact this
      have HL := hide (fun V => rleft_any e0 e1 e2 e3 V)
      rw [hlf] at HL
      dsimp only at HL
      have honS : Acre.onS (x1, x2) (y1, y2) o ((e0, e1), (e2, e3)) = if (a0 == a2) = true then decide ((x1, x2) = (a0, 1)) && Acre.covS (y1, y2) o a1 a3 else (!o && decide (Acre.hgt ((a0, a1), (a2, a3)) (x1, x2) = (y1, y2))) && Acre.btw x1 x2 a0 a2 := by
        unfold Acre.onS; rw [hlf2]; rfl
      have habS : Acre.abS (x1, x2) (y1, y2) ((e0, e1), (e2, e3)) = (!(a0 == a2) && ((decide (a0 * x2 ≤ x1) && decide (x1 < a2 * x2)) && decide (Acre.Lt (y1, y2) (Acre.hgt ((a0, a1), (a2, a3)) (x1, x2))))) := by
        unfold Acre.abS; rw [hlf2]; rfl
      rw [honS] at Hany Hon2
      rw [habS] at Hcn
      obtain ⟨⟨p1, p2⟩, ⟨p3, p4⟩⟩ := id hsl
      dsimp only at p1 p2 p3 p4
      clear honS habS hlf hlf2 hse
      generalize (l.take k).countP (Acre.abS (x1, x2) (y1, y2)) = cn at *
      go_wp2_with fail
      refine (HL.out _).mono ?_
      rintro e w1 ⟨rfl, hb1⟩
      have hI1 := (HI.out.call hb1).call (below1 w1 (.cells #[.int .i64 a0, .int .i64 a1, .int .i64 a2, .int .i64 a3] 86))
      have bE := Box.new w1 [.int .i64 a0, .int .i64 a1, .int .i64 a2, .int .i64 a3] 86
      clear HI hb1 HL d0 d1 d2 d3
      have HU := hide (fun V => rupright_any a0 a1 a2 a3 V)
      have HT := hide (fun V => rheight_any a0 a1 a2 a3 x1 x2 V p1 p2 p3 p4 ⟨by omega, by omega⟩ ⟨by omega, by omega⟩)
      go_wp2_with fail
      generalize w1.alloc (.cells #[.int .i64 a0, .int .i64 a1, .int .i64 a2, .int .i64 a3] 86) = V at *
      generalize w1.heap.size = B at *
      refine (HU.out _).mono ?_
      rintro e w2 ⟨rfl, hb2⟩
      have hI2 := hI1.call hb2
      have bE2 := bE.later (by simp) hb2
      clear hI1 bE HU hb2
      have t0 := bE2.c 0 _ rfl
      have t1 := bE2.c 1 _ rfl
      have t2 := bE2.c 2 _ rfl
      have t3 := bE2.c 3 _ rfl
      have q0 := hI2.box.c 0 _ rfl
      have q1 := hI2.box.c 1 _ rfl
      have q2 := hI2.box.c 2 _ rfl
      have q3 := hI2.box.c 3 _ rfl
      have q4 := hI2.box.c 4 _ rfl
      have HI2 := hide hI2
      have HE2 := hide bE2
      clear hI2 bE2
      by_cases hup : a0 = a2
      · subst hup
        simp only [BEq.rfl, Bool.not_true, Bool.false_and, Bool.false_eq_true, if_false, Nat.add_zero, if_true] at Hany Hon2 Hcn
        have heq := eql50 x1 x2 a0 1
        have hdz : decide ((x1, x2) = (a0, 1)) = (x1 == a0 && x2 == 1) := by
          rw [Bool.eq_iff_iff]
          simp
        rw [hdz] at Hany Hon2
        clear hdz HT
        cases hbe : (x1 == a0 && x2 == 1)
        · rw [hbe] at heq Hany Hon2
          have HN := hide (Hon2.out rfl)
          clear hbe Hany Hon2
          go_wp2_with fail
          go_roundw
          case rel => exact ⟨k + 1, by go_num, by omega, by rw [Hcn.out], HN.out, HI2.out⟩
          case measure => simp [intOf]; omega
        · rw [hbe] at heq Hany Hon2
          simp only [Bool.true_and] at Hany Hon2
          have m1 := mul_bd (p := a1) (q := y2) (P := 13) (Q := 70000000) p2 (by omega)
          have m3 := mul_bd (p := a3) (q := y2) (P := 13) (Q := 70000000) p4 (by omega)
          have HC : Hid (∀ V, Calls Tryz.prog 157 #[.agg #[.int .i64 x1, .int .i64 x2, .int .i64 y1, .int .i64 y2, .bool o], .int .i64 a1, .int .i64 a3] V fun e w' => e = .returned (.bool (Acre.covS (y1, y2) o a1 a3)) ∧ Below V.heap.size V w') := hide (fun V => by
            cases o
            · exact rcoveredJ_any x1 x2 y1 y2 a1 a3 V (by omega) (by omega) (by omega)
            · exact rcoveredU_any x1 x2 y1 y2 a1 a3 V (by omega) (by omega) (by omega) (by omega))
          clear hbe m1 m3
          cases hcv : Acre.covS (y1, y2) o a1 a3
          · rw [hcv] at HC Hany Hon2
            have HN := hide (Hon2.out rfl)
            clear hcv Hany Hon2
            go_wp2_with fail
            refine (HC.out _).mono ?_
            rintro e w3 ⟨rfl, hb3⟩
            have hI3 := hide (HI2.out.call hb3)
            clear HI2 HE2 HC hb3 t0 t1 t2 t3 q0 q1 q2 q3 q4
            go_wp2_with fail
            go_roundw
            case rel => exact ⟨k + 1, by go_num, by omega, by rw [Hcn.out], HN.out, hI3.out⟩
            case measure => simp [intOf]; omega
          · rw [hcv] at HC Hany Hon2
            have HN := hide (Hany.out rfl)
            clear hcv Hany Hon2
            go_wp2_with fail
            refine (HC.out _).mono ?_
            rintro e w3 ⟨rfl, hb3⟩
            have hI3 := hide (HI2.out.call hb3)
            clear HI2 HE2 HC hb3 t0 t1 t2 t3 q0 q1 q2 q3 q4
            go_wp2
            go_ret
            exact ⟨by unfold Acre.atS; rw [HN.out]; rfl, hI3.out.bel⟩
      · have hupb : (a0 == a2) = false := by simpa using hup
        rw [hupb] at Hany Hon2 Hcn
        simp only [Bool.not_false, Bool.true_and, Bool.false_eq_true, if_false] at Hany Hon2 Hcn
        have hT2 := hgt_mid (e := ((a0, a1), (a2, a3))) (x := (x1, x2)) hsl hupb hx
        have HT2 := hide (fun V => HT.out V (fun e => hup e.symm) (by omega))
        rw [hgtF_eq] at HT2
        generalize Acre.hgt ((a0, a1), (a2, a3)) (x1, x2) = hh at *
        obtain ⟨h1, h2⟩ := hh
        obtain ⟨⟨hm1, hm2⟩, ⟨hm3, hm4⟩⟩ := id hT2
        dsimp only at hm1 hm2 hm3 hm4 HT2
        clear HT
        go_wp2_with fail
        refine (HT2.out _).mono ?_
        rintro e w3 ⟨rfl, hb3⟩
        have hI3 := (HI2.out.call hb3).call (below1 w3 (.cells #[.int .i64 h1, .int .i64 h2] 90))
        have bE3 := (HE2.out.later (by simp) hb3).later (by simp) (below1 w3 (.cells #[.int .i64 h1, .int .i64 h2] 90))
        have bH3 := Box.new w3 [.int .i64 h1, .int .i64 h2] 90
        clear HI2 HE2 HT2 hb3 t0 t1 t2 t3 q0 q1 q2 q3 q4
        go_upto_region 11 with fail
        generalize w3.alloc (.cells #[.int .i64 h1, .int .i64 h2] 90) = V3 at *
        generalize w3.heap.size = C at *
        have heq := eql50 h1 h2 y1 y2
        have hdz : decide ((h1, h2) = (y1, y2)) = (h1 == y1 && h2 == y2) := by
          rw [Bool.eq_iff_iff]
          simp
        rw [hdz] at Hany Hon2
        have m1 := mul_bd (p := a0) (q := x2) (P := 13) (Q := 2660000) p1 (by omega)
        have m2 := mul_bd (p := a2) (q := x2) (P := 13) (Q := 2660000) p3 (by omega)
        have m3 := mul_bd (p := y1) (q := h2) (P := 3000000000) (Q := 70000000) ⟨hy1, hy2⟩ (by omega)
        have m4 := mul_bd (p := h1) (q := y2) (P := 3000000000) (Q := 70000000) ⟨hm1, hm2⟩ (by omega)
        have s1 : IntKind.i64.wrap (a0 * x2) = a0 * x2 := wrap_in _ (by omega)
        have s2 : IntKind.i64.wrap (a2 * x2) = a2 * x2 := wrap_in _ (by omega)
        have HBt := hide (fun V => rbetween_any x1 x2 a0 a2 V (by omega) (by omega) (by omega))
        have HBl := hide (fun V => rbelow_any y1 y2 h1 h2 V (by omega) (by omega))
        have hcn := Hcn.out
        have hlt3 : Acre.Lt (y1, y2) (h1, h2) = (y1 * h2 < h1 * y2) := rfl
        simp only [hlt3] at hcn
        have Hcn2 := hide hcn
        clear hcn hlt3 Hcn hdz m1 m2 m3 m4
        generalize decide (y1 * h2 < h1 * y2) = B2 at *
        generalize Acre.btw x1 x2 a0 a2 = bt at *
        generalize (h1 == y1 && h2 == y2) = beq at *
        have HI4 := hide hI3
        have t0 := bE3.c 0 _ rfl
        have t1 := bE3.c 1 _ rfl
        have t2 := bE3.c 2 _ rfl
        have t3 := bE3.c 3 _ rfl
        have q0 := hI3.box.c 0 _ rfl
        have q1 := hI3.box.c 1 _ rfl
        have q2 := hI3.box.c 2 _ rfl
        have q3 := hI3.box.c 3 _ rfl
        have q4 := hI3.box.c 4 _ rfl
        have r0 := bH3.c 0 _ rfl
        have r1 := bH3.c 1 _ rfl
        have HE4 := hide bE3
        have HH4 := hide bH3
        clear hI3 bE3 bH3
        cases o
        case' false =>
          cases beq
          case' false =>
            have HN := hide (Hon2.out (by simp))
            clear Hon2 Hany HBt
            generalize V3 = V5 at *
          case' true =>
            cases bt
            case' false =>
              have HN := hide (Hon2.out (by simp))
              clear Hon2 Hany
              go_wp2_with fail
              refine (HBt.out _).mono ?_
              rintro e V5 ⟨rfl, hb5⟩
              have hI5 := HI4.out.call hb5
              have bE5 := HE4.out.later (by simp) hb5
              have bH5 := HH4.out.later (by simp) hb5
              clear HI4 HE4 HH4 t0 t1 t2 t3 q0 q1 q2 q3 q4 r0 r1 HBt hb5
              have HI4 := hide hI5
              have t0 := bE5.c 0 _ rfl
              have t1 := bE5.c 1 _ rfl
              have t2 := bE5.c 2 _ rfl
              have t3 := bE5.c 3 _ rfl
              have q0 := hI5.box.c 0 _ rfl
              have q1 := hI5.box.c 1 _ rfl
              have q2 := hI5.box.c 2 _ rfl
              have q3 := hI5.box.c 3 _ rfl
              have q4 := hI5.box.c 4 _ rfl
              have r0 := bH5.c 0 _ rfl
              have r1 := bH5.c 1 _ rfl
              have HE4 := hide bE5
              have HH4 := hide bH5
              clear hI5 bE5 bH5
            case' true =>
              have HN := hide (Hany.out (by simp))
              clear Hon2 Hany
              go_wp2_with fail
              refine (HBt.out _).mono ?_
              rintro e V5 ⟨rfl, hb5⟩
              have hI5 := hide (HI4.out.call hb5)
              clear HI4 HE4 HH4 t0 t1 t2 t3 q0 q1 q2 q3 q4 r0 r1 HBt hb5
              go_wp2
              go_ret
              exact ⟨by unfold Acre.atS; rw [HN.out]; rfl, hI5.out.bel⟩
        case' true =>
          have HN := hide (Hon2.out (by simp))
          clear Hon2 Hany HBt
          generalize V3 = V5 at *
        all_goals
          by_cases l1 : a0 * x2 ≤ x1
          · by_cases l2 : x1 < a2 * x2
            · go_wp2_with fail
              refine (HBl.out _).mono ?_
              rintro e V6 ⟨rfl, hb6⟩
              have hI6 := hide (HI4.out.call hb6)
              have hcc := Hcn2.out
              rw [decide_eq_true l1, decide_eq_true l2] at hcc
              clear HI4 HE4 HH4 t0 t1 t2 t3 q0 q1 q2 q3 q4 r0 r1 HBl hb6 Hcn2
              cases B2
              · have HC2 := hide (show (l.take (k + 1)).countP (Acre.abS (x1, x2) (y1, y2)) = cn by rw [hcc]; rfl)
                clear hcc
                go_wp2
                go_roundw
                case rel => exact ⟨k + 1, by go_num, by omega, by rw [HC2.out], HN.out, hI6.out⟩
                case measure => simp [intOf]; omega
              · have HC2 := hide (show (l.take (k + 1)).countP (Acre.abS (x1, x2) (y1, y2)) = cn + 1 by rw [hcc]; rfl)
                clear hcc
                go_wp2
                go_roundw
                case rel => exact ⟨k + 1, by go_num, by omega, by rw [HC2.out]; go_num, HN.out, hI6.out⟩
                case measure => simp [intOf]; omega
            · have HC2 := hide (show (l.take (k + 1)).countP (Acre.abS (x1, x2) (y1, y2)) = cn by rw [Hcn2.out, decide_eq_false l2]; simp)
              clear HBl Hcn2 HE4 HH4
              go_wp2
              go_roundw
              case rel => exact ⟨k + 1, by go_num, by omega, by rw [HC2.out], HN.out, HI4.out⟩
              case measure => simp [intOf]; omega
          · have HC2 := hide (show (l.take (k + 1)).countP (Acre.abS (x1, x2) (y1, y2)) = cn by rw [Hcn2.out, decide_eq_false l1]; simp)
            clear HBl Hcn2 HE4 HH4
            go_wp2
            go_roundw
            case rel => exact ⟨k + 1, by go_num, by omega, by rw [HC2.out], HN.out, HI4.out⟩
            case measure => simp [intOf]; omega
    · obtain rfl : k = l.length := by omega
      obtain ⟨hon, hI⟩ := hr.out
      rw [List.take_length] at hon
      have hcl : l.countP (Acre.abS (x1, x2) (y1, y2)) ≤ l.length := List.countP_le_length
      have hat : Acre.atS l (x1, x2) (y1, y2) o = ((l.countP (Acre.abS (x1, x2) (y1, y2)) % 2 * 2 : Nat) : Int) := by unfold Acre.atS; rw [hon]; rfl
      rw [List.take_length]
      have HI := hide hI
      have Hat := hide hat
      clear hon hI hr hat
      generalize l.countP (Acre.abS (x1, x2) (y1, y2)) = cn at *
      have hrm : ((cn : Nat) : Int).tmod 2 = ((cn % 2 : Nat) : Int) := by rw [Int.tmod_eq_emod_of_nonneg (by omega)]; simp
      have hb2 : cn % 2 < 2 := Nat.mod_lt _ (by omega)
      generalize cn % 2 = cm at *
      go_wp2
      go_ret
      exact ⟨by rw [Hat.out]; go_num, HI.out.bel⟩

end Go.Proofs.YtkjlkbgdkdcboaaGreatDoor.Ref

set_option linter.unusedSimpArgs false
set_option linter.unusedVariables false

namespace Go.Proofs.YtkjlkbgdkdcboaaGreatDoor.Ref
open Go.RowKit Go.Maps
attribute [local go_sem ↓] Go.wp_at_zero Go.wp_at_succ

def ptV (q : PcT) : Value := .agg (ptL q).toArray
/-- a piece with edges that there are -/
structure PtOk (E : List Acre.Ed) (q : PcT) : Prop where
  f : Mid q.fr
  t : Mid q.tt
  lo : 0 ≤ q.lo ∧ q.lo < E.length ∧ Acre.upr (Acre.gd E q.lo.toNat) = false
  hi : 0 ≤ q.hi ∧ q.hi < E.length ∧ Acre.upr (Acre.gd E q.hi.toNat) = false

structure InI (w V : World) (l q : List Value) : Prop where
  s : Box V w.heap.size l
  p : Box V (w.heap.size + 1) q
  bel : Below w.heap.size w V
theorem InI.call {w V V' : World} {l q : List Value} (h : InI w V l q) (hl : 0 < l.length) (hq : 0 < q.length) (hb : Below V.heap.size V V') : InI w V' l q := ⟨h.s.later hl hb, h.p.later hq hb, below_call hb h.bel⟩

set_option maxRecDepth 100000 in
set_option maxHeartbeats 4000000 in
theorem in_any (E : List Acre.Ed) (q : PcT) (x y : Acre.Fc) (o : Bool) (v : Value) (b1 : Nat) (w : World) (hl : w.ownsRow b1 86 4 v E.length (flatE E)) (hsm : ∀ e ∈ E, SmE e) (hlen : E.length ≤ 1000) (hx : MidX x) (hy : Mid y) (hq : PtOk E q) :
    Calls Tryz.prog 120 #[spV x y o, ptV q, v] w fun e w' => e = .returned (.bool (Acre.inS x y o (toPc E q))) ∧ Below w.heap.size w w' := by
  obtain ⟨ga, gb, gcap, rfl, hga⟩ := rowE_form hl
  obtain ⟨x1, x2⟩ := x
  obtain ⟨y1, y2⟩ := y
  obtain ⟨⟨hx1, hx2⟩, ⟨hx3, hx4⟩⟩ := id hx
  obtain ⟨⟨hy1, hy2⟩, ⟨hy3, hy4⟩⟩ := id hy
  dsimp only at hx1 hx2 hx3 hx4 hy1 hy2 hy3 hy4
  obtain ⟨⟨f1, f2⟩, ⟨t1, t2⟩, lo, hi, ta, tb, tc, td⟩ := q
  obtain ⟨⟨⟨hf1, hf2⟩, ⟨hf3, hf4⟩⟩, ⟨⟨ht1, ht2⟩, ⟨ht3, ht4⟩⟩, ⟨hlo0, hlo1, hlo2⟩, ⟨hhi0, hhi1, hhi2⟩⟩ := hq
  dsimp only at hf1 hf2 hf3 hf4 ht1 ht2 ht3 ht4 hlo0 hlo1 hlo2 hhi0 hhi1 hhi2
  obtain ⟨ln, rfl⟩ : ∃ n : Nat, lo = (n : Int) := ⟨lo.toNat, by omega⟩
  obtain ⟨hn, rfl⟩ : ∃ n : Nat, hi = (n : Int) := ⟨hi.toNat, by omega⟩
  have hln : ln < E.length := by omega
  have hhn : hn < E.length := by omega
  obtain rfl := hga (by omega)
  obtain ⟨c0, c1, c2, c3⟩ := row_e hl ln hln
  obtain ⟨d0, d1, d2, d3⟩ := row_e hl hn hhn
  have hgl : Acre.gd E ln = E[ln] := by unfold Acre.gd; simp [List.getD, hln]
  have hgh : Acre.gd E hn = E[hn] := by unfold Acre.gd; simp [List.getD, hhn]
  have hsl := hsm E[ln] (List.getElem_mem hln)
  have hsh := hsm E[hn] (List.getElem_mem hhn)
  have hin : Acre.inS (x1, x2) (y1, y2) o (toPc E ⟨(f1, f2), (t1, t2), (ln : Int), (hn : Int), ta, tb, tc, td⟩) = ((!decide (x1 * f2 < f1 * x2) && decide (x1 * t2 < t1 * x2)) && (Acre.lowS (y1, y2) o (Acre.hgt E[ln] (x1, x2)) && decide (Acre.Lt (y1, y2) (Acre.hgt E[hn] (x1, x2))))) := by
    have hpc : toPc E ⟨(f1, f2), (t1, t2), (ln : Int), (hn : Int), ta, tb, tc, td⟩ = (((f1, f2), (t1, t2)), (E[ln], E[hn])) := by
      unfold toPc
      simp only [Int.toNat_natCast]
      rw [hgl, hgh]
    rw [hpc]
    rfl
  simp only [Int.toNat_natCast] at hlo2 hhi2
  rw [hgl] at hlo2
  rw [hgh] at hhi2
  have hTl := hgt_mid (x := (x1, x2)) hsl hlo2 hx
  have hTh := hgt_mid (x := (x1, x2)) hsh hhi2 hx
  obtain ⟨⟨⟨a0, a1⟩, ⟨a2, a3⟩⟩, he⟩ : ∃ e, E[ln] = e := ⟨_, rfl⟩
  obtain ⟨⟨⟨k0, k1⟩, ⟨k2, k3⟩⟩, he2⟩ : ∃ e, E[hn] = e := ⟨_, rfl⟩
  rw [he] at c0 c1 c2 c3 hsl hin hlo2 hTl
  rw [he2] at d0 d1 d2 d3 hsh hin hhi2 hTh
  obtain ⟨⟨p1, p2⟩, ⟨p3, p4⟩⟩ := id hsl
  obtain ⟨⟨p5, p6⟩, ⟨p7, p8⟩⟩ := id hsh
  dsimp only at p1 p2 p3 p4 p5 p6 p7 p8
  have n1 : a2 ≠ a0 := by unfold Acre.upr at hlo2; simp at hlo2; omega
  have n2 : k2 ≠ k0 := by unfold Acre.upr at hhi2; simp at hhi2; omega
  have HTl := hide (fun V => rheight_any a0 a1 a2 a3 x1 x2 V p1 p2 p3 p4 ⟨by omega, by omega⟩ ⟨by omega, by omega⟩ n1 (by omega))
  have HTh := hide (fun V => rheight_any k0 k1 k2 k3 x1 x2 V p5 p6 p7 p8 ⟨by omega, by omega⟩ ⟨by omega, by omega⟩ n2 (by omega))
  rw [hgtF_eq] at HTl HTh
  generalize Acre.hgt ((a0, a1), (a2, a3)) (x1, x2) = hh at *
  generalize Acre.hgt ((k0, k1), (k2, k3)) (x1, x2) = gg at *
  obtain ⟨h1, h2⟩ := hh
  obtain ⟨g1, g2⟩ := gg
  obtain ⟨⟨hm1, hm2⟩, ⟨hm3, hm4⟩⟩ := id hTl
  obtain ⟨⟨gm1, gm2⟩, ⟨gm3, gm4⟩⟩ := id hTh
  dsimp only at hm1 hm2 hm3 hm4 gm1 gm2 gm3 gm4 HTl HTh
  have m1 := mul_bd (p := x1) (q := f2) (P := 40000000) (Q := 70000000) ⟨hx1, hx2⟩ (by omega)
  have m2 := mul_bd (p := f1) (q := x2) (P := 3000000000) (Q := 2660000) ⟨hf1, hf2⟩ (by omega)
  have m3 := mul_bd (p := x1) (q := t2) (P := 40000000) (Q := 70000000) ⟨hx1, hx2⟩ (by omega)
  have m4 := mul_bd (p := t1) (q := x2) (P := 3000000000) (Q := 2660000) ⟨ht1, ht2⟩ (by omega)
  have m5 := mul_bd (p := y1) (q := g2) (P := 3000000000) (Q := 70000000) ⟨hy1, hy2⟩ (by omega)
  have m6 := mul_bd (p := g1) (q := y2) (P := 3000000000) (Q := 70000000) ⟨gm1, gm2⟩ (by omega)
  have m7 := mul_bd (p := h1) (q := y2) (P := 3000000000) (Q := 70000000) ⟨hm1, hm2⟩ (by omega)
  have m8 := mul_bd (p := y1) (q := h2) (P := 3000000000) (Q := 70000000) ⟨hy1, hy2⟩ (by omega)
  have HB1 := hide (fun V => rbelow_any x1 x2 f1 f2 V (by omega) (by omega))
  have HB2 := hide (fun V => rbelow_any x1 x2 t1 t2 V (by omega) (by omega))
  have HB3 := hide (fun V => rbelow_any y1 y2 g1 g2 V (by omega) (by omega))
  have HLw := hide (fun V => rlower_any x1 x2 y1 y2 h1 h2 o V (by omega) (by omega))
  have hlw : lowerB (y1, y2) o (h1, h2) = Acre.lowS (y1, y2) o (h1, h2) := by unfold lowerB Acre.lowS; rfl
  rw [hlw] at HLw
  have hlt : decide (Acre.Lt (y1, y2) (g1, g2)) = decide (y1 * g2 < g1 * y2) := rfl
  rw [hlt] at hin
  rw [hin]
  clear hin hlw hlt m1 m2 m3 m4 m5 m6 m7 m8 hgl hgh hTl hTh he he2
  generalize decide (x1 * f2 < f1 * x2) = B1 at *
  generalize decide (x1 * t2 < t1 * x2) = B2 at *
  generalize decide (y1 * g2 < g1 * y2) = B3 at *
  generalize Acre.lowS (y1, y2) o (h1, h2) = B4 at *
  have hpt : ptV ⟨(f1, f2), (t1, t2), (ln : Int), (hn : Int), ta, tb, tc, td⟩ = .agg #[.int .i64 f1, .int .i64 f2, .int .i64 t1, .int .i64 t2, .int .i64 ln, .int .i64 hn, .int .i64 ta, .int .i64 ta, .int .i64 tb, .int .i64 tc, .int .i64 td] := rfl
  rw [hpt]
  unfold spV
  dsimp only
  clear hpt
  have hI0 : InI w ((w.alloc (.cells #[.int .i64 x1, .int .i64 x2, .int .i64 y1, .int .i64 y2, .bool o] 160)).alloc (.cells #[.int .i64 f1, .int .i64 f2, .int .i64 t1, .int .i64 t2, .int .i64 ln, .int .i64 hn, .int .i64 ta, .int .i64 ta, .int .i64 tb, .int .i64 tc, .int .i64 td] 93)) [.int .i64 x1, .int .i64 x2, .int .i64 y1, .int .i64 y2, .bool o] [.int .i64 f1, .int .i64 f2, .int .i64 t1, .int .i64 t2, .int .i64 ln, .int .i64 hn, .int .i64 ta, .int .i64 ta, .int .i64 tb, .int .i64 tc, .int .i64 td] := by
    refine ⟨(Box.new w [.int .i64 x1, .int .i64 x2, .int .i64 y1, .int .i64 y2, .bool o] 160).later (by simp) (below1 _ _), ?_, below2 _ _ _⟩
    have := Box.new (w.alloc (.cells #[.int .i64 x1, .int .i64 x2, .int .i64 y1, .int .i64 y2, .bool o] 160)) [.int .i64 f1, .int .i64 f2, .int .i64 t1, .int .i64 t2, .int .i64 ln, .int .i64 hn, .int .i64 ta, .int .i64 ta, .int .i64 tb, .int .i64 tc, .int .i64 td] 93
    simpa using this
  go_enter Tryz.func120, Tryz.ntmps120
  go_wp2_with fail
  generalize (w.alloc (.cells #[.int .i64 x1, .int .i64 x2, .int .i64 y1, .int .i64 y2, .bool o] 160)).alloc (.cells #[.int .i64 f1, .int .i64 f2, .int .i64 t1, .int .i64 t2, .int .i64 ln, .int .i64 hn, .int .i64 ta, .int .i64 ta, .int .i64 tb, .int .i64 tc, .int .i64 td] 93) = V0 at *
  refine (HB1.out _).mono ?_
  rintro e V1 ⟨rfl, hb1⟩
  have hI1 := hI0.call (by simp) (by simp) hb1
  have HI1 := hide hI1
  clear hI0 HB1 hb1
  cases B1
  case' true =>
    clear hI1
    go_wp2
    go_ret
    exact ⟨by simp, HI1.out.bel⟩
  have s0 := hI1.s.c 0 _ rfl
  have s1 := hI1.s.c 1 _ rfl
  have q2 := hI1.p.c 2 _ rfl
  have q3 := hI1.p.c 3 _ rfl
  clear hI1
  go_wp2_with fail
  refine (HB2.out _).mono ?_
  rintro e V2 ⟨rfl, hb2⟩
  have hI2 := HI1.out.call (by simp) (by simp) hb2
  have HI2 := hide hI2
  clear HI1 HB2 hb2 s0 s1 q2 q3
  cases B2
  case' false =>
    clear hI2
    go_wp2
    go_ret
    exact ⟨by simp, HI2.out.bel⟩
  have s0 := hI2.s.c 0 _ rfl
  have s1 := hI2.s.c 1 _ rfl
  have q4 := hI2.p.c 4 _ rfl
  have c0' := cell_later hI2.bel c0
  have c1' := cell_later hI2.bel c1
  have c2' := cell_later hI2.bel c2
  have c3' := cell_later hI2.bel c3
  have hln2 : (ln : Int) < (E.length : Int) := by omega
  have hhn2 : (hn : Int) < (E.length : Int) := by omega
  clear hI2
  have hgl2 : gb < V2.heap.size := World.block_lt_of_cell? _ _ c0'
  have hsl2 : w.heap.size < V2.heap.size := World.block_lt_of_cell? _ _ s0
  have hpl2 : w.heap.size + 1 < V2.heap.size := World.block_lt_of_cell? _ _ q4
  go_upto_region 3 with fail
  go_cut [7] (fun t wx => ∃ B, t = .pointer (some ⟨B, 0, none⟩) ∧ Hid (InI w wx [.int .i64 x1, .int .i64 x2, .int .i64 y1, .int .i64 y2, .bool o] [.int .i64 f1, .int .i64 f2, .int .i64 t1, .int .i64 t2, .int .i64 ln, .int .i64 hn, .int .i64 ta, .int .i64 ta, .int .i64 tb, .int .i64 tc, .int .i64 td] ∧ Box wx B [.int .i64 h1, .int .i64 h2]))
  case first =>
    go_region_with (first
      | (go_at_call 69; refine (HTl.out _).mono ?_; rintro e w1 ⟨rfl, hb1⟩; first | (have bX := drew_box hb1; have k0 := bX.c 0 _ rfl; have k1 := bX.c 1 _ rfl; have k2 := bX.f 0 (by simp); have k3 := bX.f 1 (by simp)) | skip)
      | go_in)
    all_goals
      first
        | (have hI3 := hide ((HI2.out.call (by simp) (by simp) (below_call hb1 (Below.drew (Below.refl _ _)))).call (by simp) (by simp) (below1 w1 (.cells #[.int .i64 h1, .int .i64 h2] 90)))
           have bL := hide (Box.new w1 [.int .i64 h1, .int .i64 h2] 90)
           go_wp2_with fail
           go_meet
           exact ⟨_, rfl, hI3.out, bL.out⟩)
        | (have hI3 := hide (HI2.out.call (by simp) (by simp) (((below_call hb1 (Below.drew (below1 V2 _))).setCell (p := ⟨V2.heap.size, 0, none⟩) (Nat.le_refl _) (.int .i64 h1)).setCell (p := ⟨V2.heap.size, 1, none⟩) (Nat.le_refl _) (.int .i64 h2)))
           have bL := hide (box_two _ _ _ _ bX h1 h2)
           go_wp2_with fail
           go_meet
           exact ⟨_, rfl, hI3.out, bL.out⟩)
  case rest =>
  obtain ⟨B5, rfl, hcut2⟩ := hcut
  obtain ⟨hI3, bL⟩ := hcut2.out
  clear HI2 HTl s0 s1 q4 c0' c1' c2' c3' hcut2 hgl2 hsl2 hpl2
  have HI3 := hide hI3
  have HBL := hide bL
  have s0 := hI3.s.c 0 _ rfl
  have s1 := hI3.s.c 1 _ rfl
  have q5 := hI3.p.c 5 _ rfl
  have d0' := cell_later hI3.bel d0
  have d1' := cell_later hI3.bel d1
  have d2' := cell_later hI3.bel d2
  have d3' := cell_later hI3.bel d3
  have hgl2 : gb < wc.heap.size := World.block_lt_of_cell? _ _ d0'
  have hsl2 : w.heap.size < wc.heap.size := World.block_lt_of_cell? _ _ s0
  have hpl2 : w.heap.size + 1 < wc.heap.size := World.block_lt_of_cell? _ _ q5
  clear hI3 bL
  go_upto_region 4 with fail
  go_cut [8] (fun t wx => ∃ B, t = .pointer (some ⟨B, 0, none⟩) ∧ Hid (InI w wx [.int .i64 x1, .int .i64 x2, .int .i64 y1, .int .i64 y2, .bool o] [.int .i64 f1, .int .i64 f2, .int .i64 t1, .int .i64 t2, .int .i64 ln, .int .i64 hn, .int .i64 ta, .int .i64 ta, .int .i64 tb, .int .i64 tc, .int .i64 td] ∧ Box wx B [.int .i64 g1, .int .i64 g2] ∧ Box wx B5 [.int .i64 h1, .int .i64 h2]))
  case first =>
    go_region_with (first
      | (go_at_call 69; refine (HTh.out _).mono ?_; rintro e w1 ⟨rfl, hb1⟩; first | (have bX := drew_box hb1; have k0 := bX.c 0 _ rfl; have k1 := bX.c 1 _ rfl; have k2 := bX.f 0 (by simp); have k3 := bX.f 1 (by simp)) | skip)
      | go_in)
    all_goals
      first
        | (have hq := below_call (below1 w1 (.cells #[.int .i64 g1, .int .i64 g2] 90)) (below_call hb1 (Below.drew (Below.refl _ _)))
           have hI5 := hide (HI3.out.call (by simp) (by simp) hq)
           have bL5 := hide (HBL.out.later (by simp) hq)
           have bH5 := hide (Box.new w1 [.int .i64 g1, .int .i64 g2] 90)
           clear hq
           go_wp2_with fail
           go_meet
           exact ⟨_, rfl, hI5.out, bH5.out, bL5.out⟩)
        | (have hq := ((below_call hb1 (Below.drew (below1 wc _))).setCell (p := ⟨wc.heap.size, 0, none⟩) (Nat.le_refl _) (.int .i64 g1)).setCell (p := ⟨wc.heap.size, 1, none⟩) (Nat.le_refl _) (.int .i64 g2)
           have hI5 := hide (HI3.out.call (by simp) (by simp) hq)
           have bL5 := hide (HBL.out.later (by simp) hq)
           have bH5 := hide (box_two _ _ _ _ bX g1 g2)
           clear hq
           go_wp2_with fail
           go_meet
           exact ⟨_, rfl, hI5.out, bH5.out, bL5.out⟩)
  case rest =>
  obtain ⟨B6, rfl, hcut2⟩ := hcut
  obtain ⟨hI5, bH5, bL5⟩ := hcut2.out
  clear HI3 HBL HTh s0 s1 q5 d0' d1' d2' d3' hcut2 hgl2 hsl2 hpl2
  have s0 := hI5.s.c 0 _ rfl
  have s1 := hI5.s.c 1 _ rfl
  have s2 := hI5.s.c 2 _ rfl
  have s3 := hI5.s.c 3 _ rfl
  have s4 := hI5.s.c 4 _ rfl
  have l0 := bL5.c 0 _ rfl
  have l1 := bL5.c 1 _ rfl
  have HI5 := hide hI5
  clear hI5
  go_wp2_with fail
  refine (HLw.out _).mono ?_
  rintro e V7 ⟨rfl, hb7⟩
  have hI7 := HI5.out.call (by simp) (by simp) hb7
  have bH7 := bH5.later (by simp) hb7
  have HI7 := hide hI7
  clear HI5 HLw hb7 s0 s1 s2 s3 s4 l0 l1 bL5 bH5
  have s2 := hI7.s.c 2 _ rfl
  have s3 := hI7.s.c 3 _ rfl
  have r0 := bH7.c 0 _ rfl
  have r1 := bH7.c 1 _ rfl
  clear hI7 bH7
  cases B4
  · go_wp2
    go_ret
    exact ⟨by simp, HI7.out.bel⟩
  · go_wp2_with fail
    refine (HB3.out _).mono ?_
    rintro e V8 ⟨rfl, hb8⟩
    have HI8 := hide (HI7.out.call (by simp) (by simp) hb8)
    clear HI7 HB3 hb8 s2 s3 r0 r1
    go_wp2
    go_ret
    exact ⟨by simp, HI8.out.bel⟩

end Go.Proofs.YtkjlkbgdkdcboaaGreatDoor.Ref

