import Derived.Test.YtkjlkbgdkdcboaaGreatDoorSD
import Derived.Test.YtkjlkbgdkdcboaaGreatDoorHB

set_option linter.unusedSimpArgs false
set_option linter.unusedVariables false

set_option linter.unusedSimpArgs false
set_option linter.unusedVariables false
namespace Go.Proofs.YtkjlkbgdkdcboaaGreatDoor
open Go.RowKit Go.Maps Fl
attribute [local go_sem ↓] Go.wp_at_zero Go.wp_at_succ
attribute [local go_sem] run_store_complex'
structure PsI (crX : Sk → Sk → Nat × Nat) (W wr : World) (l : Value) (x n : Nat) (T : Nat → Sk) (k : Nat) : Prop where
  ex : ∃ m X, wr.ownsRow W.heap.size 120 1 l m (rowX X m) ∧ m < k ∧ ∀ j, j < m → ∃ i, i + 1 < n ∧ (∃ a b c d a' b' c' d', SkOk (T i) a b c d ∧ SkOk (T (i + 1)) a' b' c' d' ∧ turnI a b c d a' b' c' d' ≤ -1) ∧ X j = crX (T i) (T (i + 1)) ∧ V x < V (X j).1 ∧ V (X j).1 < 12
  bel : Below W.heap.size W wr
theorem PsI.next {crX : Sk → Sk → Nat × Nat} {W wr : World} {l : Value} {x n k : Nat} {T : Nat → Sk} (h : PsI crX W wr l x n T k) : PsI crX W wr l x n T (k + 1) := by
  obtain ⟨m, X, h1, h2, h3⟩ := h.ex
  exact ⟨⟨m, X, h1, by omega, h3⟩, h.bel⟩
theorem PsI.alloc {crX : Sk → Sk → Nat × Nat} {W wr : World} {l : Value} {x n k : Nat} {T : Nat → Sk} (h : PsI crX W wr l x n T k) (o : Obj) : PsI crX W (wr.alloc o) l x n T k := by
  obtain ⟨m, X, h1, h2, h3⟩ := h.ex
  exact ⟨⟨m, X, h1.alloc o, h2, h3⟩, h.bel.alloc h.bel.size o⟩
theorem PsI.drew {crX : Sk → Sk → Nat × Nat} {W wr : World} {l : Value} {x n k : Nat} {T : Nat → Sk} (h : PsI crX W wr l x n T k) : PsI crX W wr.drew l x n T k := by
  obtain ⟨m, X, h1, h2, h3⟩ := h.ex
  exact ⟨⟨m, X, h1.drew, h2, h3⟩, h.bel.drew⟩
theorem PsI.call {crX : Sk → Sk → Nat × Nat} {W wr w' : World} {l : Value} {x n k : Nat} {T : Nat → Sk} (h : PsI crX W wr l x n T k) (hb : Below wr.heap.size wr w') : PsI crX W w' l x n T k := by
  obtain ⟨m, X, h1, h2, h3⟩ := h.ex
  exact ⟨⟨m, X, row_call h1 hb, h2, h3⟩, below_more h.bel hb⟩
theorem two_boxes (w : World) (x1 y1 z1 x2 y2 z2 : Value) :
    ((w.alloc (.cells #[x1, y1, z1] 167)).alloc (.cells #[x2, y2, z2] 167)).drew.cell? ⟨w.heap.size, 0, none⟩ = some x1 ∧ ((w.alloc (.cells #[x1, y1, z1] 167)).alloc (.cells #[x2, y2, z2] 167)).drew.cell? ⟨w.heap.size, 1, none⟩ = some y1 ∧ ((w.alloc (.cells #[x1, y1, z1] 167)).alloc (.cells #[x2, y2, z2] 167)).drew.cell? ⟨w.heap.size, 2, none⟩ = some z1 ∧
    ((w.alloc (.cells #[x1, y1, z1] 167)).alloc (.cells #[x2, y2, z2] 167)).drew.cell? ⟨w.heap.size + 1, 0, none⟩ = some x2 ∧ ((w.alloc (.cells #[x1, y1, z1] 167)).alloc (.cells #[x2, y2, z2] 167)).drew.cell? ⟨w.heap.size + 1, 1, none⟩ = some y2 ∧ ((w.alloc (.cells #[x1, y1, z1] 167)).alloc (.cells #[x2, y2, z2] 167)).drew.cell? ⟨w.heap.size + 1, 2, none⟩ = some z2 := by
  have c := cell_three_new w x1 y1 z1 167
  have d := cell_three_new (w.alloc (.cells #[x1, y1, z1] 167)) x2 y2 z2 167
  have e : (w.alloc (.cells #[x1, y1, z1] 167)).heap.size = w.heap.size + 1 := by simp
  rw [e] at d
  have k := fun {b o v} h => below_cell (b := b) (o := o) (v := v) (Below.alloc (Below.refl (w.alloc (.cells #[x1, y1, z1] 167)).heap.size (w.alloc (.cells #[x1, y1, z1] 167))) (Nat.le_refl _) (.cells #[x2, y2, z2] 167)) h
  exact ⟨k (c 0 _ rfl), k (c 1 _ rfl), k (c 2 _ rfl), d 0 _ rfl, d 1 _ rfl, d 2 _ rfl⟩
set_option maxRecDepth 100000 in
set_option maxHeartbeats 2000000 in
theorem past_any (crX : Sk → Sk → Nat × Nat) (hcr : CrOk crX) (base g cap n x : Nat) (T : Nat → Sk) (W : World) (h : SR W base g cap n T) (hn : n ≤ 24) (hx : Md x 24) (hok : ∀ t, t < n → ∃ a b c d, SkOk (T t) a b c d) :
    Calls Tryz.prog 44 #[.float .f64 x, .slice (some ⟨g, 0, none⟩) n cap] W fun e w' => ∃ l, e = .returned l ∧ PsI crX W w' l x n T (n + 1) := by
  have Hcr := hide hcr
  clear hcr
  go_enter Tryz.func44, Tryz.ntmps44
  go_wp2
  go_loopw [5, 6] (fun l v wr => ∃ k : Nat, v = .int .i64 ((k + 1 : Nat) : Int) ∧ k ≤ n ∧ Hid (PsI crX W wr l x n T (k + 1))) (fun _ v _ => n - (intOf v).toNat)
  case atStart => exact ⟨0, rfl, by omega, ⟨⟨0, fun _ => (0, 0), World.ownsRow_nil _ _ _ _, by omega, fun j hj => by omega⟩, Below.refl _ _⟩⟩
  case round =>
    obtain ⟨k, rfl, hk, hr⟩ := hrel
    by_cases hlt : k + 1 < n
    · obtain ⟨x0, x1, x2⟩ := h.at (show k < n by omega)
      obtain ⟨p0, p1, p2⟩ := h.at hlt
      have y0 := cell_later hr.out.bel x0
      have y1 := cell_later hr.out.bel x1
      have y2 := cell_later hr.out.bel x2
      have z0 := cell_later hr.out.bel p0
      have z1 := cell_later hr.out.bel p1
      have z2 := cell_later hr.out.bel p2
      have d1 : decide ((k : Int) + 1 < (n : Int)) = true := decide_eq_true (by omega)
      have d1' : decide (k + 1 < n) = true := decide_eq_true hlt
      obtain ⟨⟨sn, ⟨sa, sb⟩, ⟨sc, sd⟩⟩, hS⟩ : ∃ s, T k = s := ⟨_, rfl⟩
      obtain ⟨⟨tn, ⟨ta, tb⟩, ⟨tc, td⟩⟩, hT⟩ : ∃ s, T (k + 1) = s := ⟨_, rfl⟩
      rw [hS] at y0 y1 y2
      rw [hT] at z0 z1 z2
      dsimp only at y0 y1 y2 z0 z1 z2
      have k1 : (0 : Int) ≤ (k : Int) + 1 := by omega
      have k2 : (k : Int) + 1 < (n : Int) := by omega
      have k3 : (0 : Int) ≤ (k : Int) := by omega
      have k4 : (k : Int) < (n : Int) := by omega
      clear x0 x1 x2 p0 p1 p2
      have bk : k ≤ 1000000 := by omega
      have hwk : IntKind.i64.wrap (k : Int) = (k : Int) := IntWalk.i64_in _ (by omega)
      have hgl : g < wr.heap.size := World.block_lt_of_cell? _ _ z0
      have ne1 : ¬ g = wr.heap.size := by omega
      have ne1' : ¬ wr.heap.size = g := by omega
      have ne2 : ¬ g = wr.heap.size + 1 := by omega
      have ne2' : ¬ wr.heap.size + 1 = g := by omega
      have ky := fun (o v) (h : wr.cell? ⟨g, o, none⟩ = some v) => (fun o1 => below_cell (b := g) (Below.alloc (Below.refl wr.heap.size wr) (Nat.le_refl _) o1) h : ∀ o1, (wr.alloc o1).cell? ⟨g, o, none⟩ = some v)
      have ky2 := fun (o v) (h : wr.cell? ⟨g, o, none⟩ = some v) => (fun o1 o2 => below_cell (b := g) (Below.alloc (Below.refl (wr.alloc o1).heap.size (wr.alloc o1)) (Nat.le_refl _) o2) (ky o v h o1) : ∀ o1 o2, ((wr.alloc o1).alloc o2).cell? ⟨g, o, none⟩ = some v)
      have ya0 := ky _ _ y0
      have ya1 := ky _ _ y1
      have ya2 := ky _ _ y2
      have za0 := ky _ _ z0
      have za1 := ky _ _ z1
      have za2 := ky _ _ z2
      have yb0 := ky2 _ _ y0
      have yb1 := ky2 _ _ y1
      have yb2 := ky2 _ _ y2
      have zb0 := ky2 _ _ z0
      have zb1 := ky2 _ _ z1
      have zb2 := ky2 _ _ z2
      clear ky ky2
      go_upto_region 5 with fail
      have HR0 := hide (fun o1 o2 => (hr.out.alloc o1).alloc o2)
      obtain ⟨a, b, c, d, hs⟩ := hok k (by omega)
      obtain ⟨a', b', c', d', ht⟩ := hok (k + 1) hlt
      rw [hS] at hs
      rw [hT] at ht
      have Hs := hide hs
      have Ht := hide ht
      have HTS := hide hS
      have HTT := hide hT
      have Hx := hide hx
      clear h hok hS hT hr hx hs ht
      go_region
      · obtain ⟨n0, n1, n2, m0, m1, m2⟩ := two_boxes wr (.int .i64 (sn : Int)) (.complex .f64 sa sb) (.complex .f64 sc sd) (.int .i64 (tn : Int)) (.complex .f64 ta tb) (.complex .f64 tc td)
        have HL := hide (HR0.out (.cells #[.int .i64 (sn : Int), .complex .f64 sa sb, .complex .f64 sc sd] 167) (.cells #[.int .i64 (tn : Int), .complex .f64 ta tb, .complex .f64 tc td] 167)).drew
        generalize ((wr.alloc (.cells #[.int .i64 (sn : Int), .complex .f64 sa sb, .complex .f64 sc sd] 167)).alloc (.cells #[.int .i64 (tn : Int), .complex .f64 ta tb, .complex .f64 tc td] 167)).drew = WP at *
        clear ya0 ya1 ya2 za0 za1 za2 yb0 yb1 yb2 zb0 zb1 zb2 y0 y1 y2 z0 z1 z2 HR0
        by_cases hK : turnI a b c d a' b' c' d' ≤ -1
        · obtain ⟨wx, wy, vx, vy, r, K, hc⟩ := Hcr.out _ _ _ _ _ _ _ _ _ _ Hs.out Ht.out hK
          obtain ⟨⟨cu, cv⟩, hcX⟩ : ∃ c, crX (sn, (sa, sb), (sc, sd)) (tn, (ta, tb), (tc, td)) = c := ⟨_, rfl⟩
          rw [hcX] at hc
          have ws := hc.tis.ws
          have wt := hc.tis.wt
          dsimp only at ws wt
          have HT := hide hc.tis.tr
          have HSg := hide (fun V => signF_any r V hc.tis.zn.fi)
          have HV := hide hc.tis.zn.v
          have HMx := hide hc.mx
          have HN := hide hc.neg
          have HCr := hide hc.cr
          have HcX := hide hcX
          unfold skV at HCr
          dsimp only at HCr
          clear hc hcX
          go_wp2_with fail
          refine (HT.out _).mono ?_
          rintro e w9 ⟨rfl, hw9⟩
          rw [hw9]
          clear hw9 w9
          go_wp2_with fail
          refine (HSg.out _).mono ?_
          rintro e w9 ⟨kk, rfl, hw9, _, hk2⟩
          rw [hw9]
          clear hw9 w9
          have hk3 : kk < 0 := hk2.2 (by
            rw [HV.out]
            have h2 : ((K : Int) : Rat) < ((0 : Int) : Rat) := Rat.intCast_lt_intCast.2 (by have := HN.out; omega)
            simpa using h2)
          have dn : decide (0 ≤ kk) = false := decide_eq_false (by omega)
          clear hk2
          go_wp2_with fail
          refine (HCr.out _).mono ?_
          rintro e w7 ⟨rfl, hb7⟩
          have n0' := below_cell hb7 n0
          have n1' := below_cell hb7 n1
          have n2' := below_cell hb7 n2
          have m0' := below_cell hb7 m0
          have m1' := below_cell hb7 m1
          have m2' := below_cell hb7 m2
          have HL7 := hide (HL.out.call hb7)
          clear n0 n1 n2 m0 m1 m2 HL hb7 HT HSg HCr
          go_wp2_with fail
          refine (apart_any cu x _ HMx.out (md_mono Hx.out (by decide))).mono ?_
          rintro e w9 ⟨k6, rfl, hw9, h61, _, _⟩
          rw [hw9]
          clear hw9 w9
          by_cases h6 : 0 < k6
          · have d6 : decide (0 < k6) = true := decide_eq_true h6
            go_wp2_with fail
            refine (leastF_any sc tc w7.heap.size _ (by go_simp) Hs.out.bx.fi Ht.out.bx.fi).mono ?_
            rintro e w9 ⟨r8, rfl, hr8, hw9⟩
            rw [hw9]
            clear hw9 w9
            have M8 : Md r8 ((12 : Int) : Rat) := by
              have s3 := Hs.out.lc
              have t3 := Ht.out.lc
              rcases hr8 with rfl | rfl
              · exact zn_md (K := 12) Hs.out.bx (by omega) (by omega)
              · exact zn_md (K := 12) Ht.out.bx (by omega) (by omega)
            have HM8 := hide M8
            clear M8 hr8
            have HL8 := hide (HL7.out.alloc (.cells #[.float .f64 tc] 116))
            generalize w7.alloc (.cells #[.float .f64 tc] 116) = W8 at *
            clear HL7 n0' n1' n2' m0' m1' m2'
            go_wp2_with fail
            refine (apart_any cu r8 _ HMx.out (md_mono HM8.out (by decide))).mono ?_
            rintro e w9 ⟨k5, rfl, hw9, _, h52, _⟩
            rw [hw9]
            clear hw9 w9
            by_cases h5 : k5 < 0
            · have d5 : decide (k5 < 0) = true := decide_eq_true h5
              have HB : Hid (V x < V cu ∧ V cu < 12) := hide ⟨h61 h6, by have q1 := h52 h5; have q2 := HM8.out.hi; have q3 : ((12 : Int) : Rat) = 12 := rfl; rw [q3] at q2; grind⟩
              clear h61 h52
              obtain ⟨⟨m, X, o1, o2, o3⟩, hb⟩ := HL8.out
              obtain ⟨i1, hi, hz0, hz1, hz2⟩ := info_parts info120
              have hbs := hb.size
              go_upto_region 4 with (first
                | (at_builtin; refine wpList_append_own_at _ rfl _ _ 111 rfl W.heap.size 120 i1 _ 1 16 Tryz.underlying111 hi hz0 hz1 hz2 rfl (by decide) _ _ _ rfl (o1.alloc _) ⟨W8.heap.size, 0, none⟩ 1 1 [.complex .f64 cu cv] rfl rfl (World.news_of_block (cs := #[.complex .f64 cu cv]) (t := 120) (fr := (0, 0)) (heap_alloc_new W8 _)) (by simp [Value.oneCell']) (by unfold maxLen; omega) (by omega) (by simp; omega) ?_; intro v' w1 hown' hgrow hnil hloc)
                | go_in)
              have NI : PsI crX W w1 v' x n T (k + 1 + 1) := by
                refine ⟨⟨m + 1, apX X m (cu, cv), ?_, by omega, fun j hj => ?_⟩, ?_⟩
                · rw [rowX_app]; exact hown'
                · by_cases e : j = m
                  · have eX : apX X m (cu, cv) j = (cu, cv) := by unfold apX; rw [if_pos e]
                    refine ⟨k, by omega, ⟨a, b, c, d, a', b', c', d', by rw [HTS.out]; exact Hs.out, by rw [HTT.out]; exact Ht.out, hK⟩, by rw [eX, HTS.out, HTT.out, HcX.out], ?_⟩
                    rw [eX]
                    exact HB.out
                  · have eX : apX X m (cu, cv) j = X j := by unfold apX; rw [if_neg e]
                    rw [eX]
                    exact o3 j (by omega)
                · exact (hb.alloc hbs _).grown hgrow (by simp; omega) (fun c hc => by have := o1.lt c hc; omega)
              have HN9 := hide NI
              clear NI hown' hgrow hnil hloc
              go_wp2
              go_roundw
              case rel => exact ⟨k + 1, by go_num, by omega, HN9.out⟩
              case measure => simp [intOf]; omega
            · have d5 : decide (k5 < 0) = false := decide_eq_false h5
              go_wp2_with fail
              go_roundw
              case rel => exact ⟨k + 1, by go_num, by omega, HL8.out.next⟩
              case measure => simp [intOf]; omega
          · have d6 : decide (0 < k6) = false := decide_eq_false h6
            go_wp2_with fail
            go_roundw
            case rel => exact ⟨k + 1, by go_num, by omega, HL7.out.next⟩
            case measure => simp [intOf]; omega
        · obtain ⟨wx, wy, vx, vy, r, hc⟩ := tr_is Hs.out Ht.out
          have ws := hc.ws
          have wt := hc.wt
          dsimp only at ws wt
          have HT := hide hc.tr
          have HSg := hide (fun V => signF_any r V hc.zn.fi)
          have HV := hide hc.zn.v
          clear hc
          go_wp2_with fail
          refine (HT.out _).mono ?_
          rintro e w9 ⟨rfl, hw9⟩
          rw [hw9]
          clear hw9 w9
          go_wp2_with fail
          refine (HSg.out _).mono ?_
          rintro e w9 ⟨kk, rfl, hw9, _, hk2⟩
          rw [hw9]
          clear hw9 w9
          have hk3 : ¬ kk < 0 := fun h => by
            have h1 := hk2.1 h
            rw [HV.out] at h1
            have h2 : ((turnI a b c d a' b' c' d' : Int) : Rat) < ((0 : Int) : Rat) := by simpa using h1
            have := Rat.intCast_lt_intCast.1 h2
            omega
          have dn : decide (0 ≤ kk) = true := decide_eq_true (by omega)
          go_wp2_with fail
          go_roundw
          case rel => exact ⟨k + 1, by go_num, by omega, HL.out.next⟩
          case measure => simp [intOf]; omega
      · obtain ⟨m0, m1, m2, n0, n1, n2⟩ := two_boxes wr (.int .i64 (tn : Int)) (.complex .f64 ta tb) (.complex .f64 tc td) (.int .i64 (sn : Int)) (.complex .f64 sa sb) (.complex .f64 sc sd)
        have HL := hide (HR0.out (.cells #[.int .i64 (tn : Int), .complex .f64 ta tb, .complex .f64 tc td] 167) (.cells #[.int .i64 (sn : Int), .complex .f64 sa sb, .complex .f64 sc sd] 167)).drew
        generalize ((wr.alloc (.cells #[.int .i64 (tn : Int), .complex .f64 ta tb, .complex .f64 tc td] 167)).alloc (.cells #[.int .i64 (sn : Int), .complex .f64 sa sb, .complex .f64 sc sd] 167)).drew = WP at *
        clear ya0 ya1 ya2 za0 za1 za2 yb0 yb1 yb2 zb0 zb1 zb2 y0 y1 y2 z0 z1 z2 HR0
        by_cases hK : turnI a b c d a' b' c' d' ≤ -1
        · obtain ⟨wx, wy, vx, vy, r, K, hc⟩ := Hcr.out _ _ _ _ _ _ _ _ _ _ Hs.out Ht.out hK
          obtain ⟨⟨cu, cv⟩, hcX⟩ : ∃ c, crX (sn, (sa, sb), (sc, sd)) (tn, (ta, tb), (tc, td)) = c := ⟨_, rfl⟩
          rw [hcX] at hc
          have ws := hc.tis.ws
          have wt := hc.tis.wt
          dsimp only at ws wt
          have HT := hide hc.tis.tr
          have HSg := hide (fun V => signF_any r V hc.tis.zn.fi)
          have HV := hide hc.tis.zn.v
          have HMx := hide hc.mx
          have HN := hide hc.neg
          have HCr := hide hc.cr
          have HcX := hide hcX
          unfold skV at HCr
          dsimp only at HCr
          clear hc hcX
          go_wp2_with fail
          refine (HT.out _).mono ?_
          rintro e w9 ⟨rfl, hw9⟩
          rw [hw9]
          clear hw9 w9
          go_wp2_with fail
          refine (HSg.out _).mono ?_
          rintro e w9 ⟨kk, rfl, hw9, _, hk2⟩
          rw [hw9]
          clear hw9 w9
          have hk3 : kk < 0 := hk2.2 (by
            rw [HV.out]
            have h2 : ((K : Int) : Rat) < ((0 : Int) : Rat) := Rat.intCast_lt_intCast.2 (by have := HN.out; omega)
            simpa using h2)
          have dn : decide (0 ≤ kk) = false := decide_eq_false (by omega)
          clear hk2
          go_wp2_with fail
          refine (HCr.out _).mono ?_
          rintro e w7 ⟨rfl, hb7⟩
          have n0' := below_cell hb7 n0
          have n1' := below_cell hb7 n1
          have n2' := below_cell hb7 n2
          have m0' := below_cell hb7 m0
          have m1' := below_cell hb7 m1
          have m2' := below_cell hb7 m2
          have HL7 := hide (HL.out.call hb7)
          clear n0 n1 n2 m0 m1 m2 HL hb7 HT HSg HCr
          go_wp2_with fail
          refine (apart_any cu x _ HMx.out (md_mono Hx.out (by decide))).mono ?_
          rintro e w9 ⟨k6, rfl, hw9, h61, _, _⟩
          rw [hw9]
          clear hw9 w9
          by_cases h6 : 0 < k6
          · have d6 : decide (0 < k6) = true := decide_eq_true h6
            go_wp2_with fail
            refine (leastF_any sc tc w7.heap.size _ (by go_simp) Hs.out.bx.fi Ht.out.bx.fi).mono ?_
            rintro e w9 ⟨r8, rfl, hr8, hw9⟩
            rw [hw9]
            clear hw9 w9
            have M8 : Md r8 ((12 : Int) : Rat) := by
              have s3 := Hs.out.lc
              have t3 := Ht.out.lc
              rcases hr8 with rfl | rfl
              · exact zn_md (K := 12) Hs.out.bx (by omega) (by omega)
              · exact zn_md (K := 12) Ht.out.bx (by omega) (by omega)
            have HM8 := hide M8
            clear M8 hr8
            have HL8 := hide (HL7.out.alloc (.cells #[.float .f64 tc] 116))
            generalize w7.alloc (.cells #[.float .f64 tc] 116) = W8 at *
            clear HL7 n0' n1' n2' m0' m1' m2'
            go_wp2_with fail
            refine (apart_any cu r8 _ HMx.out (md_mono HM8.out (by decide))).mono ?_
            rintro e w9 ⟨k5, rfl, hw9, _, h52, _⟩
            rw [hw9]
            clear hw9 w9
            by_cases h5 : k5 < 0
            · have d5 : decide (k5 < 0) = true := decide_eq_true h5
              have HB : Hid (V x < V cu ∧ V cu < 12) := hide ⟨h61 h6, by have q1 := h52 h5; have q2 := HM8.out.hi; have q3 : ((12 : Int) : Rat) = 12 := rfl; rw [q3] at q2; grind⟩
              clear h61 h52
              obtain ⟨⟨m, X, o1, o2, o3⟩, hb⟩ := HL8.out
              obtain ⟨i1, hi, hz0, hz1, hz2⟩ := info_parts info120
              have hbs := hb.size
              go_upto_region 4 with (first
                | (at_builtin; refine wpList_append_own_at _ rfl _ _ 111 rfl W.heap.size 120 i1 _ 1 16 Tryz.underlying111 hi hz0 hz1 hz2 rfl (by decide) _ _ _ rfl (o1.alloc _) ⟨W8.heap.size, 0, none⟩ 1 1 [.complex .f64 cu cv] rfl rfl (World.news_of_block (cs := #[.complex .f64 cu cv]) (t := 120) (fr := (0, 0)) (heap_alloc_new W8 _)) (by simp [Value.oneCell']) (by unfold maxLen; omega) (by omega) (by simp; omega) ?_; intro v' w1 hown' hgrow hnil hloc)
                | go_in)
              have NI : PsI crX W w1 v' x n T (k + 1 + 1) := by
                refine ⟨⟨m + 1, apX X m (cu, cv), ?_, by omega, fun j hj => ?_⟩, ?_⟩
                · rw [rowX_app]; exact hown'
                · by_cases e : j = m
                  · have eX : apX X m (cu, cv) j = (cu, cv) := by unfold apX; rw [if_pos e]
                    refine ⟨k, by omega, ⟨a, b, c, d, a', b', c', d', by rw [HTS.out]; exact Hs.out, by rw [HTT.out]; exact Ht.out, hK⟩, by rw [eX, HTS.out, HTT.out, HcX.out], ?_⟩
                    rw [eX]
                    exact HB.out
                  · have eX : apX X m (cu, cv) j = X j := by unfold apX; rw [if_neg e]
                    rw [eX]
                    exact o3 j (by omega)
                · exact (hb.alloc hbs _).grown hgrow (by simp; omega) (fun c hc => by have := o1.lt c hc; omega)
              have HN9 := hide NI
              clear NI hown' hgrow hnil hloc
              go_wp2
              go_roundw
              case rel => exact ⟨k + 1, by go_num, by omega, HN9.out⟩
              case measure => simp [intOf]; omega
            · have d5 : decide (k5 < 0) = false := decide_eq_false h5
              go_wp2_with fail
              go_roundw
              case rel => exact ⟨k + 1, by go_num, by omega, HL8.out.next⟩
              case measure => simp [intOf]; omega
          · have d6 : decide (0 < k6) = false := decide_eq_false h6
            go_wp2_with fail
            go_roundw
            case rel => exact ⟨k + 1, by go_num, by omega, HL7.out.next⟩
            case measure => simp [intOf]; omega
        · obtain ⟨wx, wy, vx, vy, r, hc⟩ := tr_is Hs.out Ht.out
          have ws := hc.ws
          have wt := hc.wt
          dsimp only at ws wt
          have HT := hide hc.tr
          have HSg := hide (fun V => signF_any r V hc.zn.fi)
          have HV := hide hc.zn.v
          clear hc
          go_wp2_with fail
          refine (HT.out _).mono ?_
          rintro e w9 ⟨rfl, hw9⟩
          rw [hw9]
          clear hw9 w9
          go_wp2_with fail
          refine (HSg.out _).mono ?_
          rintro e w9 ⟨kk, rfl, hw9, _, hk2⟩
          rw [hw9]
          clear hw9 w9
          have hk3 : ¬ kk < 0 := fun h => by
            have h1 := hk2.1 h
            rw [HV.out] at h1
            have h2 : ((turnI a b c d a' b' c' d' : Int) : Rat) < ((0 : Int) : Rat) := by simpa using h1
            have := Rat.intCast_lt_intCast.1 h2
            omega
          have dn : decide (0 ≤ kk) = true := decide_eq_true (by omega)
          go_wp2_with fail
          go_roundw
          case rel => exact ⟨k + 1, by go_num, by omega, HL.out.next⟩
          case measure => simp [intOf]; omega
    · have d1 : decide ((k : Int) + 1 < (n : Int)) = false := decide_eq_false (by omega)
      have d1' : decide (k + 1 < n) = false := decide_eq_false hlt
      go_wp2
      go_ret
      obtain ⟨m, X, h1, h2, h3⟩ := hr.out.ex
      exact ⟨_, rfl, ⟨m, X, h1, by omega, h3⟩, hr.out.bel⟩
end Go.Proofs.YtkjlkbgdkdcboaaGreatDoor

set_option linter.unusedSimpArgs false
set_option linter.unusedVariables false
namespace Go.Proofs.YtkjlkbgdkdcboaaGreatDoor
open Go.RowKit Go.Maps Fl
attribute [local go_sem ↓] Go.wp_at_zero Go.wp_at_succ
theorem ofInt_z {n : Int} (h1 : -1000 ≤ n) (h2 : n ≤ 1000) : Zn (floatOfInt .f64 n) n := by
  obtain ⟨a, b⟩ := ofInt_V (n := n) (by omega) (by omega)
  exact ⟨a, b⟩
theorem place_any (x y : Int) (W : World) :
    Calls Tryz.prog 72 #[.agg #[.int .i64 x, .int .i64 y]] W fun e w' => e = .returned (.complex .f64 (floatOfInt .f64 x) (floatOfInt .f64 y)) ∧ Below W.heap.size W w' := by
  go_enter Tryz.func72, Tryz.ntmps72
  go_wp2_with fail
  go_ret
  exact ⟨rfl, Below.alloc (Below.refl _ _) (Nat.le_refl _) _⟩
end Go.Proofs.YtkjlkbgdkdcboaaGreatDoor

set_option linter.unusedSimpArgs false
set_option linter.unusedVariables false
namespace Go.Proofs.YtkjlkbgdkdcboaaGreatDoor
open Go.RowKit Go.Maps Fl
def Neg (s t : Sk) : Prop := ∃ a b c d a' b' c' d', SkOk s a b c d ∧ SkOk t a' b' c' d' ∧ turnI a b c d a' b' c' d' ≤ -1
theorem zn_uniq {x : Nat} {a b : Int} (h : Zn x a) (h' : Zn x b) : a = b := Rat.intCast_inj.1 (h.v.symm.trans h'.v)
theorem neg_anti {s t : Sk} (h : Neg s t) : ¬ Neg t s := by
  rintro ⟨a1, b1, c1, d1, a1', b1', c1', d1', k1, k2, k3⟩
  obtain ⟨a, b, c, d, a', b', c', d', h1, h2, h3⟩ := h
  obtain rfl := zn_uniq h1.ax k2.ax
  obtain rfl := zn_uniq h1.ay k2.ay
  obtain rfl := zn_uniq h1.bx k2.bx
  obtain rfl := zn_uniq h1.bye k2.bye
  obtain rfl := zn_uniq h2.ax k1.ax
  obtain rfl := zn_uniq h2.ay k1.ay
  obtain rfl := zn_uniq h2.bx k1.bx
  obtain rfl := zn_uniq h2.bye k1.bye
  have := turnI_anti a b c d a' b' c' d'
  omega
def candL (V1 : Nat → Rat) (C : Sk → Sk → Rat) (S : Nat → Sk) (n : Nat) : List Rat :=
  (List.range n).flatMap (fun j => V1 (S j).2.1.1 :: V1 (S j).2.2.1 :: (List.range j).map (fun i => C (S i) (S j)))
theorem cand_len (V1 : Nat → Rat) (C : Sk → Sk → Rat) (S : Nat → Sk) (n : Nat) : 2 * (candL V1 C S n).length = n * (n + 3) := by
  induction n with
  | zero => rfl
  | succ n ih =>
    unfold candL at ih ⊢
    rw [List.range_succ, List.flatMap_append, List.length_append]
    have e : (List.flatMap (fun j => V1 (S j).2.1.1 :: V1 (S j).2.2.1 :: (List.range j).map (fun i => C (S i) (S j))) [n]).length = n + 2 := by simp
    rw [e, Nat.mul_add, ih]
    grind
theorem cand_mem {V1 : Nat → Rat} {C : Sk → Sk → Rat} {S : Nat → Sk} {n j : Nat} (hj : j < n) {v : Rat} (h : v ∈ V1 (S j).2.1.1 :: V1 (S j).2.2.1 :: (List.range j).map (fun i => C (S i) (S j))) : v ∈ candL V1 C S n :=
  List.mem_flatMap.2 ⟨j, List.mem_range.2 hj, h⟩
open Classical in
theorem exists_cand (crX : Sk → Sk → Nat × Nat) (S : Nat → Sk) (n : Nat) (hn : n ≤ 24) : ∃ cl : List Rat, cl.length ≤ 324 ∧ (∀ t, t < n → V (S t).2.1.1 ∈ cl ∧ V (S t).2.2.1 ∈ cl) ∧ ∀ i j, i < n → j < n → Neg (S i) (S j) → V (crX (S i) (S j)).1 ∈ cl := by
  obtain ⟨C, hC⟩ : ∃ C : Sk → Sk → Rat, ∀ s t, Neg s t → C s t = V (crX s t).1 ∧ C t s = V (crX s t).1 :=
    ⟨fun s t => if Neg s t then V (crX s t).1 else V (crX t s).1, fun s t h => ⟨if_pos h, if_neg (neg_anti h)⟩⟩
  refine ⟨candL V C S n, ?_, fun t ht => ⟨cand_mem ht (List.mem_cons_self ..), cand_mem ht (List.mem_cons_of_mem _ (List.mem_cons_self ..))⟩, fun i j hi hj h => ?_⟩
  · have h1 := cand_len V C S n
    have h2 : n * (n + 3) ≤ 24 * 27 := Nat.mul_le_mul hn (by omega)
    omega
  · rcases Nat.lt_trichotomy i j with c | c | c
    · exact cand_mem hj (List.mem_cons_of_mem _ (List.mem_cons_of_mem _ (List.mem_map.2 ⟨i, List.mem_range.2 c, (hC _ _ h).1⟩)))
    · subst c
      exact absurd h (neg_anti h)
    · exact cand_mem hi (List.mem_cons_of_mem _ (List.mem_cons_of_mem _ (List.mem_map.2 ⟨j, List.mem_range.2 c, (hC _ _ h).2⟩)))
def ahead (cl : List Rat) (x : Rat) : Nat := cl.countP (fun v => decide (x < v))
theorem ahead_le {cl : List Rat} (hn : cl.length ≤ 324) (x : Rat) : ahead cl x ≤ 324 := Nat.le_trans List.countP_le_length hn
theorem count_less {l : List Rat} {p q : Rat → Bool} (hpq : ∀ v, p v = true → q v = true) {y : Rat} (hy : y ∈ l) (hq : q y = true) (hp : p y = false) : l.countP p + 1 ≤ l.countP q := by
  induction l with
  | nil => cases hy
  | cons a r ih =>
    rw [List.countP_cons, List.countP_cons]
    have hm : r.countP p ≤ r.countP q := List.countP_mono_left (fun v _ h => hpq v h)
    rcases List.mem_cons.1 hy with rfl | h
    · rw [if_pos hq, if_neg (by rw [hp]; decide)]
      omega
    · have h1 := ih h
      by_cases hpa : p a = true
      · rw [if_pos hpa, if_pos (hpq a hpa)]
        omega
      · rw [if_neg hpa]
        omega
theorem ahead_lt {cl : List Rat} {x y : Rat} (hy : y ∈ cl) (h : x < y) : ahead cl y + 1 ≤ ahead cl x := by
  refine count_less (fun v hv => ?_) hy (by simpa using h) (by simp)
  have := of_decide_eq_true hv
  exact decide_eq_true (by grind)
theorem least_of (p : Nat → Prop) : ∀ n, p n → ∃ k, p k ∧ ∀ j, p j → k ≤ j := by
  intro n
  induction n using Nat.strongRecOn with
  | ind n ih =>
    intro h
    by_cases c : ∃ m, m < n ∧ p m
    · obtain ⟨m, h1, h2⟩ := c
      exact ih m h1 h2
    · exact ⟨n, h, fun j hj => Nat.le_of_not_lt (fun hl => c ⟨j, hl, hj⟩)⟩
open Classical in
theorem exists_mu {α : Type} (I : α → Nat → Prop) : ∃ f : α → Nat, ∀ a k, I a k → I a (f a) ∧ ∀ j, I a j → f a ≤ j := by
  refine ⟨fun a => if h : ∃ k, I a k ∧ ∀ j, I a j → k ≤ j then Classical.choose h else 0, fun a k hk => ?_⟩
  have h2 := least_of (I a) k hk
  show I a (if h : ∃ k, I a k ∧ ∀ j, I a j → k ≤ j then Classical.choose h else 0) ∧ ∀ j, I a j → (if h : ∃ k, I a k ∧ ∀ j, I a j → k ≤ j then Classical.choose h else 0) ≤ j
  rw [dif_pos h2]
  exact Classical.choose_spec h2
end Go.Proofs.YtkjlkbgdkdcboaaGreatDoor
