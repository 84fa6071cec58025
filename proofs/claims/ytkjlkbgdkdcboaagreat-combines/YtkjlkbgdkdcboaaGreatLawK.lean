import Derived.Test.YtkjlkbgdkdcboaaGreatNmA

set_option linter.unusedSimpArgs false
set_option linter.unusedVariables false

set_option linter.unusedSimpArgs false
set_option linter.unusedVariables false

namespace Go.Proofs.YtkjlkbgdkdcboaaGreat.Ref
open Go.RowKit Go.Maps
attribute [local go_sem ↓] Go.wp_at_zero Go.wp_at_succ

theorem err_zero {a b : ByteArray} {op : Int} (h : (errP a b op).1 = 0) : (errP a b op).2 = 0 := by
  obtain ⟨h1, h2, h3⟩ := pair_fields h
  unfold errP
  rw [if_pos h1, if_pos h2, if_neg h3]
theorem neq50 (u v : Int) (w' : World) : (binOp .neq 50 (.agg #[.int .i64 u, .int .i64 v]) (.agg #[.int .i64 u, .int .i64 v])).run Tryz.prog w' = .ok (.bool false) w' := by simp [go_sem]
theorem neq56 (a b c d : Int) (w' : World) : (binOp .neq 56 (.agg #[.int .i64 a, .int .i64 b, .int .i64 c, .int .i64 d]) (.agg #[.int .i64 a, .int .i64 b, .int .i64 c, .int .i64 d])).run Tryz.prog w' = .ok (.bool false) w' := by simp [go_sem]
theorem made_same {E : List Acre.Ed} : ∀ (ps : List Acre.Pc), (∀ p ∈ ps, Acre.Good E p) → (ps.map (mkT E)).map (toPc E) = ps
  | [], _ => rfl
  | p :: r, h => by
    rw [List.map_cons, List.map_cons, toPc_mk (h p (by simp)), made_same r (fun q hq => h q (by simp [hq]))]

set_option maxRecDepth 100000 in
set_option maxHeartbeats 8000000 in
theorem combines_any (a b : ByteArray) (op : Int) (offer : ByteArray) (w : World) :
    Calls Tryz.prog 4 #[.string a, .string b, .int .i64 op, .string offer] w fun e w' => e = .returned (.bool true) ∧ Below w.heap.size w w' := by
  have HA := hide (fun V => askedE_any a b op V)
  have HC := hide (fun V => combine_any a b op offer V (fun h => (pair_ok h).1) (fun h => (pair_ok h).2.1) (fun h => (pair_ok h).2.2.1) (fun h => (pair_ok h).2.2.2))
  have HK := hide (fun V => rcheck_any a b op offer V)
  have HCd := hide (comb_doc (a := a) (b := b) (op := op) offer)
  have HDc := hide (doc_comb (a := a) (b := b) (op := op) (offer := offer))
  have HCg := hide (comb_good (a := a) (b := b) (op := op) offer)
  have HPo := hide (pair_ok (a := a) (b := b) (op := op))
  have HPf := hide (pair_fields (a := a) (b := b) (op := op))
  obtain ⟨er, her⟩ : ∃ er, errP a b op = er := ⟨_, rfl⟩
  obtain ⟨e1, e2⟩ := er
  go_enter Tryz.func4, Tryz.ntmps4
  go_wp2_with fail
  refine (HC.out w).mono ?_
  rintro e V1 ⟨hb1, hout1⟩
  rw [her] at hout1
  dsimp only at hout1
  rcases hout1 with ⟨hne, rfl⟩ | ⟨he, lv, rfl, hrow1⟩
  · go_wp2_with fail
    refine (HC.out V1).mono ?_
    rintro e V2 ⟨hb2, hout2⟩
    rw [her] at hout2
    dsimp only at hout2
    rcases hout2 with ⟨_, rfl⟩ | ⟨he, _⟩
    · have HB2 := hide (below_call hb2 hb1)
      clear hb1 hb2
      go_wp2
      go_loopw [15] (fun i wr => i = .int .i64 0 ∧ wr = V2) (fun _ _ => 0)
      case atStart => exact ⟨rfl, rfl⟩
      case round =>
        obtain ⟨rfl, rfl⟩ := hrel
        go_wp2_with fail
        refine (HA.out _).mono ?_
        rintro e V3 ⟨hb3, u1, u2, rfl, _⟩
        rw [her]
        have HB3 := hide (below_call hb3 HB2.out)
        have hneb : (e1 != 0) = true := by simpa using hne
        clear hb3 HB2
        go_wp2_with (go_at_call 8; refine (num_any _ _).mono ?_; rintro e w9 ⟨rfl, hw9⟩; rw [hw9]; clear hw9)
        go_ret
        exact ⟨rfl, HB3.out⟩
    · exact absurd he hne
  · subst he
    have h0 : (errP a b op).1 = 0 := by rw [her]
    have H0 := hide h0
    go_wp2_with fail
    refine (HC.out V1).mono ?_
    rintro e V2 ⟨hb2, hout2⟩
    rw [her] at hout2
    dsimp only at hout2
    rcases hout2 with ⟨hne, _⟩ | ⟨_, zv, rfl, hrow2⟩
    · exact absurd rfl hne
    · obtain ⟨g1, g2, g3, g4⟩ := HCg.out h0
      obtain ⟨ps, hps⟩ : ∃ ps, combP a b op offer = ps := ⟨_, rfl⟩
      have hCd := HCd.out h0
      have hDc := HDc.out h0
      rw [hps] at hrow1 hrow2 g1 g2 g3 g4 hCd hDc
      have HCd2 := hide hCd
      have HDc2 := hide hDc
      have HG1 := hide g1
      have HG2 := hide g2
      obtain ⟨za, zg, zcap, rfl, hza⟩ := rowE_form hrow2
      have hwz : 0 < ps.length → Wpe V2 zg ps.length ∧ V1.heap.size ≤ zg := fun h => by
        have := hza h
        subst this
        have := wpe_row hrow2
        exact ⟨this.1, this.2.1⟩
      have HWz := hide hwz
      have HR1 := hide hrow1
      have HB1 := hide hb1
      have HB2 := hide hb2
      clear hrow1 hrow2 hb1 hb2 g1 g2 g4 hCd hDc hps hwz HCd HDc HCg h0
      go_wp2
      go_loopw [15] (fun i wr => ∃ k : Nat, i = .int .i64 k ∧ k ≤ ps.length ∧ Hid ((0 < ps.length → Wpe wr zg ps.length) ∧ Below V1.heap.size V1 wr)) (fun i _ => ps.length - (intOf i).toNat)
      case atStart => exact ⟨0, rfl, Nat.zero_le _, fun h => (HWz.out h).1, HB2.out⟩
      case round =>
        obtain ⟨k, rfl, hk, hr⟩ := hrel
        by_cases hlt : k < ps.length
        · obtain rfl := hza (by omega)
          obtain ⟨hw, hbw⟩ := hr.out
          have hw1 := hw (by omega)
          have hzb := (HWz.out (by omega)).2
          obtain ⟨⟨v0, c0⟩, f0⟩ := hw1 (k * 12) (by omega)
          obtain ⟨⟨v1, c1⟩, f1⟩ := hw1 (k * 12 + 1) (by omega)
          obtain ⟨⟨v2, c2⟩, f2⟩ := hw1 (k * 12 + 2) (by omega)
          obtain ⟨⟨v3, c3⟩, f3⟩ := hw1 (k * 12 + 3) (by omega)
          obtain ⟨⟨v4, c4⟩, f4⟩ := hw1 (k * 12 + 4) (by omega)
          obtain ⟨⟨v5, c5⟩, f5⟩ := hw1 (k * 12 + 5) (by omega)
          obtain ⟨⟨v6, c6⟩, f6⟩ := hw1 (k * 12 + 6) (by omega)
          obtain ⟨⟨v7, c7⟩, f7⟩ := hw1 (k * 12 + 7) (by omega)
          obtain ⟨⟨v8, c8⟩, f8⟩ := hw1 (k * 12 + 8) (by omega)
          obtain ⟨⟨v9, c9⟩, f9⟩ := hw1 (k * 12 + 9) (by omega)
          obtain ⟨⟨v10, c10⟩, f10⟩ := hw1 (k * 12 + 10) (by omega)
          obtain ⟨⟨v11, c11⟩, f11⟩ := hw1 (k * 12 + 11) (by omega)
          have HW1 := hide hw1
          have HBw := hide hbw
          clear hw1 hw hbw hr
          go_wp2
          go_roundw
          case rel =>
            refine ⟨k + 1, by go_num, by omega, fun _ => ?_, ?_⟩
            · exact (((((((((((HW1.out.set _ _).set _ _).set _ _).set _ _).set _ _).set _ _).set _ _).set _ _).set _ _).set _ _).set _ _).set _ _
            · exact bS (bS (bS (bS (bS (bS (bS (bS (bS (bS (bS (bS HBw.out hzb) hzb) hzb) hzb) hzb) hzb) hzb) hzb) hzb) hzb) hzb) hzb
          case measure => simp [intOf]; omega
        · obtain rfl : k = ps.length := by omega
          have HBw := hide hr.out.2
          clear hr HWz
          have he2 : e2 = 0 := by have := err_zero H0.out; rw [her] at this; exact this
          subst he2
          obtain ⟨q1, q2, q3, q4⟩ := HPo.out H0.out
          obtain ⟨f1, f2, f3⟩ := HPf.out H0.out
          have hop2 : 0 ≤ op ∧ op ≤ 3 := by omega
          have hla := edges_le12 (read_field f1)
          have hlb := edges_le12 (read_field f2)
          have hpE : pairE a b = Acre.edgesOf (readP a).1 ++ Acre.edgesOf (readP b).1 := rfl
          have hCd := HCd2.out
          have hDc := HDc2.out
          have hG1 := HG1.out
          have hG2 := HG2.out
          rw [hpE] at q1 q2 q3 hDc hG1
          have HAk := hide (fun V => (HA.out V))
          obtain ⟨A, hA⟩ : ∃ A, Acre.edgesOf (readP a).1 = A := ⟨_, rfl⟩
          obtain ⟨B, hB⟩ : ∃ B, Acre.edgesOf (readP b).1 = B := ⟨_, rfl⟩
          rw [hA] at q1 q2 q3 hla hCd hDc hG1
          rw [hB] at q1 q2 q3 hlb hCd hDc hG1
          have hlen24 : (A ++ B).length ≤ 24 := q3
          have HJ := hide (fun V va vb base (h1 : V.ownsRow base 56 4 va A.length (flatE A)) (h2 : V.ownsRow base 56 4 vb B.length (flatE B)) => ljoined_any A B va vb base base V h1 h2 (by omega) (by omega))
          have HPc := hide (fun V vl ve (b1 b2 : Nat) (h1 : V.ownsRow b1 39 12 vl ps.length (flatP ps)) (h2 : V.ownsRow b2 56 4 ve (A ++ B).length (flatE (A ++ B))) => pieces_any (A ++ B) ps vl ve b1 b2 V h1 h2 hlen24 (by omega) hG1 hG2)
          have hmade := made_same ps hG1
          have hmok : HandOk A B (ps.map (mkT (A ++ B))) := ⟨q2, hla, hlb, fun q hq => by
            obtain ⟨p, hp, rfl⟩ := List.mem_map.1 hq
            exact mk_ok (hG1 p hp) (hG2 p hp), by rw [List.length_map]; omega⟩
          have hcuts : ∀ z ∈ Acre.cutR (A ++ B) ((ps.map (mkT (A ++ B))).map (toPc (A ++ B))), Cut z := by rw [hmade]; exact cuts_ok q1 hG1 hG2
          have HRt := hide (fun V va vb vq (b1 b3 : Nat) (h : Hand V A B (ps.map (mkT (A ++ B))) va vb vq b1 b1 b3) => rightR_any A B (ps.map (mkT (A ++ B))) va vb vq b1 b1 b3 op V h hmok hop2 hcuts)
          rw [hmade, hCd] at HRt
          have HAr := hide hA
          have HBr := hide hB
          have HDk := hide hDc
          have HG := hide hG1
          clear q1 q2 q3 q4 f1 f2 f3 hpE hCd hDc hG1 hG2 hA hB hmade hmok hcuts HCd2 HDc2 HG1 HG2 HPo HPf
          go_wp2_with fail
          refine (HA.out _).mono ?_
          rintro e V3 ⟨hb3, u1, u2, rfl, hrows⟩
          obtain ⟨hr1, hr2⟩ := hrows H0.out
          rw [HAr.out] at hr1
          rw [HBr.out] at hr2
          rw [her]
          have HU1 := hide hr1
          have HU2 := hide hr2
          have HB3 := hide (below_call hb3 HBw.out)
          clear hb3 hrows hr1 hr2 HBw HA HAk
          go_wp2_with (go_at_call 8; refine (num_any _ _).mono ?_; rintro e w9 ⟨rfl, hw9⟩; rw [hw9]; clear hw9)
          refine (HJ.out _ _ _ _ HU1.out HU2.out).mono ?_
          rintro e V4 ⟨u4, rfl, hrow4, hb4⟩
          have HB4 := hide (below_call hb4 HB3.out)
          have HA4 := hide (row_call HU1.out hb4)
          have HBb4 := hide (row_call HU2.out hb4)
          have HE4 := hide hrow4
          have HL4 := hide (row_call HR1.out HB4.out)
          clear hb4 hrow4 HB3 HU1 HU2 HJ HR1
          go_wp2_with fail
          refine (HPc.out _ _ _ _ _ HL4.out HE4.out).mono ?_
          rintro e V5 ⟨u5, rfl, hrow5, hb5⟩
          have HB5 := hide (below_call hb5 HB4.out)
          have HA5 := hide (row_call HA4.out hb5)
          have HBb5 := hide (row_call HBb4.out hb5)
          have HE5 := hide (row_call HE4.out hb5)
          have HQ5 := hide hrow5
          clear hb5 hrow5 HB4 HA4 HBb4 HE4 HL4 HPc
          go_wp2_with fail
          refine (HRt.out _ _ _ _ _ _ ⟨HA5.out, HBb5.out, HQ5.out⟩).mono ?_
          rintro e V6 ⟨rfl, hb6⟩
          have HB6 := hide (below_call hb6 HB5.out)
          have HE6 := hide (row_call HE5.out hb6)
          have HQ6 := hide (row_call HQ5.out hb6)
          clear hb6 HB5 HA5 HBb5 HE5 HQ5 HRt
          go_wp2_with fail
          refine (HK.out _).mono ?_
          rintro e V7 ⟨at7, rfl, hb7⟩
          have HB7 := hide (below_call hb7 HB6.out)
          have HE7 := hide (row_call HE6.out hb7)
          have HQ7 := hide (row_call HQ6.out hb7)
          clear hb7 HB6 HE6 HQ6 HK
          by_cases hz : rckErr a b op offer = 0
          · obtain ⟨hce, hpq⟩ := HDk.out hz
            obtain ⟨z1, z2, z3, z4⟩ := cert_zero hce
            have HPs := hide (fun V => parse_any offer V (by omega))
            have hraw := parseP_raw offer
            rw [hz]
            generalize (parseP offer).1 = qs at *
            generalize (parseP offer).2 = bad at *
            have hql : qs.length = ps.length := by rw [hpq, List.length_map]
            have hml : (ps.map (mkT (A ++ B))).length = qs.length := by rw [List.length_map, hql]
            have HPQ := hide hpq
            have HZ4 := hide z4
            have HRaw := hide hraw
            clear hce hpq z1 z2 z3 z4 hraw hz HDk
            go_wp2_with fail
            refine (HPs.out _).mono ?_
            rintro e V8 ⟨u8, rfl, hrow8, hb8⟩
            have HB8 := hide (below_call hb8 HB7.out)
            have HE8 := hide (row_call HE7.out hb8)
            have HQ8 := hide (row_call HQ7.out hb8)
            have HW8 := hide hrow8
            obtain ⟨wa, wg, wcap, rfl, hwa⟩ := rowE_form hrow8
            obtain ⟨ma, mg, mcap, hmv, hma⟩ := rowE_form HQ8.out
            have hmade2 : HQ8.out = HQ8.out := rfl
            clear hb8 hrow8 HB7 HE7 HQ7 HPs hmade2
            rw [hml] at hmv hma
            subst hmv
            obtain ⟨ea, eg, ecap, hev, hea⟩ := rowE_form HE8.out
            subst hev
            go_wp2
            go_loopw [28] (fun i wr => ∃ k : Nat, i = .int .i64 k ∧ k ≤ qs.length ∧ Hid (Below V8.heap.size V8 wr)) (fun i _ => qs.length - (intOf i).toNat)
            case atStart => exact ⟨0, rfl, Nat.zero_le _, Below.refl _ _⟩
            case round =>
              obtain ⟨k, rfl, hk, hr⟩ := hrel
              by_cases hlt : k < qs.length
              · obtain rfl := hwa (by omega)
                obtain rfl := hma (by omega)
                have hso := HZ4.out qs[k] (List.getElem_mem hlt)
                have hrw := HRaw.out qs[k] (List.getElem_mem hlt)
                have hpok := (sound_ok hrw hso).1
                have hgood := (sound_ok hrw hso).2.1
                have hlE := hpok.lo.2.1
                have hlE0 := hpok.lo.1
                obtain rfl := hea (by omega)
                have hcw := row_t (row_call HW8.out hr.out) k hlt
                have hq := row_call HQ8.out hr.out
                rw [← hml] at hq
                have hkm : k < (ps.map (mkT (A ++ B))).length := by rw [hml]; exact hlt
                have hcm := row_t hq k hkm
                have hmk : (ps.map (mkT (A ++ B)))[k] = mkT (A ++ B) (toPc (A ++ B) qs[k]) := by
                  have e := HPQ.out
                  have h1 : (ps.map (mkT (A ++ B)))[k]? = some (mkT (A ++ B) (toPc (A ++ B) qs[k])) := by
                    rw [e, List.map_map, List.getElem?_map, List.getElem?_eq_getElem hlt]
                    rfl
                  rw [List.getElem?_eq_getElem hkm] at h1
                  exact Option.some.inj h1
                rw [hmk] at hcm
                obtain ⟨q, hqq⟩ : ∃ q, qs[k] = q := ⟨_, rfl⟩
                rw [hqq] at hcw hcm hpok hgood
                obtain ⟨⟨f1, f2⟩, ⟨t1, t2⟩, lo, hi, ta, tb, tc, td⟩ := q
                obtain ⟨_, _, ⟨hl0, hl1, _⟩, ⟨hh0, hh1, _⟩⟩ := hpok
                dsimp only at hl0 hl1 hh0 hh1
                obtain ⟨ln, rfl⟩ : ∃ n : Nat, lo = (n : Int) := ⟨lo.toNat, by omega⟩
                obtain ⟨hn, rfl⟩ : ∃ n : Nat, hi = (n : Int) := ⟨hi.toNat, by omega⟩
                have hln : ln < (A ++ B).length := by omega
                have hhn : hn < (A ++ B).length := by omega
                have hmm : mkT (A ++ B) (toPc (A ++ B) ⟨(f1, f2), (t1, t2), (ln : Int), (hn : Int), ta, tb, tc, td⟩) = ⟨(f1, f2), (t1, t2), ((A ++ B).idxOf (A ++ B)[ln] : Nat), ((A ++ B).idxOf (A ++ B)[hn] : Nat), 0, 0, 0, 0⟩ := by
                  have g1 : Acre.gd (A ++ B) ln = (A ++ B)[ln] := by unfold Acre.gd; rw [List.getD_eq_getElem?_getD, List.getElem?_eq_getElem hln]; rfl
                  have g2 : Acre.gd (A ++ B) hn = (A ++ B)[hn] := by unfold Acre.gd; rw [List.getD_eq_getElem?_getD, List.getElem?_eq_getElem hhn]; rfl
                  unfold mkT toPc
                  simp only [Int.toNat_natCast]
                  rw [g1, g2]
                rw [hmm] at hcm
                have hE9 := row_call HE8.out hr.out
                have hm1 : (A ++ B)[ln] ∈ A ++ B := List.getElem_mem hln
                have hm2 : (A ++ B)[hn] ∈ A ++ B := List.getElem_mem hhn
                have i1 : (A ++ B).idxOf (A ++ B)[ln] < (A ++ B).length := List.idxOf_lt_length_iff.2 hm1
                have i2 : (A ++ B).idxOf (A ++ B)[hn] < (A ++ B).length := List.idxOf_lt_length_iff.2 hm2
                have j1 : (A ++ B)[(A ++ B).idxOf (A ++ B)[ln]] = (A ++ B)[ln] := List.getElem_idxOf i1
                have j2 : (A ++ B)[(A ++ B).idxOf (A ++ B)[hn]] = (A ++ B)[hn] := List.getElem_idxOf i2
                obtain ⟨a0, a1, a2, a3⟩ := row_e hE9 ln hln
                obtain ⟨b0, b1, b2, b3⟩ := row_e hE9 hn hhn
                obtain ⟨c0, c1, c2, c3⟩ := row_e hE9 _ i1
                obtain ⟨d0, d1, d2, d3⟩ := row_e hE9 _ i2
                rw [j1] at c0 c1 c2 c3
                rw [j2] at d0 d1 d2 d3
                generalize (A ++ B).idxOf (A ++ B)[ln] = n1 at *
                generalize (A ++ B).idxOf (A ++ B)[hn] = n2 at *
                generalize (A ++ B)[ln] = el at *
                generalize (A ++ B)[hn] = eh at *
                obtain ⟨⟨x0, x1⟩, ⟨x2, x3⟩⟩ := el
                obtain ⟨⟨y0, y1⟩, ⟨y2, y3⟩⟩ := eh
                have w0 := hcw 0 _ rfl
                have w1 := hcw 1 _ rfl
                have w2 := hcw 2 _ rfl
                have w3 := hcw 3 _ rfl
                have w4 := hcw 4 _ rfl
                have w5 := hcw 5 _ rfl
                have m0 := hcm 0 _ rfl
                have m1 := hcm 1 _ rfl
                have m2 := hcm 2 _ rfl
                have m3 := hcm 3 _ rfl
                have m4 := hcm 4 _ rfl
                have m5 := hcm 5 _ rfl
                simp only [Nat.add_zero] at w0 m0
                rw [List.length_append] at hln hhn i1 i2
                have k1 : (0 : Int) ≤ (ln : Int) := by omega
                have k2 : (ln : Int) < (A.length : Int) + (B.length : Int) := by omega
                have k3 : (0 : Int) ≤ (hn : Int) := by omega
                have k4 : (hn : Int) < (A.length : Int) + (B.length : Int) := by omega
                have k5 : (0 : Int) ≤ (n1 : Int) := by omega
                have k6 : (n1 : Int) < (A.length : Int) + (B.length : Int) := by omega
                have k7 : (0 : Int) ≤ (n2 : Int) := by omega
                have k8 : (n2 : Int) < (A.length : Int) + (B.length : Int) := by omega
                have k9 : (0 : Int) ≤ (k : Int) := by omega
                have k10 : (k : Int) < (qs.length : Int) := by omega
                have k11 : (k : Int) < (ps.length : Int) := by omega
                have ne1 := neq50 f1 f2
                have ne2 := neq50 t1 t2
                have ne3 := neq56 x0 x1 x2 x3
                have ne4 := neq56 y0 y1 y2 y3
                clear hcw hcm hq hkm hmk hqq hgood hE9 hm1 hm2 j1 j2 hmm hso hrw
                go_wp2_with fail
                go_quiet (fail)
                generalize hV : wr.drewN _ = V9
                have HB9 : Hid (Below V8.heap.size V8 V9) := hide (by rw [← hV]; exact below_drewN hr.out _)
                clear hV hr w0 w1 w2 w3 w4 w5 m0 m1 m2 m3 m4 m5 a0 a1 a2 a3 b0 b1 b2 b3 c0 c1 c2 c3 d0 d1 d2 d3
                go_wp2
                go_roundw
                case rel => exact ⟨k + 1, by go_num, by omega, HB9⟩
                case measure => simp [intOf]; omega
              · obtain rfl : k = qs.length := by omega
                have HBz := hide (below_call hr.out HB8.out)
                clear hr
                go_wp2
                go_ret
                exact ⟨rfl, below_call HBz.out HB1.out⟩
          · have hzb : (rckErr a b op offer != 0) = true := by simpa using hz
            generalize rckErr a b op offer = rc at *
            go_wp2
            go_ret
            exact ⟨rfl, below_call HB7.out HB1.out⟩

end Go.Proofs.YtkjlkbgdkdcboaaGreat.Ref
