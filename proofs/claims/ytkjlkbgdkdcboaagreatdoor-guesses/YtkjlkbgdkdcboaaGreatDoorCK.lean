import Derived.Test.YtkjlkbgdkdcboaaGreatDoorLW
import Derived.Test.YtkjlkbgdkdcboaaGreatDoorFillP

set_option linter.unusedSimpArgs false
set_option linter.unusedVariables false

set_option linter.unusedSimpArgs false
set_option linter.unusedVariables false
namespace Go.Proofs.YtkjlkbgdkdcboaaGreatDoor
open Go.RowKit Go.Maps
attribute [local go_sem ↓] Go.wp_at_zero Go.wp_at_succ
structure ChkPost (s : ByteArray) (E : List Acre.Ed) (kk : Nat) (op : Int) (w : World) (e : Ending) (w' : World) : Prop where
  bel : Below w.heap.size w w'
  out : (∃ v err a, checkP s E kk op = none ∧ (err ≠ 0 ∧ (s.size ≤ 200000 → err = 7 ∨ err = 8)) ∧ e = .returned (.tuple #[v, .int .i64 err, .int .i64 a])) ∨ (∃ v ps, checkP s E kk op = some ps ∧ e = .returned (.tuple #[v, .int .i64 0, .int .i64 0]) ∧ w'.ownsRow w.heap.size 44 12 v ps.length (flatP ps))
set_option maxRecDepth 100000 in
set_option maxHeartbeats 1000000 in
theorem check_any (s : ByteArray) (E : List Acre.Ed) (u : Value) (base kk : Nat) (op : Int) (w : World) (F : Acre.Fld E) (hE : w.ownsRow base 42 4 u E.length (flatE E)) (hsm : ∀ e ∈ E, SmE e) (hEl : E.length ≤ 24) (hkk : kk ≤ 24) :
    Calls Tryz.prog 22 #[.agg #[u, .int .i64 kk, .int .i64 op], .string s] w fun e w' => ChkPost s E kk op w e w' := by
  by_cases hs : 200000 < s.size
  · have hs2 : (200000 : Int) < (s.size : Int) := by omega
    have HC := hide (show checkP s E kk op = none by unfold checkP; rw [if_pos hs])
    obtain ⟨ga, gb, gcap, rfl, hga, hcap⟩ := row_form hE
    go_enter Tryz.func22, Tryz.ntmps22
    have q1 := below1 w (.cells #[.slice ga E.length gcap, .int .i64 kk, .int .i64 op] 48)
    have HQ := hide q1
    clear q1
    go_wp2
    refine bodyPost_ret (v := .tuple #[.slice none 0 0, .int .i64 1, .int .i64 0]) ?_ rfl ?_
    · simp [results, Tryz.results22, go_sem]
    exact ⟨HQ.out, .inl ⟨_, _, _, HC.out, ⟨by decide, fun h => by omega⟩, rfl⟩⟩
  · have hs2 : ¬ (200000 : Int) < (s.size : Int) := by omega
    have HD : Hid (checkP s E kk op = (certC s E).bind fun ps => if Acre.filledP E kk op ps = true then some ps else none) := hide (by unfold checkP; rw [if_neg hs])
    obtain ⟨ga, gb, gcap, rfl, hga, hcap⟩ := row_form hE
    have q1 := below1 w (.cells #[.slice ga E.length gcap, .int .i64 kk, .int .i64 op] 48)
    have bP := Box.new w [.slice ga E.length gcap, .int .i64 kk, .int .i64 op] 48
    go_enter Tryz.func22, Tryz.ntmps22
    go_upto_region 3 with fail
    generalize w.alloc (.cells #[.slice ga E.length gcap, .int .i64 kk, .int .i64 op] 48) = V0 at *
    have c0 := bP.c 0 _ rfl
    go_wp2_with fail
    refine (readCert_any s E _ base V0 (by omega) (row_call hE q1) hEl).mono ?_
    rintro e V1 ⟨hb1, hout⟩
    have bP1 := bP.later (by simp) hb1
    have q2 := below_call hb1 q1
    rcases hout with ⟨v, a, hno, rfl⟩ | ⟨v, ps, hps, rfl, hrow⟩
    · have HN := hide (show checkP s E kk op = none by rw [HD.out, hno]; rfl)
      have HQ := hide q2
      clear q1 q2 hb1 hno
      go_wp2
      refine bodyPost_ret (v := .tuple #[.slice none 0 0, .int .i64 7, .int .i64 a]) ?_ rfl ?_
      · simp [results, Tryz.results22, go_sem]
      exact ⟨HQ.out, .inl ⟨_, _, _, HN.out, ⟨by decide, fun _ => .inl rfl⟩, rfl⟩⟩
    · obtain ⟨pa, pb, pcap, rfl, _, _⟩ := row_form hrow
      have hg := certC_good hps
      have HF := hide (callsIn_wide.1 (pairFilled_in E _ base kk op ps _ _ V1 F (row_call hE q2) hrow hsm hEl hkk hg.2.2 hg.1 hg.2.1))
      have e0 := bP1.c 0 _ rfl
      have e1 := bP1.c 1 _ rfl
      have e2 := bP1.c 2 _ rfl
      have Hrow := hide (row_base hrow q1.size)
      have HQ := hide q2
      have HPS := hide hps
      clear hrow hg hps q1 q2 hb1 c0
      cases hfl : Acre.filledP E kk op ps
      · have HN := hide (show checkP s E kk op = none by rw [HD.out, HPS.out]; show (if Acre.filledP E kk op ps = true then some ps else none) = none; rw [hfl]; rfl)
        rw [hfl] at HF
        clear hfl
        go_wp2_with fail
        refine HF.out.mono ?_
        rintro e V2 ⟨rfl, hb2⟩
        have HQ2 := hide (below_call hb2 HQ.out)
        clear hb2 HQ
        go_wp2
        refine bodyPost_ret (v := .tuple #[.slice none 0 0, .int .i64 8, .int .i64 0]) ?_ rfl ?_
        · simp [results, Tryz.results22, go_sem]
        exact ⟨HQ2.out, .inl ⟨_, _, _, HN.out, ⟨by decide, fun _ => .inr rfl⟩, rfl⟩⟩
      · have HN := hide (show checkP s E kk op = some ps by rw [HD.out, HPS.out]; show (if Acre.filledP E kk op ps = true then some ps else none) = some ps; rw [hfl]; rfl)
        rw [hfl] at HF
        clear hfl
        go_wp2_with fail
        refine HF.out.mono ?_
        rintro e V2 ⟨rfl, hb2⟩
        have HQ2 := hide (below_call hb2 HQ.out)
        have Hrow2 := hide (row_call Hrow.out hb2)
        clear hb2 HQ Hrow
        go_wp2
        refine bodyPost_ret (v := .tuple #[.slice pa ps.length pcap, .int .i64 0, .int .i64 0]) ?_ rfl ?_
        · simp [results, Tryz.results22, go_sem]
        exact ⟨HQ2.out, .inr ⟨_, ps, HN.out, rfl, Hrow2.out⟩⟩
end Go.Proofs.YtkjlkbgdkdcboaaGreatDoor

set_option linter.unusedSimpArgs false
set_option linter.unusedVariables false
namespace Go.Proofs.YtkjlkbgdkdcboaaGreatDoor
open Go.RowKit Go.Maps
attribute [local go_sem ↓] Go.wp_at_zero Go.wp_at_succ
structure CkPost (a b : ByteArray) (op : Int) (c : ByteArray) (w : World) (e : Ending) (w' : World) : Prop where
  bel : Below w.heap.size w w'
  out : ((errP a b op).1 ≠ 0 ∧ e = .returned (.tuple #[.int .i64 (errP a b op).1, .int .i64 (errP a b op).2])) ∨
    ((errP a b op).1 = 0 ∧ ∃ err at' : Int, e = .returned (.tuple #[.int .i64 err, .int .i64 at']) ∧ (err = 0 ↔ (checkP c (pairE a b) (Acre.edgesOf (readP a).1).length op).isSome = true) ∧ (c.size ≤ 200000 → err = 0 ∨ err = 7 ∨ err = 8))
set_option maxRecDepth 100000 in
set_option maxHeartbeats 1000000 in
theorem acheck_any (a b : ByteArray) (op : Int) (c : ByteArray) (w : World) :
    Calls Tryz.prog 11 #[.string a, .string b, .int .i64 op, .string c] w fun e w' => CkPost a b op c w e w' := by
  have HOK := hide (fun h : (errP a b op).1 = 0 => pair_ok h)
  have HRP := hide (readPair_any a b op w)
  obtain ⟨er, her⟩ : ∃ er, errP a b op = er := ⟨_, rfl⟩
  rw [her] at HRP HOK
  have HER := hide her
  obtain ⟨e1, e2⟩ := er
  obtain ⟨E, hEE⟩ : ∃ E, pairE a b = E := ⟨_, rfl⟩
  obtain ⟨kk, hkkk⟩ : ∃ kk, (Acre.edgesOf (readP a).1).length = kk := ⟨_, rfl⟩
  rw [hEE, hkkk] at HOK
  have HEE := hide hEE
  have HKK := hide hkkk
  clear hEE hkkk her
  go_enter Tryz.func11, Tryz.ntmps11
  go_wp2_with fail
  refine HRP.out.mono ?_
  rintro e V1 ⟨pv, rfl, hpost⟩
  have hb1 := hpost.bel
  have hyes := hpost.yes
  obtain ⟨sp, sn, sc, sk, so, rfl⟩ := hpost.form
  rw [HER.out, HEE.out, HKK.out] at hyes
  dsimp only at hyes
  clear hpost
  by_cases he : e1 = 0
  · subst he
    obtain ⟨u, hpv, hE⟩ := hyes rfl
    simp only [Value.agg.injEq, Array.mk.injEq, List.cons.injEq, Value.int.injEq, true_and, and_true] at hpv
    obtain ⟨hu1, hk1, ho1⟩ := hpv
    have hk2 := hk1.symm
    have ho2 := ho1.symm
    have hu2 := hu1.symm
    subst hu2 ho2
    rw [hk1] at *
    obtain ⟨F, hsm, hEl, hkk⟩ := HOK.out rfl
    have HC := hide (fun V (hb : Below V1.heap.size V1 V) => check_any c E (.slice sp sn sc) _ kk op V F (row_call hE hb) hsm hEl hkk)
    have q1 := below1 V1 (.cells #[.slice sp sn sc, .int .i64 kk, .int .i64 op] 48)
    have Hb1 := hide hb1
    clear hyes hE hb1 F hsm hEl hkk HRP hk1 hk2 hu1 ho1
    go_wp2_with fail
    generalize V1.alloc (.cells #[.slice sp sn sc, .int .i64 kk, .int .i64 op] 48) = W1 at *
    refine (HC.out W1 q1).mono ?_
    rintro e V2 ⟨hb2, hout⟩
    have Hb3 := hide (below_call (below_call hb2 q1) Hb1.out)
    clear q1 hb2
    rcases hout with ⟨v, err, at', hno, herr, rfl⟩ | ⟨v, ps, hps, rfl, hrow⟩
    · have HN := hide hno
      have He := hide herr
      clear hno herr
      go_wp2
      refine bodyPost_ret (v := .tuple #[.int .i64 err, .int .i64 at']) ?_ rfl ?_
      · simp [results, Tryz.results11, go_sem]
      · refine ⟨Hb3.out, .inr ⟨by rw [HER.out], err, at', rfl, ?_, fun h => .inr (He.out.2 h)⟩⟩
        rw [HEE.out, HKK.out, HN.out]
        exact ⟨fun h => absurd h He.out.1, fun h => by simp at h⟩
    · have HN := hide hps
      clear hps hrow
      go_wp2
      refine bodyPost_ret (v := .tuple #[.int .i64 0, .int .i64 0]) ?_ rfl ?_
      · simp [results, Tryz.results11, go_sem]
      · refine ⟨Hb3.out, .inr ⟨by rw [HER.out], 0, 0, rfl, ?_, fun _ => .inl rfl⟩⟩
        rw [HEE.out, HKK.out, HN.out]
        exact ⟨fun _ => rfl, fun _ => rfl⟩
  · have hyes2 := hide hyes
    have Hb1 := hide hb1
    clear hyes hb1
    go_wp2
    refine bodyPost_ret (v := .tuple #[.int .i64 e1, .int .i64 e2]) ?_ rfl ?_
    · simp [results, Tryz.results11, go_sem]
    · refine ⟨bA Hb1.out, .inl ⟨?_, ?_⟩⟩
      · rw [HER.out]; exact he
      · rw [HER.out]
end Go.Proofs.YtkjlkbgdkdcboaaGreatDoor

set_option linter.unusedSimpArgs false
set_option linter.unusedVariables false
namespace Go.Proofs.YtkjlkbgdkdcboaaGreatDoor
open Go.RowKit
attribute [local go_sem ↓] Go.wp_at_zero Go.wp_at_succ
structure AkPost (a b : ByteArray) (op : Int) (w : World) (e : Ending) (w' : World) : Prop where
  bel : Below w.heap.size w w'
  out : ∃ u1 u2, e = .returned (.tuple #[u1, u2, .int .i64 (errP a b op).1, .int .i64 (errP a b op).2]) ∧ ((errP a b op).1 = 0 → w'.ownsRow w.heap.size 86 4 u1 (Acre.edgesOf (readP a).1).length (flatE (Acre.edgesOf (readP a).1)) ∧ w'.ownsRow w.heap.size 86 4 u2 (Acre.edgesOf (readP b).1).length (flatE (Acre.edgesOf (readP b).1)))
set_option maxRecDepth 100000 in
set_option maxHeartbeats 1000000 in
theorem askedE_any (a b : ByteArray) (op : Int) (w : World) : Calls Tryz.prog 7 #[.string a, .string b, .int .i64 op] w (AkPost a b op w) := by
  have HA := hide (fun V => rread_any a V)
  have HB := hide (fun V => rread_any b V)
  unfold RReadPost at HA HB
  rw [← reads_same] at HA HB
  have HFa := hide (read_field (s := a))
  have HFb := hide (read_field (s := b))
  obtain ⟨X, hX⟩ : ∃ X, readP a = X := ⟨_, rfl⟩
  obtain ⟨Y, hY⟩ : ∃ Y, readP b = Y := ⟨_, rfl⟩
  have HE : Hid (errP a b op = if X.2.1 = 0 then if Y.2.1 = 0 then if op < 0 ∨ 3 < op then (6, 0) else (0, 0) else (Y.2.1, wrap64 (Y.2.2 + 1000)) else X.2) := hide (by unfold errP; rw [hX, hY])
  rw [hX] at HA HFa
  rw [hY] at HB HFb
  have HRa := hide (show (readP a).1 = X.1 by rw [hX])
  have HRb := hide (show (readP b).1 = Y.1 by rw [hY])
  clear hX hY
  obtain ⟨R, x1, x2⟩ := X
  obtain ⟨S, y1, y2⟩ := Y
  dsimp only at HA HB HFa HFb HE HRa HRb
  have E1 : Hid (¬ x1 = 0 → errP a b op = (x1, x2)) := hide (fun h => by rw [HE.out, if_neg h])
  have E2 : Hid (x1 = 0 → ¬ y1 = 0 → errP a b op = (y1, wrap64 (y2 + 1000))) := hide (fun h h2 => by rw [HE.out, if_pos h, if_neg h2])
  have E3 : Hid (x1 = 0 → y1 = 0 → op < 0 ∨ 3 < op → errP a b op = (6, 0)) := hide (fun h h2 h3 => by rw [HE.out, if_pos h, if_pos h2, if_pos h3])
  have E4 : Hid (x1 = 0 → y1 = 0 → ¬ (op < 0 ∨ 3 < op) → errP a b op = (0, 0)) := hide (fun h h2 h3 => by rw [HE.out, if_pos h, if_pos h2, if_neg h3])
  clear HE
  go_enter Tryz.func7, Tryz.ntmps7
  go_wp2_with fail
  refine (HA.out _).mono ?_
  rintro e V1 ⟨u1, rfl, hr1, hb1⟩
  by_cases hx : x1 = 0
  · subst hx
    have hFa := HFa.out rfl
    have Hr1 := hide hr1
    have Hb1 := hide hb1
    clear hr1 hb1
    go_wp2_with fail
    refine (HB.out _).mono ?_
    rintro e V2 ⟨u2, rfl, hr2, hb2⟩
    have Hb2 := hide (below_call hb2 Hb1.out)
    have Hr2 := hide hr2
    have Hr3 := hide (Hr1.out.later hb2)
    clear hr2 hb2
    by_cases hy : y1 = 0
    · subst hy
      have hFb := HFb.out rfl
      by_cases ho : op < 0 ∨ 3 < op
      · have HE2 := hide (E3.out (by simp) (by simp) ho)
        clear E1 E2 E3 E4
        rcases ho with ho | ho
        · go_wp2
          refine bodyPost_ret (v := .tuple #[.slice none 0 0, .slice none 0 0, .int .i64 6, .int .i64 0]) ?_ rfl ⟨Hb2.out, _, _, by rw [HE2.out], fun h => by rw [HE2.out] at h; exact absurd h (by first | decide | assumption)⟩
          · simp [results, Tryz.results7, go_sem]
        · have ho2 : ¬ op < 0 := by omega
          go_wp2
          refine bodyPost_ret (v := .tuple #[.slice none 0 0, .slice none 0 0, .int .i64 6, .int .i64 0]) ?_ rfl ⟨Hb2.out, _, _, by rw [HE2.out], fun h => by rw [HE2.out] at h; exact absurd h (by first | decide | assumption)⟩
          · simp [results, Tryz.results7, go_sem]
      · have HE2 := hide (E4.out (by simp) (by simp) ho)
        have ho1 : ¬ op < 0 := by omega
        have ho2 : ¬ 3 < op := by omega
        clear E1 E2 E3 E4 ho
        have HEd := hide (fun V (h : Rings V u1 R) => rEdges_any R u1 V h hFa)
        have HEe := hide (fun V (h : Rings V u2 S) => rEdges_any S u2 V h hFb)
        clear hFa hFb
        go_wp2_with fail
        refine (HEd.out _ Hr3.out).mono ?_
        rintro e V3 ⟨u3, rfl, hrw3, hb3⟩
        have HRw3 := hide hrw3
        clear hrw3
        have Hb3 := hide (below_call hb3 Hb2.out)
        have Hr4 := hide (Hr2.out.later hb3)
        clear hb3
        go_wp2_with fail
        refine (HEe.out _ Hr4.out).mono ?_
        rintro e V4 ⟨u4, rfl, hrw4, hb4⟩
        have HX := hide (show V4.ownsRow w.heap.size 86 4 u3 (Acre.edgesOf (readP a).1).length (flatE (Acre.edgesOf (readP a).1)) by rw [HRa.out]; exact row_base (row_call HRw3.out hb4) Hb2.out.size)
        have HY2 := hide (show V4.ownsRow w.heap.size 86 4 u4 (Acre.edgesOf (readP b).1).length (flatE (Acre.edgesOf (readP b).1)) by rw [HRb.out]; exact row_base hrw4 Hb3.out.size)
        clear hrw4 HRw3
        have Hb4 := hide (below_call hb4 Hb3.out)
        clear hb4
        go_wp2
        refine bodyPost_ret (v := .tuple #[u3, u4, .int .i64 0, .int .i64 0]) ?_ rfl ⟨Hb4.out, _, _, by rw [HE2.out], fun _ => ⟨HX.out, HY2.out⟩⟩
        · simp [results, Tryz.results7, go_sem]
    · have HE2 := hide (E2.out (by simp) hy)
      clear E1 E2 E3 E4
      go_wp2
      refine bodyPost_ret (v := .tuple #[.slice none 0 0, .slice none 0 0, .int .i64 y1, .int .i64 (wrap64 (y2 + 1000))]) ?_ rfl ⟨Hb2.out, _, _, by rw [HE2.out], fun h => by rw [HE2.out] at h; exact absurd h (by first | decide | assumption)⟩
      · simp [results, Tryz.results7, go_sem, wrap64]
  · have HE2 := hide (E1.out hx)
    have Hb1 := hide hb1
    clear E1 E2 E3 E4 hb1
    go_wp2
    refine bodyPost_ret (v := .tuple #[.slice none 0 0, .slice none 0 0, .int .i64 x1, .int .i64 x2]) ?_ rfl ⟨Hb1.out, _, _, by rw [HE2.out], fun h => by rw [HE2.out] at h; exact absurd h (by first | decide | assumption)⟩
    · simp [results, Tryz.results7, go_sem]
end Go.Proofs.YtkjlkbgdkdcboaaGreatDoor
