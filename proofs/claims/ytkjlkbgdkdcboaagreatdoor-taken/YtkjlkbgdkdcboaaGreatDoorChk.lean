import Derived.Test.YtkjlkbgdkdcboaaGreatDoorWtA
import Derived.Test.YtkjlkbgdkdcboaaGreatDoorFillP
set_option linter.unusedSimpArgs false
set_option linter.unusedVariables false

set_option linter.unusedSimpArgs false
set_option linter.unusedVariables false

namespace Go.Proofs.YtkjlkbgdkdcboaaGreatDoor
open Go.RowKit Go.Maps
attribute [local go_sem ↓] Go.wp_at_zero Go.wp_at_succ

structure ChkPost (s : ByteArray) (E : List Acre.Ed) (kk : Nat) (op : Int) (w : World) (e : Ending) (w' : World) : Prop where
  bel : Below w.heap.size w w'
  out : (∃ v err a, checkP s E kk op = none ∧ err ≠ 0 ∧ e = .returned (.tuple #[v, .int .i64 err, .int .i64 a])) ∨ (∃ v ps, checkP s E kk op = some ps ∧ e = .returned (.tuple #[v, .int .i64 0, .int .i64 0]) ∧ w'.ownsRow w.heap.size 44 12 v ps.length (flatP ps))

set_option maxRecDepth 100000 in
set_option maxHeartbeats 1000000 in
theorem check_any (s : ByteArray) (E : List Acre.Ed) (u : Value) (base kk : Nat) (op : Int) (w : World) (F : Acre.Fld E) (hE : w.ownsRow base 42 4 u E.length (flatE E)) (hsm : ∀ e ∈ E, SmE e) (hEl : E.length ≤ 24) (hkk : kk ≤ 24) :
    Calls Tryz.prog 22 #[.agg #[u, .int .i64 kk, .int .i64 op], .string s] w fun e w' => ChkPost s E kk op w e w' := by
  by_cases hs : 200000 < s.size
  · have hs2 : (200000 : Int) < (s.size : Int) := by omega
    have HC := hide (show checkP s E kk op = none by unfold checkP; rw [if_pos hs])
    obtain ⟨ga, gb, gcap, rfl, hga, hcap⟩ := row_form hE
    go_enter Tryz.func22, Tryz.ntmps22
    have q1 := below1 w (.cells #[.slice ga E.length gcap, .int .i64 kk, .int .i64 op] 48)
    have HQ := hide q1
    clear q1
    go_wp2
    refine bodyPost_ret (v := .tuple #[.slice none 0 0, .int .i64 1, .int .i64 0]) ?_ rfl ?_
    · simp [results, Tryz.results22, go_sem]
    exact ⟨HQ.out, .inl ⟨_, _, _, HC.out, by decide, rfl⟩⟩
  · have hs2 : ¬ (200000 : Int) < (s.size : Int) := by omega
    have HD : Hid (checkP s E kk op = (certC s E).bind fun ps => if Acre.filledP E kk op ps = true then some ps else none) := hide (by unfold checkP; rw [if_neg hs])
    obtain ⟨ga, gb, gcap, rfl, hga, hcap⟩ := row_form hE
    have q1 := below1 w (.cells #[.slice ga E.length gcap, .int .i64 kk, .int .i64 op] 48)
    have bP := Box.new w [.slice ga E.length gcap, .int .i64 kk, .int .i64 op] 48
    go_enter Tryz.func22, Tryz.ntmps22
    go_upto_region 3 with fail
    generalize w.alloc (.cells #[.slice ga E.length gcap, .int .i64 kk, .int .i64 op] 48) = V0 at *
    have c0 := bP.c 0 _ rfl
    go_wp2_with fail
    refine (readCert_any s E _ base V0 (by omega) (row_call hE q1) hEl).mono ?_
    rintro e V1 ⟨hb1, hout⟩
    have bP1 := bP.later (by simp) hb1
    have q2 := below_call hb1 q1
    rcases hout with ⟨v, a, hno, rfl⟩ | ⟨v, ps, hps, rfl, hrow⟩
    · have HN := hide (show checkP s E kk op = none by rw [HD.out, hno]; rfl)
      have HQ := hide q2
      clear q1 q2 hb1 hno
      go_wp2
      refine bodyPost_ret (v := .tuple #[.slice none 0 0, .int .i64 7, .int .i64 a]) ?_ rfl ?_
      · simp [results, Tryz.results22, go_sem]
      exact ⟨HQ.out, .inl ⟨_, _, _, HN.out, by decide, rfl⟩⟩
    · obtain ⟨pa, pb, pcap, rfl, _, _⟩ := row_form hrow
      have hg := certC_good hps
      have HF := hide (callsIn_wide.1 (pairFilled_in E _ base kk op ps _ _ V1 F (row_call hE q2) hrow hsm hEl hkk hg.2.2 hg.1 hg.2.1))
      have e0 := bP1.c 0 _ rfl
      have e1 := bP1.c 1 _ rfl
      have e2 := bP1.c 2 _ rfl
      have Hrow := hide (row_base hrow q1.size)
      have HQ := hide q2
      have HPS := hide hps
      clear hrow hg hps q1 q2 hb1 c0
      cases hfl : Acre.filledP E kk op ps
      · have HN := hide (show checkP s E kk op = none by rw [HD.out, HPS.out]; show (if Acre.filledP E kk op ps = true then some ps else none) = none; rw [hfl]; rfl)
        rw [hfl] at HF
        clear hfl
        go_wp2_with fail
        refine HF.out.mono ?_
        rintro e V2 ⟨rfl, hb2⟩
        have HQ2 := hide (below_call hb2 HQ.out)
        clear hb2 HQ
        go_wp2
        refine bodyPost_ret (v := .tuple #[.slice none 0 0, .int .i64 8, .int .i64 0]) ?_ rfl ?_
        · simp [results, Tryz.results22, go_sem]
        exact ⟨HQ2.out, .inl ⟨_, _, _, HN.out, by decide, rfl⟩⟩
      · have HN := hide (show checkP s E kk op = some ps by rw [HD.out, HPS.out]; show (if Acre.filledP E kk op ps = true then some ps else none) = some ps; rw [hfl]; rfl)
        rw [hfl] at HF
        clear hfl
        go_wp2_with fail
        refine HF.out.mono ?_
        rintro e V2 ⟨rfl, hb2⟩
        have HQ2 := hide (below_call hb2 HQ.out)
        have Hrow2 := hide (row_call Hrow.out hb2)
        clear hb2 HQ Hrow
        go_wp2
        refine bodyPost_ret (v := .tuple #[.slice pa ps.length pcap, .int .i64 0, .int .i64 0]) ?_ rfl ?_
        · simp [results, Tryz.results22, go_sem]
        exact ⟨HQ2.out, .inr ⟨_, ps, HN.out, rfl, Hrow2.out⟩⟩

structure CombPost (a b : ByteArray) (op : Int) (offer : ByteArray) (w : World) (e : Ending) (w' : World) : Prop where
  bel : Below w.heap.size w w'
  out : ((errP a b op).1 ≠ 0 ∧ e = .returned (.tuple #[.slice none 0 0, .int .i64 (errP a b op).1, .int .i64 (errP a b op).2])) ∨
    ((errP a b op).1 = 0 ∧ ∃ v, e = .returned (.tuple #[v, .int .i64 0, .int .i64 0]) ∧ w'.ownsRow w.heap.size 44 12 v (combP a b op offer).length (flatP (combP a b op offer)))

set_option maxRecDepth 100000 in
set_option maxHeartbeats 1000000 in
theorem combine_any (a b : ByteArray) (op : Int) (offer : ByteArray) (w : World) (F : (errP a b op).1 = 0 → Acre.Fld (pairE a b)) (hsm : (errP a b op).1 = 0 → ∀ e ∈ pairE a b, SmE e) (hEl : (errP a b op).1 = 0 → (pairE a b).length ≤ 24) (hkk : (errP a b op).1 = 0 → (Acre.edgesOf (readP a).1).length ≤ 24) :
    Calls Tryz.prog 12 #[.string a, .string b, .int .i64 op, .string offer] w fun e w' => CombPost a b op offer w e w' := by
  have HCp : Hid (∀ x, checkP offer (pairE a b) (Acre.edgesOf (readP a).1).length op = x → combP a b op offer = match x with | some ps => ps | none => Acre.joinAll (Acre.bandsP (pairE a b) (Acre.edgesOf (readP a).1).length op) (Acre.cutsP (pairE a b) [])) := hide (fun x hx => by unfold combP; rw [hx]; cases x <;> rfl)
  have HRP := hide (readPair_any a b op w)
  obtain ⟨er, her⟩ : ∃ er, errP a b op = er := ⟨_, rfl⟩
  rw [her] at HRP F hsm hEl hkk
  have HER := hide her
  obtain ⟨e1, e2⟩ := er
  dsimp only at F hsm hEl hkk
  obtain ⟨E, hEE⟩ : ∃ E, pairE a b = E := ⟨_, rfl⟩
  obtain ⟨kk, hkkk⟩ : ∃ kk, (Acre.edgesOf (readP a).1).length = kk := ⟨_, rfl⟩
  rw [hEE, hkkk] at HCp
  rw [hEE] at F hsm hEl
  rw [hkkk] at hkk
  have HEE := hide hEE
  have HKK := hide hkkk
  clear hEE hkkk her
  go_enter Tryz.func12, Tryz.ntmps12
  go_wp2_with fail
  refine HRP.out.mono ?_
  rintro e V1 ⟨pv, rfl, hpost⟩
  have hb1 := hpost.bel
  have hyes := hpost.yes
  obtain ⟨sp, sn, sc, sk, so, rfl⟩ := hpost.form
  rw [HER.out, HEE.out, HKK.out] at hyes
  dsimp only at hyes
  clear hpost
  by_cases he : e1 = 0
  · subst he
    obtain ⟨u, hpv, hE⟩ := hyes rfl
    simp only [Value.agg.injEq, Array.mk.injEq, List.cons.injEq, Value.int.injEq, true_and, and_true] at hpv
    obtain ⟨hu1, hk1, ho1⟩ := hpv
    have hk2 := hk1.symm
    have ho2 := ho1.symm
    have hu2 := hu1.symm
    subst hu2 ho2
    rw [hk1] at *
    have F := F rfl
    have hsm := hsm rfl
    have hEl := hEl rfl
    have hkk := hkk rfl
    have HC := hide (fun V (hb : Below V1.heap.size V1 V) => check_any offer E (.slice sp sn sc) _ kk op V F (row_call hE hb) hsm hEl hkk)
    have HK := hide (fun V (hb : Below V1.heap.size V1 V) => cut_any E (.slice sp sn sc) _ kk op V F (row_call hE hb) hsm hEl hkk)
    have bP := Box.new V1 [.slice sp sn sc, .int .i64 kk, .int .i64 op] 48
    have q1 := below1 V1 (.cells #[.slice sp sn sc, .int .i64 kk, .int .i64 op] 48)
    have Hb1 := hide hb1
    clear hyes hE hb1 F hsm hEl hkk HRP hk1 hk2 hu1 ho1
    go_wp2_with fail
    generalize V1.alloc (.cells #[.slice sp sn sc, .int .i64 kk, .int .i64 op] 48) = W1 at *
    refine (HC.out W1 q1).mono ?_
    rintro e V2 ⟨hb2, hout⟩
    have bP2 := bP.later (by simp) hb2
    have q2 := below_call hb2 q1
    have Hq2 := hide q2
    have HW1 := hide q1.size
    clear q1 q2 hb2 bP
    rcases hout with ⟨v, err, at', hno, herr, rfl⟩ | ⟨v, ps, hps, rfl, hrow⟩
    · have HCv := hide (HCp.out _ hno)
      have e0 := bP2.c 0 _ rfl
      have e1 := bP2.c 1 _ rfl
      have e2' := bP2.c 2 _ rfl
      have HKV := hide (HK.out V2 Hq2.out)
      clear hno HC HK
      go_wp2_with fail
      refine HKV.out.mono ?_
      rintro e V3 ⟨v3, rfl, hrow3, hb3⟩
      have Hrow := hide (row_base hrow3 (Nat.le_trans Hb1.out.size Hq2.out.size))
      have Hb3 := hide (below_call hb3 (below_call Hq2.out Hb1.out))
      clear hrow3 hb3
      go_wp2
      refine bodyPost_ret (v := .tuple #[v3, .int .i64 0, .int .i64 0]) ?_ rfl ?_
      · simp [results, Tryz.results12, go_sem]
      · refine ⟨Hb3.out, .inr ⟨by rw [HER.out], v3, rfl, ?_⟩⟩
        rw [HCv.out]
        exact Hrow.out
    · have HCv := hide (HCp.out _ hps)
      have Hrow := hide (row_base hrow (Nat.le_trans Hb1.out.size HW1.out))
      have Hb3 := hide (below_call Hq2.out Hb1.out)
      clear hps hrow HC HK
      go_wp2
      refine bodyPost_ret (v := .tuple #[v, .int .i64 0, .int .i64 0]) ?_ rfl ?_
      · simp [results, Tryz.results12, go_sem]
      · refine ⟨Hb3.out, .inr ⟨by rw [HER.out], v, rfl, ?_⟩⟩
        rw [HCv.out]
        exact Hrow.out
  · have hyes2 := hide hyes
    have Hb1 := hide hb1
    clear hyes hb1
    go_wp2
    refine bodyPost_ret (v := .tuple #[.slice none 0 0, .int .i64 e1, .int .i64 e2]) ?_ rfl ?_
    · simp [results, Tryz.results12, go_sem]
    · refine ⟨bA Hb1.out, .inl ⟨?_, ?_⟩⟩
      · rw [HER.out]; exact he
      · rw [HER.out]

end Go.Proofs.YtkjlkbgdkdcboaaGreatDoor

