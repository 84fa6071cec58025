import Derived.Test.YtkjlkbgdkdcboaaGreatDoorWtA
import Derived.Test.YtkjlkbgdkdcboaaGreatDoorChk
set_option linter.unusedSimpArgs false
set_option linter.unusedVariables false
namespace Go.Proofs.YtkjlkbgdkdcboaaGreatDoor
open Go.RowKit Go.Maps
attribute [local go_sem ↓] Go.wp_at_zero Go.wp_at_succ

structure CkPost (a b : ByteArray) (op : Int) (c : ByteArray) (w : World) (e : Ending) (w' : World) : Prop where
  bel : Below w.heap.size w w'
  out : ((errP a b op).1 ≠ 0 ∧ e = .returned (.tuple #[.int .i64 (errP a b op).1, .int .i64 (errP a b op).2])) ∨
    ((errP a b op).1 = 0 ∧ ∃ err at' : Int, e = .returned (.tuple #[.int .i64 err, .int .i64 at']) ∧ (err = 0 ↔ (checkP c (pairE a b) (Acre.edgesOf (readP a).1).length op).isSome = true))

set_option maxRecDepth 100000 in
set_option maxHeartbeats 1000000 in
theorem acheck_any (a b : ByteArray) (op : Int) (c : ByteArray) (w : World) :
    Calls Tryz.prog 11 #[.string a, .string b, .int .i64 op, .string c] w fun e w' => CkPost a b op c w e w' := by
  have HOK := hide (fun h : (errP a b op).1 = 0 => pair_ok h)
  have HRP := hide (readPair_any a b op w)
  obtain ⟨er, her⟩ : ∃ er, errP a b op = er := ⟨_, rfl⟩
  rw [her] at HRP HOK
  have HER := hide her
  obtain ⟨e1, e2⟩ := er
  obtain ⟨E, hEE⟩ : ∃ E, pairE a b = E := ⟨_, rfl⟩
  obtain ⟨kk, hkkk⟩ : ∃ kk, (Acre.edgesOf (readP a).1).length = kk := ⟨_, rfl⟩
  rw [hEE, hkkk] at HOK
  have HEE := hide hEE
  have HKK := hide hkkk
  clear hEE hkkk her
  go_enter Tryz.func11, Tryz.ntmps11
  go_wp2_with fail
  refine HRP.out.mono ?_
  rintro e V1 ⟨pv, rfl, hpost⟩
  have hb1 := hpost.bel
  have hyes := hpost.yes
  obtain ⟨sp, sn, sc, sk, so, rfl⟩ := hpost.form
  rw [HER.out, HEE.out, HKK.out] at hyes
  dsimp only at hyes
  clear hpost
  by_cases he : e1 = 0
  · subst he
    obtain ⟨u, hpv, hE⟩ := hyes rfl
    simp only [Value.agg.injEq, Array.mk.injEq, List.cons.injEq, Value.int.injEq, true_and, and_true] at hpv
    obtain ⟨hu1, hk1, ho1⟩ := hpv
    have hk2 := hk1.symm
    have ho2 := ho1.symm
    have hu2 := hu1.symm
    subst hu2 ho2
    rw [hk1] at *
    obtain ⟨F, hsm, hEl, hkk⟩ := HOK.out rfl
    have HC := hide (fun V (hb : Below V1.heap.size V1 V) => check_any c E (.slice sp sn sc) _ kk op V F (row_call hE hb) hsm hEl hkk)
    have q1 := below1 V1 (.cells #[.slice sp sn sc, .int .i64 kk, .int .i64 op] 48)
    have Hb1 := hide hb1
    clear hyes hE hb1 F hsm hEl hkk HRP hk1 hk2 hu1 ho1
    go_wp2_with fail
    generalize V1.alloc (.cells #[.slice sp sn sc, .int .i64 kk, .int .i64 op] 48) = W1 at *
    refine (HC.out W1 q1).mono ?_
    rintro e V2 ⟨hb2, hout⟩
    have Hb3 := hide (below_call (below_call hb2 q1) Hb1.out)
    clear q1 hb2
    rcases hout with ⟨v, err, at', hno, herr, rfl⟩ | ⟨v, ps, hps, rfl, hrow⟩
    · have HN := hide hno
      have He := hide herr
      clear hno herr
      go_wp2
      refine bodyPost_ret (v := .tuple #[.int .i64 err, .int .i64 at']) ?_ rfl ?_
      · simp [results, Tryz.results11, go_sem]
      · refine ⟨Hb3.out, .inr ⟨by rw [HER.out], err, at', rfl, ?_⟩⟩
        rw [HEE.out, HKK.out, HN.out]
        exact ⟨fun h => absurd h He.out, fun h => by simp at h⟩
    · have HN := hide hps
      clear hps hrow
      go_wp2
      refine bodyPost_ret (v := .tuple #[.int .i64 0, .int .i64 0]) ?_ rfl ?_
      · simp [results, Tryz.results11, go_sem]
      · refine ⟨Hb3.out, .inr ⟨by rw [HER.out], 0, 0, rfl, ?_⟩⟩
        rw [HEE.out, HKK.out, HN.out]
        exact ⟨fun _ => rfl, fun _ => rfl⟩
  · have hyes2 := hide hyes
    have Hb1 := hide hb1
    clear hyes hb1
    go_wp2
    refine bodyPost_ret (v := .tuple #[.int .i64 e1, .int .i64 e2]) ?_ rfl ?_
    · simp [results, Tryz.results11, go_sem]
    · refine ⟨bA Hb1.out, .inl ⟨?_, ?_⟩⟩
      · rw [HER.out]; exact he
      · rw [HER.out]

end Go.Proofs.YtkjlkbgdkdcboaaGreatDoor
