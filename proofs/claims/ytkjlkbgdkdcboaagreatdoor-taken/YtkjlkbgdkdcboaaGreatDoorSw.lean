import Derived.Test.YtkjlkbgdkdcboaaGreatDoorWtA
import Derived.Test.YtkjlkbgdkdcboaaGreatDoorWf
set_option linter.unusedSimpArgs false
set_option linter.unusedVariables false
namespace Go.Proofs.YtkjlkbgdkdcboaaGreatDoor
open Go.RowKit Go.Maps
attribute [local go_sem ↓] Go.wp_at_zero Go.wp_at_succ

structure SlowPost (a b : ByteArray) (op : Int) (w : World) (e : Ending) (w' : World) : Prop where
  bel : Below w.heap.size w w'
  out : ((errP a b op).1 ≠ 0 ∧ e = .returned (.tuple #[.string ⟨#[]⟩, .int .i64 (errP a b op).1, .int .i64 (errP a b op).2])) ∨
    ((errP a b op).1 = 0 ∧ ∃ s : ByteArray, e = .returned (.tuple #[.string s, .int .i64 0, .int .i64 0]) ∧ s.data.toList = certT ((cutAB a b op).map (wrOf (pairE a b))))

def SwS (V1 : World) (P : Nat) (s : Value) (kk op : Int) (W : World) : Prop := W.cell? ⟨P, 0, none⟩ = some s ∧ W.cell? ⟨P, 1, none⟩ = some (.int .i64 kk) ∧ W.cell? ⟨P, 2, none⟩ = some (.int .i64 op) ∧ Below P V1 W
theorem below_call' {V1 V W : World} {P : Nat} (hP : V1.heap.size = P) (hb : Below V.heap.size V W) (h : Below P V1 V) : Below P V1 W := by subst hP; exact below_call hb h
theorem SwS.call {V1 V W : World} {P : Nat} {s : Value} {kk op : Int} (hP : V1.heap.size = P) (hb : Below V.heap.size V W) (h : SwS V1 P s kk op V) : SwS V1 P s kk op W :=
  ⟨cell_later hb h.1, cell_later hb h.2.1, cell_later hb h.2.2.1, below_call' hP hb h.2.2.2⟩

set_option maxRecDepth 100000 in
set_option maxHeartbeats 1000000 in
theorem slow_any (HWC : ∀ (E : List Acre.Ed) (ps : List Acre.Pc) (u v : Value) (b1 b2 : Nat) (w : World) (hP : w.ownsRow b1 44 12 v ps.length (flatP ps)) (hE : w.ownsRow b2 42 4 u E.length (flatE E))
    (hsm : ∀ e ∈ E, SmE e) (hEl : E.length ≤ 24) (hpl : ps.length ≤ 4000) (hpe : ∀ p ∈ ps, p.2.1 ∈ E ∧ p.2.2 ∈ E) (hpc : ∀ p ∈ ps, CutOk p.1.1 ∧ CutOk p.1.2) (ht : Tab w),
    Calls Tryz.prog 14 #[v, u] w fun e w' => ∃ s : ByteArray, e = .returned (.string s) ∧ s.data.toList = certT (ps.map (wrOf E)) ∧ Below w.heap.size w w')
    (a b : ByteArray) (op : Int) (w : World) (ht : Tab w) :
    Calls Tryz.prog 6 #[.string a, .string b, .int .i64 op] w fun e w' => SlowPost a b op w e w' := by
  have HOK := hide (fun h : (errP a b op).1 = 0 => pair_ok h)
  have HCut : Hid (cutAB a b op = Acre.joinAll (Acre.bandsP (pairE a b) (Acre.edgesOf (readP a).1).length op) (Acre.cutsP (pairE a b) [])) := hide rfl
  have HRP := hide (readPair_any a b op w)
  obtain ⟨er, her⟩ : ∃ er, errP a b op = er := ⟨_, rfl⟩
  rw [her] at HRP HOK
  have HER := hide her
  obtain ⟨e1, e2⟩ := er
  obtain ⟨E, hEE⟩ : ∃ E, pairE a b = E := ⟨_, rfl⟩
  obtain ⟨kk, hkkk⟩ : ∃ kk, (Acre.edgesOf (readP a).1).length = kk := ⟨_, rfl⟩
  obtain ⟨cut, hcut⟩ : ∃ cut, cutAB a b op = cut := ⟨_, rfl⟩
  rw [hEE, hkkk] at HOK
  rw [hEE, hkkk, hcut] at HCut
  have HCC := hide hcut
  have HEE := hide hEE
  have HKK := hide hkkk
  have HW := hide HWC
  clear hEE hkkk her hcut HWC
  go_enter Tryz.func6, Tryz.ntmps6
  go_wp2_with fail
  refine HRP.out.mono ?_
  rintro e V1 ⟨pv, rfl, hpost⟩
  have hb1 := hpost.bel
  have hyes := hpost.yes
  obtain ⟨sp, sn, sc, sk, so, rfl⟩ := hpost.form
  rw [HER.out, HEE.out, HKK.out] at hyes
  dsimp only at hyes
  clear hpost
  by_cases he : e1 = 0
  · subst he
    obtain ⟨u, hpv, hE⟩ := hyes rfl
    simp only [Value.agg.injEq, Array.mk.injEq, List.cons.injEq, Value.int.injEq, true_and, and_true] at hpv
    obtain ⟨hu1, hk1, ho1⟩ := hpv
    have hk2 := hk1.symm
    have ho2 := ho1.symm
    have hu2 := hu1.symm
    subst hu2 ho2
    rw [hk1] at *
    obtain ⟨F, hsm, hEl, hkk⟩ := HOK.out rfl
    have hok := cut_ok F kk op
    have hcl := cut_len (E := E) kk op hEl
    rw [← HCut.out] at hok hcl
    have HK := hide (fun V (hb : Below V1.heap.size V1 V) => cut_any E (.slice sp sn sc) _ kk op V F (row_call hE hb) hsm hEl hkk)
    rw [← HCut.out] at HK
    have HWr := hide (fun V v b1 (hP : V.ownsRow b1 44 12 v cut.length (flatP cut)) (hb : Below V1.heap.size V1 V) => HW.out E cut (.slice sp sn sc) v b1 _ V hP (row_call hE hb) hsm hEl (by omega) (fun p hp => ⟨(hok.1 p hp).lo.1, (hok.1 p hp).hi.1⟩) hok.2 (tab_later (tab_later ht hb1) hb))
    have bP := Box.new V1 [.slice sp sn sc, .int .i64 kk, .int .i64 op] 48
    have q1 := below1 V1 (.cells #[.slice sp sn sc, .int .i64 kk, .int .i64 op] 48)
    have Hb1 := hide hb1
    clear hyes hE hb1 F hsm hEl hkk HRP hk1 hk2 hu1 ho1 hok hcl
    go_upto_region 4 with fail
    generalize V1.alloc (.cells #[.slice sp sn sc, .int .i64 kk, .int .i64 op] 48) = W1 at *
    have hS : SwS V1 V1.heap.size (.slice sp sn sc) kk op W1.drew := ⟨(bP.later (by simp) (Below.drew (Below.refl _ _))).c 0 _ rfl, (bP.later (by simp) (Below.drew (Below.refl _ _))).c 1 _ rfl, (bP.later (by simp) (Below.drew (Below.refl _ _))).c 2 _ rfl, below_call (Below.drew (Below.refl _ _)) q1⟩
    have q2 := below_call (Below.drew (Below.refl _ _)) q1
    generalize hPV : V1.heap.size = P at *
    go_region_held3 (fun W => W.cell? ⟨P, 0, none⟩ = some (.slice sp sn sc) ∧ W.cell? ⟨P, 1, none⟩ = some (.int .i64 kk) ∧ W.cell? ⟨P, 2, none⟩ = some (.int .i64 op) ∧ Below P V1 W)
      ((show SwS V1 P (.slice sp sn sc) kk op _
        first
          | exact hS
          | (refine SwS.call hPV hb' ?_; assumption)
          | assumption))
      ((first
        | (go_at_call 15
           refine (HK.out _ q2).mono ?_
           rintro e w'' ⟨v3, rfl, hrow3, hb'⟩
           have q3 := below_call' hPV hb' q2)
        | (go_at_call 14
           refine (HWr.out _ _ _ hrow3 q3).mono ?_
           rintro e w'' ⟨s, rfl, hs, hb'⟩
           have q4 := below_call' hPV hb' q3)))
    subst hPV
    have Hb4 := hide (below_call q4 Hb1.out)
    have Hs := hide hs
    clear q4 q3 q2 q1 hs hb' hrow3 bP hS HK HWr
    go_wp2
    refine bodyPost_ret (v := .tuple #[.string s, .int .i64 0, .int .i64 0]) ?_ rfl ?_
    · simp [results, Tryz.results6, go_sem]
    · exact ⟨Hb4.out, .inr ⟨by rw [HER.out], s, rfl, by rw [HCC.out, HEE.out]; exact Hs.out⟩⟩
  · have hyes2 := hide hyes
    have Hb1 := hide hb1
    clear hyes hb1
    go_wp2
    refine bodyPost_ret (v := .tuple #[.string ⟨#[]⟩, .int .i64 e1, .int .i64 e2]) ?_ rfl ?_
    · simp [results, Tryz.results6, go_sem]
    · refine ⟨bA Hb1.out, .inl ⟨?_, ?_⟩⟩
      · rw [HER.out]; exact he
      · rw [HER.out]

theorem err_zero {a b : ByteArray} {op : Int} (h : (errP a b op).1 = 0) : (errP a b op).2 = 0 := by
  unfold errP at h ⊢
  repeat' split at h
  all_goals (first | rfl | (simp at h; done) | (split <;> first | rfl | contradiction) | skip)
/-- writeCert's contract -/
def WCok : Prop := ∀ (E : List Acre.Ed) (ps : List Acre.Pc) (u v : Value) (b1 b2 : Nat) (w : World) (hP : w.ownsRow b1 44 12 v ps.length (flatP ps)) (hE : w.ownsRow b2 42 4 u E.length (flatE E))
    (hsm : ∀ e ∈ E, SmE e) (hEl : E.length ≤ 24) (hpl : ps.length ≤ 4000) (hpe : ∀ p ∈ ps, p.2.1 ∈ E ∧ p.2.2 ∈ E) (hpc : ∀ p ∈ ps, CutOk p.1.1 ∧ CutOk p.1.2) (ht : Tab w),
    Calls Tryz.prog 14 #[v, u] w fun e w' => ∃ s : ByteArray, e = .returned (.string s) ∧ s.data.toList = certT (ps.map (wrOf E)) ∧ Below w.heap.size w w'

end Go.Proofs.YtkjlkbgdkdcboaaGreatDoor
