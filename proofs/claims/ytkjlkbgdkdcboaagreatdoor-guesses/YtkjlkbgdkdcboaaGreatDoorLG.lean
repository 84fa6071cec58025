import Derived.Test.YtkjlkbgdkdcboaaGreatDoorSg
import Derived.Test.YtkjlkbgdkdcboaaGreatDoorPaA
import Derived.Test.YtkjlkbgdkdcboaaGreatDoorLW
import Derived.Test.YtkjlkbgdkdcboaaGreatDoorCK

set_option linter.unusedSimpArgs false
set_option linter.unusedVariables false

set_option linter.unusedSimpArgs false
set_option linter.unusedVariables false
namespace Go.Proofs.YtkjlkbgdkdcboaaGreatDoor
open Go.RowKit Go.Maps
attribute [local go_sem ↓] Go.wp_at_zero Go.wp_at_succ
theorem enter38 (args : Array Value) (w : World) : (callFunc 38 args).run Tryz.prog w = .ok (.enter 38 args) w := by
  simp [go_sem, Tryz.func38]
theorem sweep_seq (E : List Acre.Ed) (u : Value) (base kk : Nat) (op : Int) (BP : Nat) (w : World) (bP : w.heap[BP]? = some (.cells #[u, .int .i64 kk, .int .i64 op] 48 (0, 0)))
    (hE : w.ownsRow base 42 4 u E.length (flatE E)) (hgr : ∀ e ∈ E, Acre.onGrid e.1 = true ∧ Acre.onGrid e.2 = true) (hEl : E.length ≤ 24) (hkk : kk ≤ 24) :
    SeqT Fence.wide 18 Tryz.prog 38 #[.pointer (some ⟨BP, 0, none⟩)] (fun x : Gs => #[gsV x]) KeepI (fun x W => GlV W E x) (SpG E) (SpG E) 324 w := by
  intro l J Jx W hb hJ _ hY h0
  exact sweep1_in 18 (by omega) l BP base E u kk op J Jx hY W hJ (below_heap hb bP) (row_call hE hb) hgr hEl hkk h0
theorem gps_ok {E : List Acre.Ed} : ∀ (xs : List Gs), (∀ x ∈ xs, x.2.2.length ≤ 24 ∧ (∀ y ∈ x.2.2, y.1 ∈ E) ∧ FrB x.1.1 ∧ FrB x.1.2) → ∀ p ∈ gps xs, (p.2.1 ∈ E ∧ p.2.2 ∈ E) ∧ FrB p.1.1 ∧ FrB p.1.2 := by
  have hB : ∀ (f t : Acre.Fc) (l : List (Acre.Ed × Acre.Ed)) (ps : List Acre.Pc), (∀ b ∈ l, b.1 ∈ E ∧ b.2 ∈ E) → FrB f → FrB t → (∀ p ∈ ps, (p.2.1 ∈ E ∧ p.2.2 ∈ E) ∧ FrB p.1.1 ∧ FrB p.1.2) → ∀ p ∈ l.foldl (Acre.joinB f t) ps, (p.2.1 ∈ E ∧ p.2.2 ∈ E) ∧ FrB p.1.1 ∧ FrB p.1.2 := by
    intro f t l
    induction l with
    | nil => intro ps _ _ _ h; exact h
    | cons b r ih =>
      intro ps hl hf ht h
      refine ih _ (fun c hc => hl c (by simp [hc])) hf ht (fun p hp => ?_)
      rcases Acre.joinB_mem hp with hp | ⟨h1, h2, h3⟩
      · exact h p hp
      · refine ⟨by rw [h1]; exact hl b (by simp), ?_, by rw [h2]; exact ht⟩
        rcases h3 with h3 | ⟨p', hp', _, _, h3⟩
        · rw [h3]; exact hf
        · rw [h3]; exact (h p' hp').2.1
  have : ∀ (xs : List Gs) (ps : List Acre.Pc), (∀ x ∈ xs, x.2.2.length ≤ 24 ∧ (∀ y ∈ x.2.2, y.1 ∈ E) ∧ FrB x.1.1 ∧ FrB x.1.2) → (∀ p ∈ ps, (p.2.1 ∈ E ∧ p.2.2 ∈ E) ∧ FrB p.1.1 ∧ FrB p.1.2) → ∀ p ∈ xs.foldl (fun ps x => (bandsOfL x.2.2).foldl (Acre.joinB x.1.1 x.1.2) ps) ps, (p.2.1 ∈ E ∧ p.2.2 ∈ E) ∧ FrB p.1.1 ∧ FrB p.1.2 := by
    intro xs
    induction xs with
    | nil => intro ps _ h; exact h
    | cons x r ih =>
      intro ps hx h
      have h1 := hx x (by simp)
      exact ih _ (fun y hy => hx y (by simp [hy])) (hB _ _ _ ps (fun b hb => bandsOfL_mem h1.2.1 hb) h1.2.2.1 h1.2.2.2 h)
  intro xs hx
  exact this xs [] hx (by simp)
structure GuPost (a b : ByteArray) (op : Int) (w : World) (e : Ending) (w' : World) : Prop where
  bel : Below w.heap.size w w'
  out : ((errP a b op).1 ≠ 0 ∧ e = .returned (.tuple #[.string ⟨#[]⟩, .int .i64 (errP a b op).1, .int .i64 (errP a b op).2])) ∨
    ((errP a b op).1 = 0 ∧ ∃ s : ByteArray, e = .returned (.tuple #[.string s, .int .i64 0, .int .i64 0]) ∧ s.size ≤ 200000)
theorem sweep_any (sv : Value) (kk op : Int) (ga : Option Addr) (n c : Nat) (hs : sv = .slice ga n c) (w : World) :
    Calls Tryz.prog 21 #[.agg #[sv, .int .i64 kk, .int .i64 op]] w fun e w' => ∃ BP, e = .returned (.func (.func 38) #[] #[.pointer (some ⟨BP, 0, none⟩)]) ∧ w'.heap[BP]? = some (.cells #[sv, .int .i64 kk, .int .i64 op] 48 (0, 0)) ∧ Below w.heap.size w w' := by
  subst hs
  have hn := World.alloc_heap_new w (.cells #[.slice ga n c, .int .i64 kk, .int .i64 op] 48)
  have hb := below1 w (.cells #[.slice ga n c, .int .i64 kk, .int .i64 op] 48)
  have Hn := hide hn
  have Hb := hide hb
  clear hn hb
  go_enter Tryz.func21, Tryz.ntmps21
  go_wp2
  go_ret
  exact ⟨_, rfl, Hn.out, Hb.out⟩
def GuS (V1 : World) (P : Nat) (s : Value) (kk op : Int) (W : World) : Prop := W.cell? ⟨P, 0, none⟩ = some s ∧ W.cell? ⟨P, 1, none⟩ = some (.int .i64 kk) ∧ W.cell? ⟨P, 2, none⟩ = some (.int .i64 op) ∧ Below P V1 W
theorem gbelow_call {V1 V W : World} {P : Nat} (hP : V1.heap.size = P) (hb : Below V.heap.size V W) (h : Below P V1 V) : Below P V1 W := by subst hP; exact below_call hb h
theorem GuS.call {V1 V W : World} {P : Nat} {s : Value} {kk op : Int} (hP : V1.heap.size = P) (hb : Below V.heap.size V W) (h : GuS V1 P s kk op V) : GuS V1 P s kk op W :=
  ⟨cell_later hb h.1, cell_later hb h.2.1, cell_later hb h.2.2.1, gbelow_call hP hb h.2.2.2⟩
set_option maxRecDepth 100000 in
set_option maxHeartbeats 1000000 in
theorem guess_any (a b : ByteArray) (op : Int) (w : World) (ht : Tab w) :
    Calls Tryz.prog 10 #[.string a, .string b, .int .i64 op] w fun e w' => GuPost a b op w e w' := by
  have HOK := hide (fun h : (errP a b op).1 = 0 => pair_ok h)
  have HRP := hide (readPair_any a b op w)
  obtain ⟨er, her⟩ : ∃ er, errP a b op = er := ⟨_, rfl⟩
  rw [her] at HRP HOK
  have HER := hide her
  obtain ⟨e1, e2⟩ := er
  obtain ⟨E, hEE⟩ : ∃ E, pairE a b = E := ⟨_, rfl⟩
  obtain ⟨kk, hkkk⟩ : ∃ kk, (Acre.edgesOf (readP a).1).length = kk := ⟨_, rfl⟩
  rw [hEE, hkkk] at HOK
  have HEE := hide hEE
  have HKK := hide hkkk
  clear hEE hkkk her
  go_enter Tryz.func10, Tryz.ntmps10
  go_wp2_with fail
  refine HRP.out.mono ?_
  rintro e V1 ⟨pv, rfl, hpost⟩
  have hb1 := hpost.bel
  have hyes := hpost.yes
  obtain ⟨sp, sn, sc, sk, so, rfl⟩ := hpost.form
  rw [HER.out, HEE.out, HKK.out] at hyes
  dsimp only at hyes
  clear hpost
  by_cases he : e1 = 0
  · subst he
    obtain ⟨u, hpv, hE⟩ := hyes rfl
    simp only [Value.agg.injEq, Array.mk.injEq, List.cons.injEq, Value.int.injEq, true_and, and_true] at hpv
    obtain ⟨hu1, hk1, ho1⟩ := hpv
    have hk2 := hk1.symm
    have ho2 := ho1.symm
    have hu2 := hu1.symm
    subst hu2 ho2
    rw [hk1] at *
    obtain ⟨F, hsm, hEl, hkk⟩ := HOK.out rfl
    have HK := hide (fun V => sweep_any (.slice sp sn sc) kk op sp sn sc rfl V)
    have HJ := hide (fun V BP (hbp : V.heap[BP]? = some (.cells #[.slice sp sn sc, .int .i64 (kk : Int), .int .i64 op] 48 (0, 0))) (hb : Below V1.heap.size V1 V) => callsIn_wide.1 (joinedG_in 38 #[.pointer (some ⟨BP, 0, none⟩)] enter38 E (SpG E) (SpG E) (fun pre h x hx => (h.ok x hx).1) 324 (by omega) V hsm (sweep_seq E _ _ kk op BP V hbp (row_call hE hb) F.grid hEl hkk)))
    have HWr := hide (fun V v b1 (xs : List Gs) (hxs : SpG E xs) (hP : V.ownsRow b1 44 12 v (gps xs).length (flatP (gps xs))) (hb : Below V1.heap.size V1 V) => writeCert_any E (gps xs) (.slice sp sn sc) v b1 _ V hP (row_call hE hb) hsm hEl (by have := gps_len xs (fun x hx => (hxs.ok x hx).1); have := hxs.len; omega) (fun p hp => (gps_ok xs hxs.ok p hp).1) (fun p hp => (gps_ok xs hxs.ok p hp).2) (tab_later (tab_later ht hb1) hb))
    have HSz : Hid (∀ (xs : List Gs) (s : ByteArray), SpG E xs → s.data.toList = certT ((gps xs).map (wrOf E)) → s.size ≤ 200000) := hide (fun xs s hxs hs => by
      have h1 := certT_len ((gps xs).map (wrOf E)) (fun q hq => by
        obtain ⟨p, hp, rfl⟩ := List.mem_map.1 hq
        exact wr_ok2 (gps_ok xs hxs.ok p hp).1 (gps_ok xs hxs.ok p hp).2 hEl)
      rw [← hs, List.length_map] at h1
      have h2 := gps_len xs (fun x hx => (hxs.ok x hx).1)
      have h3 := hxs.len
      have hlen : s.data.toList.length = s.size := Array.length_toList
      omega)
    have bP := Box.new V1 [.slice sp sn sc, .int .i64 kk, .int .i64 op] 48
    have q1 := below1 V1 (.cells #[.slice sp sn sc, .int .i64 kk, .int .i64 op] 48)
    have Hb1 := hide hb1
    clear hyes hE hb1 F hsm hEl hkk HRP hk1 hk2 hu1 ho1
    go_upto_region 4 with fail
    generalize V1.alloc (.cells #[.slice sp sn sc, .int .i64 kk, .int .i64 op] 48) = W1 at *
    have hS : GuS V1 V1.heap.size (.slice sp sn sc) kk op W1.drew := ⟨(bP.later (by simp) (Below.drew (Below.refl _ _))).c 0 _ rfl, (bP.later (by simp) (Below.drew (Below.refl _ _))).c 1 _ rfl, (bP.later (by simp) (Below.drew (Below.refl _ _))).c 2 _ rfl, below_call (Below.drew (Below.refl _ _)) q1⟩
    have q2 := below_call (Below.drew (Below.refl _ _)) q1
    generalize hPV : V1.heap.size = P at *
    go_region_held3 (fun W => W.cell? ⟨P, 0, none⟩ = some (.slice sp sn sc) ∧ W.cell? ⟨P, 1, none⟩ = some (.int .i64 kk) ∧ W.cell? ⟨P, 2, none⟩ = some (.int .i64 op) ∧ Below P V1 W)
      ((show GuS V1 P (.slice sp sn sc) kk op _
        first
          | exact hS
          | (refine GuS.call hPV hb' ?_; assumption)
          | assumption))
      ((first
        | (go_at_call 21
           refine (HK.out _).mono ?_
           rintro e w'' ⟨BP, rfl, hbp, hb'⟩
           have q3 := gbelow_call hPV hb' q2)
        | (go_at_call 20
           refine (HJ.out _ BP hbp q3).mono ?_
           rintro e w'' ⟨v3, xs, rfl, hxs, hrow3, hb'⟩
           have q4 := gbelow_call hPV hb' q3)
        | (go_at_call 14
           refine (HWr.out _ _ _ xs hxs hrow3 q4).mono ?_
           rintro e w'' ⟨s, rfl, hs, hb'⟩
           have q5 := gbelow_call hPV hb' q4)))
    subst hPV
    have Hb5 := hide (below_call q5 Hb1.out)
    have Hs := hide (HSz.out xs s hxs hs)
    clear q5 q4 q3 q2 q1 hs hb' hrow3 bP hS HK HWr HJ hxs hbp HSz
    go_wp2
    refine bodyPost_ret (v := .tuple #[.string s, .int .i64 0, .int .i64 0]) ?_ rfl ?_
    · simp [results, Tryz.results10, go_sem]
    · exact ⟨Hb5.out, .inr ⟨by rw [HER.out], s, rfl, Hs.out⟩⟩
  · have hyes2 := hide hyes
    have Hb1 := hide hb1
    clear hyes hb1
    go_wp2
    refine bodyPost_ret (v := .tuple #[.string ⟨#[]⟩, .int .i64 e1, .int .i64 e2]) ?_ rfl ?_
    · simp [results, Tryz.results10, go_sem]
    · refine ⟨bA Hb1.out, .inl ⟨?_, ?_⟩⟩
      · rw [HER.out]; exact he
      · rw [HER.out]
end Go.Proofs.YtkjlkbgdkdcboaaGreatDoor

set_option linter.unusedSimpArgs false
set_option linter.unusedVariables false
namespace Go.Proofs.YtkjlkbgdkdcboaaGreatDoor
open Go.RowKit Go.Maps
attribute [local go_sem ↓] Go.wp_at_zero Go.wp_at_succ
theorem errG_zero {a b : ByteArray} {op : Int} (h : (errP a b op).1 = 0) : (errP a b op).2 = 0 := by
  unfold errP at h ⊢
  repeat' split at h
  all_goals (first | rfl | (simp at h; done) | (split <;> first | rfl | contradiction) | skip)
set_option maxRecDepth 100000 in
set_option maxHeartbeats 1000000 in
theorem guesses_any (a b : ByteArray) (op : Int) (w : World) (ht : Tab w) :
    Calls Tryz.prog 4 #[.string a, .string b, .int .i64 op] w fun e w' => e = .returned (.bool true) ∧ Below w.heap.size w w' := by
  have HS := hide (guess_any a b op w ht)
  have HA := hide (fun V => askedE_any a b op V)
  have HK := hide (fun s V => acheck_any a b op s V)
  clear ht
  go_enter Tryz.func4, Tryz.ntmps4
  go_wp2_with fail
  refine HS.out.mono ?_
  rintro e V1 ⟨hb1, hout⟩
  have HB1 := hide hb1
  clear hb1 HS
  rcases hout with ⟨hne, rfl⟩ | ⟨h0, s, rfl, hs⟩
  · go_wp2_with fail
    refine (HA.out V1).mono ?_
    rintro e V2 ⟨hb2, u1, u2, rfl, _⟩
    have HB2 := hide (below_call hb2 HB1.out)
    clear hb2 HK
    generalize errP a b op = er at *
    obtain ⟨e1, e2⟩ := er
    dsimp only at hne ⊢
    have hne2 : (e1 != 0) = true := by simpa using hne
    go_wp2_with (go_at_call 8; refine (num_any _ _).mono ?_; rintro e w9 ⟨rfl, hw9⟩; rw [hw9]; clear hw9)
    go_ret
    exact ⟨rfl, HB2.out⟩
  · have h02 := errG_zero h0
    go_wp2_with fail
    refine (HA.out V1).mono ?_
    rintro e V2 ⟨hb2, u1, u2, rfl, _⟩
    have HB2 := hide (below_call hb2 HB1.out)
    have HK2 : Hid (∀ V, Calls Tryz.prog 11 #[.string a, .string b, .int .i64 op, .string s] V fun e w' => (∃ err at' : Int, e = .returned (.tuple #[.int .i64 err, .int .i64 at']) ∧ (err = 0 ∨ err = 7 ∨ err = 8)) ∧ Below V.heap.size V w') := hide (fun V => (HK.out s V).mono (fun e w' h => by
      refine ⟨?_, h.bel⟩
      rcases h.out with ⟨hn, _⟩ | ⟨_, err, at', h1, _, h2⟩
      · exact absurd h0 hn
      · exact ⟨err, at', h1, h2 hs⟩))
    clear hb2 HK
    generalize errP a b op = er at *
    obtain ⟨e1, e2⟩ := er
    dsimp only at h0 h02 ⊢
    subst h0 h02
    have hs2 : (s.size : Int) ≤ 200000 := by omega
    have hs3 : decide ((s.size : Int) ≤ 200000) = true := decide_eq_true hs2
    go_wp2_with (go_at_call 8; refine (num_any _ _).mono ?_; rintro e w9 ⟨rfl, hw9⟩; rw [hw9]; clear hw9)
    refine (HK2.out _).mono ?_
    rintro e V3 ⟨⟨err, at', rfl, herr⟩, hb3⟩
    have HB3 := hide (below_call hb3 HB2.out)
    clear hb3 HK2
    rcases herr with rfl | rfl | rfl
    all_goals
      go_wp2_with (go_at_call 8; refine (num_any _ _).mono ?_; rintro e w9 ⟨rfl, hw9⟩; rw [hw9]; clear hw9)
      go_ret
      exact ⟨rfl, HB3.out⟩
end Go.Proofs.YtkjlkbgdkdcboaaGreatDoor
