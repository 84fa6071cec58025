import Derived.Test.YtkjlkbgdkdcboaaGreatDoorPrA
import Derived.Test.YtkjlkbgdkdcboaaGreatDoorSpB
import Derived.Test.YtkjlkbgdkdcboaaGreatDoorLwA
import Derived.Test.YtkjlkbgdkdcboaaGreatDoorWtA
import Derived.Test.YtkjlkbgdkdcboaaGreatDoorAsk
import Derived.Test.YtkjlkbgdkdcboaaGreatDoorRtA

set_option linter.unusedSimpArgs false
set_option linter.unusedVariables false

set_option linter.unusedSimpArgs false
set_option linter.unusedVariables false

namespace Go.Proofs.YtkjlkbgdkdcboaaGreatDoor.Ref
open Go.RowKit Go.Maps
attribute [local go_sem ↓] Go.wp_at_zero Go.wp_at_succ

def certErr (E : List Acre.Ed) (s : ByteArray) : Int :=
  if 200000 < s.size then 1 else if 0 ≤ (parseP s).2 then 7 else if (decide ((parseP s).1.length ≤ 4000) && (parseP s).1.all (soundB E)) = true then 0 else 7
structure CfPost (A B : List Acre.Ed) (s : ByteArray) (w : World) (e : Ending) (w' : World) : Prop where
  bel : Below w.heap.size w w'
  out : ∃ l a, e = .returned (.tuple #[l, .int .i64 (certErr (A ++ B) s), .int .i64 a]) ∧ (certErr (A ++ B) s = 0 → w'.ownsRow w.heap.size 93 11 l (parseP s).1.length (flatT (parseP s).1))

set_option maxRecDepth 100000 in
set_option maxHeartbeats 4000000 in
theorem certified_any (A B : List Acre.Ed) (va vb : Value) (b1 b2 : Nat) (s : ByteArray) (w : World) (hA : w.ownsRow b1 86 4 va A.length (flatE A)) (hB : w.ownsRow b2 86 4 vb B.length (flatE B)) (hla : A.length ≤ 12) (hlb : B.length ≤ 12) :
    Calls Tryz.prog 18 #[va, vb, .string s] w (CfPost A B s w) := by
  by_cases h1 : 200000 < s.size
  · have HE := hide (show certErr (A ++ B) s = 1 by unfold certErr; rw [if_pos h1])
    have h1' : (200000 : Int) < (s.size : Int) := by omega
    go_enter Tryz.func18, Tryz.ntmps18
    go_wp2
    refine bodyPost_ret (v := .tuple #[.slice none 0 0, .int .i64 1, .int .i64 0]) (by simp [results, Tryz.results18, go_sem]) rfl ?_
    exact ⟨Below.refl _ _, _, _, by rw [HE.out], fun h => by rw [HE.out] at h; exact absurd h (by decide)⟩
  · have h1' : ¬ (200000 : Int) < (s.size : Int) := by omega
    have HP := hide (fun V => parse_any s V (by omega))
    have hraw := parseP_raw s
    have hplen := parseP_len s
    have hce : certErr (A ++ B) s = if 0 ≤ (parseP s).2 then 7 else if (decide ((parseP s).1.length ≤ 4000) && (parseP s).1.all (soundB (A ++ B))) = true then 0 else 7 := by unfold certErr; rw [if_neg h1]
    obtain ⟨CE, hCE⟩ : ∃ c, certErr (A ++ B) s = c := ⟨_, rfl⟩
    rw [hCE] at hce
    have HCE := hide hCE
    clear hCE
    obtain ⟨⟨qs, bad⟩, hps⟩ : ∃ p, parseP s = p := ⟨_, rfl⟩
    have HPS := hide hps
    rw [hps] at HP hraw hplen hce
    dsimp only at HP hraw hplen hce
    have Hce := hide hce
    clear hps hce
    go_enter Tryz.func18, Tryz.ntmps18
    go_wp2_with fail
    refine (HP.out _).mono ?_
    rintro e V1 ⟨u1, rfl, hrow1, hb1⟩
    by_cases h2 : 0 ≤ bad
    · have HC7 := hide (show CE = 7 by rw [Hce.out, if_pos h2])
      have HB1 := hide hb1
      clear Hce hrow1 hb1
      go_wp2
      refine bodyPost_ret (v := .tuple #[.slice none 0 0, .int .i64 7, .int .i64 bad]) (by simp [results, Tryz.results18, go_sem]) rfl ?_
      exact ⟨HB1.out, _, _, by rw [HCE.out, HC7.out], fun h => by rw [HCE.out, HC7.out] at h; exact absurd h (by decide)⟩
    · have hce2 : CE = if (decide (qs.length ≤ 4000) && qs.all (soundB (A ++ B))) = true then 0 else 7 := by rw [Hce.out, if_neg h2]
      have Hce2 := hide hce2
      have HJ := hide (fun V (ha : V.ownsRow b1 86 4 va A.length (flatE A)) (hb : V.ownsRow b2 86 4 vb B.length (flatE B)) => rjoined_any A B va vb b1 b2 V ha hb (by omega) (by omega))
      have HR1 := hide hrow1
      have HB1 := hide hb1
      have HA1 := hide (row_call hA hb1)
      have HBb1 := hide (row_call hB hb1)
      obtain ⟨qa, qg, qcap, rfl, hqa⟩ := rowE_form hrow1
      clear hce2 Hce hrow1 hb1
      go_wp2_with fail
      refine (HJ.out _ HA1.out HBb1.out).mono ?_
      rintro e V2 ⟨u2, rfl, hrow2, hb2⟩
      have HR2 := hide (row_call HR1.out hb2)
      have HE2 := hide hrow2
      have HB2 := hide (below_call hb2 HB1.out)
      clear HR1 HB1 HA1 HBb1 HJ hrow2 hb2
      go_wp2
      go_loopw [12] (fun i wr => ∃ k : Nat, i = .int .i64 k ∧ k ≤ qs.length ∧ k ≤ 4000 ∧ Hid ((qs.take k).all (soundB (A ++ B)) = true ∧ Below V2.heap.size V2 wr)) (fun i _ => qs.length - (intOf i).toNat)
      case atStart => exact ⟨0, rfl, Nat.zero_le _, Nat.zero_le _, rfl, Below.refl _ _⟩
      case round =>
        obtain ⟨k, rfl, hk, hk4, hr⟩ := hrel
        obtain ⟨hall, hbw⟩ := hr.out
        by_cases hlt : k < qs.length
        · obtain rfl := hqa (by omega)
          have hcell := row_t (row_call HR2.out hbw) k hlt
          by_cases h4 : 4000 ≤ k
          · have HC7 := hide (show CE = 7 by
              rw [Hce2.out, if_neg]
              have : decide (qs.length ≤ 4000) = false := decide_eq_false (by omega)
              rw [this]; simp)
            have h4' : (4000 : Int) ≤ (k : Int) := by omega
            obtain ⟨qk, hqq⟩ : ∃ q, qs[k] = q := ⟨_, rfl⟩
            rw [hqq] at hcell
            obtain ⟨⟨f1, f2⟩, ⟨t1, t2⟩, lo, hi, ta, tb, tc, td⟩ := qk
            have m6 := hcell 6 _ rfl
            have HBz := hide (below_call hbw HB2.out)
            clear hcell hqq hr hall hbw
            go_wp2_with fail
            go_quiet (fail)
            go_wp2
            refine bodyPost_ret (v := .tuple #[.slice none 0 0, .int .i64 7, .int .i64 ta]) (by simp [results, Tryz.results18, go_sem]) rfl ?_
            exact ⟨below_drewN HBz.out _, _, _, by rw [HCE.out, HC7.out], fun h => by rw [HCE.out, HC7.out] at h; exact absurd h (by decide)⟩
          · have h4' : ¬ (4000 : Int) ≤ (k : Int) := by omega
            have hst : (qs.take (k + 1)).all (soundB (A ++ B)) = soundB (A ++ B) qs[k] := by
              rw [List.take_succ_eq_append_getElem hlt, List.all_append, hall]; simp
            have hno : soundB (A ++ B) qs[k] = false → CE = 7 := fun h => by
              rw [Hce2.out, if_neg]
              have : qs.all (soundB (A ++ B)) = false := by rw [List.all_eq_false]; exact ⟨_, List.getElem_mem hlt, by rw [h]; simp⟩
              rw [this]; simp
            have hrk := hraw qs[k] (List.getElem_mem hlt)
            obtain ⟨qk, hqq⟩ : ∃ q, qs[k] = q := ⟨_, rfl⟩
            rw [hqq] at hcell hst hno hrk
            have HAm := hide (fun V (h : V.ownsRow V1.heap.size 86 4 u2 (A ++ B).length (flatE (A ++ B))) => amiss_any (A ++ B) qk u2 V1.heap.size V h (by rw [List.length_append]; omega) hrk)
            generalize soundB (A ++ B) qk = so at *
            obtain ⟨⟨f1, f2⟩, ⟨t1, t2⟩, lo, hi, ta, tb, tc, td⟩ := qk
            have hpt : (ptL ⟨(f1, f2), (t1, t2), lo, hi, ta, tb, tc, td⟩).toArray = #[.int .i64 f1, .int .i64 f2, .int .i64 t1, .int .i64 t2, .int .i64 lo, .int .i64 hi, .int .i64 ta, .int .i64 ta, .int .i64 tb, .int .i64 tc, .int .i64 td] := rfl
            rw [hpt] at HAm
            have m0 := hcell 0 _ rfl
            have m1 := hcell 1 _ rfl
            have m2 := hcell 2 _ rfl
            have m3 := hcell 3 _ rfl
            have m4 := hcell 4 _ rfl
            have m5 := hcell 5 _ rfl
            have m6 := hcell 6 _ rfl
            have m7 := hcell 7 _ rfl
            have m8 := hcell 8 _ rfl
            have m9 := hcell 9 _ rfl
            have m10 := hcell 10 _ rfl
            simp only [Nat.add_zero] at m0
            have Hst := hide hst
            have Hno := hide hno
            have HBw := hide hbw
            clear hcell hqq hr hall hst hno hpt hbw
            go_wp2_with fail
            refine (HAm.out _ (row_call HE2.out HBw.out)).mono ?_
            rintro e w1 ⟨m, rfl, hm, hb3⟩
            have HBz := hide (below_call hb3 HBw.out)
            clear hb3 HBw HAm m0 m1 m2 m3 m4 m5 m6 m7 m8 m9 m10
            by_cases hm0 : 0 ≤ m
            · have HC7 := hide (Hno.out (hm.1 hm0))
              clear hm Hno Hst
              go_wp2
              refine bodyPost_ret (v := .tuple #[.slice none 0 0, .int .i64 7, .int .i64 m]) (by simp [results, Tryz.results18, go_sem]) rfl ?_
              exact ⟨below_call HBz.out HB2.out, _, _, by rw [HCE.out, HC7.out], fun h => by rw [HCE.out, HC7.out] at h; exact absurd h (by decide)⟩
            · have hso : so = true := by
                cases hs : so
                · exact absurd (hm.2 hs) hm0
                · rfl
              have HN := hide (show (qs.take (k + 1)).all (soundB (A ++ B)) = true by rw [Hst.out, hso])
              clear hm Hno Hst hso
              go_wp2
              go_roundw
              case rel => exact ⟨k + 1, by go_num, by omega, by omega, HN.out, HBz.out⟩
              case measure => simp [intOf]; omega
        · obtain rfl : k = qs.length := by omega
          rw [List.take_length] at hall
          have HC0 := hide (show CE = 0 by
            rw [Hce2.out, if_pos]
            rw [hall, decide_eq_true hk4]; rfl)
          have HBz := hide hbw
          have HRz := hide (row_base (row_call HR2.out hbw) (Nat.le_refl _))
          clear hr hall hbw
          go_wp2
          refine bodyPost_ret (v := .tuple #[.slice qa qs.length qcap, .int .i64 0, .int .i64 0]) (by simp [results, Tryz.results18, go_sem]) rfl ?_
          exact ⟨below_call HBz.out HB2.out, _, _, by rw [HCE.out, HC0.out], fun _ => by rw [HPS.out]; exact HRz.out⟩

end Go.Proofs.YtkjlkbgdkdcboaaGreatDoor.Ref

set_option linter.unusedSimpArgs false
set_option linter.unusedVariables false

namespace Go.Proofs.YtkjlkbgdkdcboaaGreatDoor.Ref
open Go.RowKit Go.Maps
attribute [local go_sem ↓] Go.wp_at_zero Go.wp_at_succ

theorem fair_within (f : Acre.Fc) : within f = fairB f.1 f.2 := by
  unfold within fairB
  cases decide (1 ≤ f.2) <;> cases decide (f.2 ≤ 1152) <;> rfl
/-- a piece with which nothing is amiss is one for the program, too -/
theorem sound_piece {E : List Acre.Ed} {q : PcT} (h : soundB E q = true) : pieceC E (toDr q) = some (toPc E q) := by
  unfold soundB at h
  simp only [Bool.and_eq_true, decide_eq_true_eq] at h
  obtain ⟨⟨h1, h2⟩, h3, h4, h5⟩ := h
  unfold pieceC toDr
  dsimp only
  rw [if_pos]
  · rfl
  · refine ⟨by rw [fair_within]; exact h1, by rw [fair_within]; exact h2, ?_, h4, h5⟩
    unfold Acre.ordF
    rw [Acre.sgn_neg (by omega)]
    omega
theorem cut_of {x : Acre.Fc} (h : CutOk x) : Cut x := by
  have := h.n
  exact ⟨⟨by omega, by omega⟩, this.2⟩
theorem cut_mid {x : Acre.Fc} (h : CutOk x) : Mid x := by
  have := h.n
  exact ⟨⟨by omega, by omega⟩, ⟨this.2.1, by omega⟩⟩
theorem sound_ok {E : List Acre.Ed} {q : PcT} (hr : PtRaw q) (h : soundB E q = true) : PtOk E q ∧ Acre.Good E (toPc E q) ∧ CutOk q.fr ∧ CutOk q.tt := by
  have hg := pieceC_good (d := toDr q) ⟨hr.lo.1, hr.hi.1⟩ (sound_piece h)
  unfold soundB at h
  simp only [Bool.and_eq_true, decide_eq_true_eq] at h
  obtain ⟨⟨h1, h2⟩, h3, h4, h5⟩ := h
  unfold lineB at h4 h5
  simp only [Bool.and_eq_true, decide_eq_true_eq, Bool.not_eq_true'] at h4 h5
  exact ⟨⟨cut_mid hg.2.1, cut_mid hg.2.2, ⟨hr.lo.1, h4.1, h4.2⟩, ⟨hr.hi.1, h5.1, h5.2⟩⟩, hg⟩
theorem all_pieces {E : List Acre.Ed} : ∀ (qs : List PcT), (∀ q ∈ qs, soundB E q = true) → allC (pieceC E) (qs.map toDr) = some (qs.map (toPc E))
  | [], _ => rfl
  | q :: r, h => by
    have ih := all_pieces r (fun x hx => h x (by simp [hx]))
    show (pieceC E (toDr q)).bind (fun b => (allC (pieceC E) (r.map toDr)).map (b :: ·)) = _
    rw [sound_piece (h q (by simp)), ih]
    rfl
theorem cert_zero {E : List Acre.Ed} {s : ByteArray} (h : certErr E s = 0) : ¬ 200000 < s.size ∧ (parseP s).2 < 0 ∧ (parseP s).1.length ≤ 4000 ∧ ∀ q ∈ (parseP s).1, soundB E q = true := by
  unfold certErr at h
  split at h
  · exact absurd h (by decide)
  · rename_i h1
    split at h
    · exact absurd h (by decide)
    · rename_i h2
      split at h
      · rename_i h3
        simp only [Bool.and_eq_true, decide_eq_true_eq, List.all_eq_true] at h3
        exact ⟨h1, by omega, h3.1, h3.2⟩
      · exact absurd h (by decide)
/-- a certificate for the document is one for the program -/
theorem cert_same {E : List Acre.Ed} {s : ByteArray} (h : certErr E s = 0) : certC s E = some ((parseP s).1.map (toPc E)) := by
  obtain ⟨_, h2, h3, h4⟩ := cert_zero h
  unfold certC
  rw [parse_drafts h2, Option.bind_some, if_pos (by rw [List.length_map]; exact h3)]
  exact all_pieces _ h4
theorem hand_ok {A B : List Acre.Ed} {qs : List PcT} (hsm : ∀ e ∈ A ++ B, SmE e) (hla : A.length ≤ 12) (hlb : B.length ≤ 12) (hl : qs.length ≤ 1000000) (hr : ∀ q ∈ qs, PtRaw q) (h : ∀ q ∈ qs, soundB (A ++ B) q = true) : HandOk A B qs :=
  ⟨hsm, hla, hlb, fun q hq => (sound_ok (hr q hq) (h q hq)).1, hl⟩
theorem cuts_ok {A B : List Acre.Ed} (F : Acre.Fld (A ++ B)) {ps : List Acre.Pc} (hg : ∀ p ∈ ps, Acre.Good (A ++ B) p) (hc : ∀ p ∈ ps, CutOk p.1.1 ∧ CutOk p.1.2) : ∀ z ∈ Acre.cutR (A ++ B) ps, Cut z := by
  intro z hz
  rcases Acre.cutR_mem hg hz with rfl | rfl | hz
  · exact ⟨⟨by dsimp only; omega, by dsimp only; omega⟩, ⟨by dsimp only; omega, by dsimp only; omega⟩⟩
  · exact ⟨⟨by dsimp only; omega, by dsimp only; omega⟩, ⟨by dsimp only; omega, by dsimp only; omega⟩⟩
  · refine cut_of (cutsP_ok F ?_ z hz)
    intro x hx
    obtain ⟨p, hp, hx⟩ := List.mem_flatMap.1 hx
    simp at hx
    rcases hx with rfl | rfl
    · exact (hc p hp).1
    · exact (hc p hp).2

/-- what the document's Check answers -/
def rckErr (a b : ByteArray) (op : Int) (s : ByteArray) : Int :=
  if (errP a b op).1 = 0 then (if certErr (pairE a b) s = 0 then (if Acre.rightP (Acre.edgesOf (readP a).1) (Acre.edgesOf (readP b).1) op ((parseP s).1.map (toPc (pairE a b))) = true then 0 else 8) else certErr (pairE a b) s) else (errP a b op).1

set_option maxRecDepth 100000 in
set_option maxHeartbeats 2000000 in
theorem rcheck_any (a b : ByteArray) (op : Int) (s : ByteArray) (w : World) : Calls Tryz.prog 9 #[.string a, .string b, .int .i64 op, .string s] w fun e w' => ∃ at', e = .returned (.tuple #[.int .i64 (rckErr a b op s), .int .i64 at']) ∧ Below w.heap.size w w' := by
  have HA := hide (fun V => askedE_any a b op V)
  by_cases h0 : (errP a b op).1 = 0
  · obtain ⟨hra, hrb, hop⟩ := pair_fields h0
    have hop2 : 0 ≤ op ∧ op ≤ 3 := by omega
    have hla := edges_le12 (read_field hra)
    have hlb := edges_le12 (read_field hrb)
    have hF := (pair_ok h0).1
    have hsm := (pair_ok h0).2.1
    have hpE : pairE a b = Acre.edgesOf (readP a).1 ++ Acre.edgesOf (readP b).1 := rfl
    have hdef : rckErr a b op s = if certErr (pairE a b) s = 0 then (if Acre.rightP (Acre.edgesOf (readP a).1) (Acre.edgesOf (readP b).1) op ((parseP s).1.map (toPc (pairE a b))) = true then 0 else 8) else certErr (pairE a b) s := by unfold rckErr; rw [if_pos h0]
    have hE0 : (errP a b op) = (0, (errP a b op).2) := by rw [← h0]
    rw [hpE] at hF hsm hdef
    obtain ⟨A, hA⟩ : ∃ A, Acre.edgesOf (readP a).1 = A := ⟨_, rfl⟩
    obtain ⟨B, hB⟩ : ∃ B, Acre.edgesOf (readP b).1 = B := ⟨_, rfl⟩
    rw [hA] at hla hF hsm hdef
    rw [hB] at hlb hF hsm hdef
    have HAr := hide hA
    have HBr := hide hB
    have HC := hide (fun V va vb (h1 : V.ownsRow w.heap.size 86 4 va A.length (flatE A)) (h2 : V.ownsRow w.heap.size 86 4 vb B.length (flatE B)) => certified_any A B va vb w.heap.size w.heap.size s V h1 h2 hla hlb)
    obtain ⟨R, hR⟩ : ∃ R, rckErr a b op s = R := ⟨_, rfl⟩
    rw [hR] at hdef ⊢
    have HD := hide hdef
    have H0 := hide h0
    clear hA hB hR hdef hE0 hpE hra hrb hop
    go_enter Tryz.func9, Tryz.ntmps9
    go_wp2_with fail
    refine (HA.out _).mono ?_
    rintro e V1 ⟨hb1, u1, u2, rfl, hrows⟩
    obtain ⟨hr1, hr2⟩ := hrows h0
    rw [HAr.out] at hr1
    rw [HBr.out] at hr2
    rw [h0]
    have HR1 := hide hr1
    have HR2 := hide hr2
    have HB1 := hide hb1
    generalize (errP a b op).2 = ea at *
    clear hrows hr1 hr2 hb1 HA h0
    go_wp2_with fail
    refine (HC.out _ _ _ HR1.out HR2.out).mono ?_
    rintro e V2 ⟨hb2, l, at2, rfl, hrow⟩
    have HB2 := hide (below_call hb2 HB1.out)
    have HRa := hide (row_call HR1.out hb2)
    have HRb := hide (row_call HR2.out hb2)
    by_cases hc : certErr (A ++ B) s = 0
    · have HQ := hide (hrow hc)
      obtain ⟨z1, z2, z3, z4⟩ := cert_zero hc
      have hraw := parseP_raw s
      have hok := hand_ok hsm hla hlb (qs := (parseP s).1) (by omega) hraw z4
      have hcuts := cuts_ok hF (ps := (parseP s).1.map (toPc (A ++ B))) (fun p hp => by
        obtain ⟨q, hq, rfl⟩ := List.mem_map.1 hp
        exact (sound_ok (hraw q hq) (z4 q hq)).2.1) (fun p hp => by
        obtain ⟨q, hq, rfl⟩ := List.mem_map.1 hp
        exact (sound_ok (hraw q hq) (z4 q hq)).2.2)
      have HRt := hide (fun V va vb vq (h : Hand V A B (parseP s).1 va vb vq w.heap.size w.heap.size V1.heap.size) => rightR_any A B (parseP s).1 va vb vq w.heap.size w.heap.size V1.heap.size op V h hok hop2 hcuts)
      have hD := HD.out
      rw [if_pos hc] at hD
      rw [hc]
      generalize Acre.rightP A B op ((parseP s).1.map (toPc (A ++ B))) = rt at *
      have HD2 := hide hD
      clear hD HD hrow hb2 HB1 HR1 HR2 z1 z2 z3 z4 hok hcuts hraw HC hc
      go_wp2_with fail
      refine (HRt.out _ _ _ _ ⟨HRa.out, HRb.out, HQ.out⟩).mono ?_
      rintro e V3 ⟨rfl, hb3⟩
      have HB3 := hide (below_call hb3 HB2.out)
      clear HRt HRa HRb HQ hb3 HB2
      cases rt
      · have HN := hide (show R = 8 from HD2.out)
        clear HD2
        go_wp2
        refine bodyPost_ret (v := .tuple #[.int .i64 8, .int .i64 0]) (by simp [results, Tryz.results9, go_sem]) rfl ?_
        exact ⟨_, by rw [HN.out], HB3.out⟩
      · have HN := hide (show R = 0 from HD2.out)
        clear HD2
        go_wp2
        refine bodyPost_ret (v := .tuple #[.int .i64 0, .int .i64 0]) (by simp [results, Tryz.results9, go_sem]) rfl ?_
        exact ⟨_, by rw [HN.out], HB3.out⟩
    · have hD := HD.out
      rw [if_neg hc] at hD
      have hcb : (certErr (A ++ B) s != 0) = true := by simpa using hc
      generalize certErr (A ++ B) s = ce at *
      have HN := hide hD
      clear hD HD hrow hb2 HB1 HR1 HR2 HC HRa HRb
      go_wp2
      refine bodyPost_ret (v := .tuple #[.int .i64 ce, .int .i64 at2]) (by simp [results, Tryz.results9, go_sem]) rfl ?_
      exact ⟨_, by rw [HN.out], HB2.out⟩
  · have HD := hide (show rckErr a b op s = (errP a b op).1 by unfold rckErr; rw [if_neg h0])
    go_enter Tryz.func9, Tryz.ntmps9
    go_wp2_with fail
    refine (HA.out _).mono ?_
    rintro e V1 ⟨hb1, u1, u2, rfl, hrows⟩
    have HB1 := hide hb1
    have hcb : ((errP a b op).1 != 0) = true := by simpa using h0
    clear hrows hb1 HA
    generalize errP a b op = er at *
    obtain ⟨e1, e2⟩ := er
    dsimp only at h0 hcb HD
    go_wp2
    refine bodyPost_ret (v := .tuple #[.int .i64 e1, .int .i64 e2]) (by simp [results, Tryz.results9, go_sem]) rfl ?_
    exact ⟨_, by rw [HD.out], HB1.out⟩

end Go.Proofs.YtkjlkbgdkdcboaaGreatDoor.Ref

