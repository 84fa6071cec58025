import Derived.Test.YtkjlkbgdkdcboaaGreatDoorSw
import Derived.Test.YtkjlkbgdkdcboaaGreatDoorCk
import Derived.Test.YtkjlkbgdkdcboaaGreatDoorAsk
import Derived.ChangeKeysEq
set_option linter.unusedSimpArgs false
set_option linter.unusedVariables false
namespace Go.Proofs.YtkjlkbgdkdcboaaGreatDoor
open Go.RowKit Go.Maps
attribute [local go_sem ↓] Go.wp_at_zero Go.wp_at_succ

theorem infoPt : (Tryz.prog.info? 40).map (fun i => (i.zero, i.size, i.bytes)) = some (some (.agg #[.int .i64 0, .int .i64 0]), 2, 16) := by kernel_rfl
theorem eqPt (a b : Int) (w' : World) : (Op.equalIn 9998 40 (.agg #[.int .i64 a, .int .i64 b]) (.agg #[.int .i64 a, .int .i64 b])).run Tryz.prog w' = .ok true w' := by
  simp [go_sem]
theorem eqEd (a b c d : Int) (w' : World) : (Op.equalIn 9999 42 (.agg #[.int .i64 a, .int .i64 b, .int .i64 c, .int .i64 d]) (.agg #[.int .i64 a, .int .i64 b, .int .i64 c, .int .i64 d])).run Tryz.prog w' = .ok true w' := by
  obtain ⟨i, hi, _, hs, _⟩ := info_parts infoPt
  have := run_equalIn_array (P := Tryz.prog) (w := w') 9998 (xs := #[.int .i64 a, .int .i64 b, .int .i64 c, .int .i64 d]) (ys := #[.int .i64 a, .int .i64 b, .int .i64 c, .int .i64 d]) Tryz.underlying42 hi
  rw [this, show Tryz.prog.cellsOf 40 = 2 by kernel_rfl]
  simp [go_sem, Op.eqItems, eqPt, List.range, List.range.loop]
theorem neqPc (a b c d e f g h i j k l : Int) (w' : World) : (binOp .neq 44 (.agg #[.int .i64 a, .int .i64 b, .int .i64 c, .int .i64 d, .int .i64 e, .int .i64 f, .int .i64 g, .int .i64 h, .int .i64 i, .int .i64 j, .int .i64 k, .int .i64 l]) (.agg #[.int .i64 a, .int .i64 b, .int .i64 c, .int .i64 d, .int .i64 e, .int .i64 f, .int .i64 g, .int .i64 h, .int .i64 i, .int .i64 j, .int .i64 k, .int .i64 l])).run Tryz.prog w' = .ok (.bool false) w' := by
  simp [go_sem, eqEd]

/-- two rows of the same pieces, the first of them written over as far as k -/
structure TwI (W wr : World) (gl gm : Nat) (ps : List Acre.Pc) (k : Nat) : Prop where
  lc : ∀ j, k * 12 ≤ j → j < ps.length * 12 → wr.cell? ⟨gl, j, none⟩ = (flatP ps)[j]?
  lf : ∀ j, j < ps.length * 12 → wr.frozen? ⟨gl, j, none⟩ = false
  mc : ∀ j, j < ps.length * 12 → wr.cell? ⟨gm, j, none⟩ = (flatP ps)[j]?
  bel : Below W.heap.size W wr

theorem row_all {w : World} {base g cap : Nat} {ps : List Acre.Pc} (h : w.ownsRow base 44 12 (.slice (some ⟨g, 0, none⟩) ps.length cap) ps.length (flatP ps)) (hn : 0 < ps.length) :
    (∀ j, j < ps.length * 12 → w.cell? ⟨g, j, none⟩ = (flatP ps)[j]?) ∧ (∀ j, j < ps.length * 12 → w.frozen? ⟨g, j, none⟩ = false) ∧ base ≤ g ∧ g < w.heap.size := by
  refine ⟨fun j hj => ?_, ?_⟩
  · exact h.cellAt j hj
  · rcases h.2 with ⟨h0, _⟩ | ⟨g', cap', cur, hv, hb, hbl, h1, h2, h3, h4⟩
    · cases h0
    · cases hv
      exact ⟨fun j hj => by simp [World.frozen?, hbl], hb, (Array.getElem?_eq_some_iff.1 hbl).1⟩
theorem flatP_at (ps : List Acre.Pc) (k j : Nat) (hk : k < ps.length) (hj : j < 12) : (flatP ps)[k * 12 + j]? = (pcL ps[k])[j]? := by
  unfold flatP
  induction ps generalizing k with
  | nil => simp at hk
  | cons p r ih =>
    cases k with
    | zero =>
      rw [List.flatMap_cons, Nat.zero_mul, Nat.zero_add, List.getElem?_append_left (by simp [pcL, frL, edL]; omega)]
      rfl
    | succ k =>
      rw [List.flatMap_cons, List.getElem?_append_right (by simp [pcL, frL, edL]; omega)]
      have := ih k (by simpa using hk)
      rw [← show (r)[k]'(by simpa using hk) = (p :: r)[k + 1] from rfl] at *
      rw [← this]
      congr 1
      simp [pcL, frL, edL]
      omega
theorem TwI.l {W wr : World} {gl gm i k : Nat} {ps : List Acre.Pc} (h : TwI W wr gl gm ps i) (hi : i ≤ k) (hk : k < ps.length) (j : Nat) (v : Value) (hj : j < 12) (hv : (pcL ps[k])[j]? = some v) : wr.cell? ⟨gl, k * 12 + j, none⟩ = some v := by
  rw [h.lc _ (by omega) (by omega), flatP_at ps k j hk hj, hv]
theorem TwI.m {W wr : World} {gl gm i k : Nat} {ps : List Acre.Pc} (h : TwI W wr gl gm ps i) (hk : k < ps.length) (j : Nat) (v : Value) (hj : j < 12) (hv : (pcL ps[k])[j]? = some v) : wr.cell? ⟨gm, k * 12 + j, none⟩ = some v := by
  rw [h.mc _ (by omega), flatP_at ps k j hk hj, hv]
theorem TwI.set {W wr : World} {gl gm k : Nat} {ps : List Acre.Pc} (h : TwI W wr gl gm ps k) (hk : k < ps.length) (hne : gl ≠ gm) (hW : W.heap.size ≤ gl) (v : Value) : TwI W (wr.setCell ⟨gl, k * 12, none⟩ v) gl gm ps (k + 1) := by
  refine ⟨fun j h1 h2 => ?_, fun j hj => ?_, fun j hj => ?_, bS h.bel hW⟩
  · rw [← h.lc j (by omega) h2]
    simp [go_sem]
  · rw [frozen_set]; exact h.lf j hj
  · rw [← h.mc j hj]
    simp [go_sem, hne]

theorem TwI.drewN {W wr : World} {gl gm k : Nat} {ps : List Acre.Pc} (h : TwI W wr gl gm ps k) (n : Nat) : TwI W (wr.drewN n) gl gm ps k := ⟨h.lc, h.lf, h.mc, below_drewN h.bel n⟩
theorem semis_le (s : ByteArray) (k : Nat) : semis s k ≤ k := by
  unfold semis
  have := List.countP_le_length (p := fun j => decide (bt s j = 59) || decide (j = 0)) (l := List.range k)
  rwa [List.length_range] at this

set_option maxRecDepth 100000 in
set_option maxHeartbeats 4000000 in
theorem taken_any (HWC : WCok) (a b : ByteArray) (op : Int) (one two : ByteArray) (w : World) (ht : Tab w) :
    Calls Tryz.prog 5 #[.string a, .string b, .int .i64 op, .string one, .string two] w fun e w' => e = .returned (.bool true) ∧ Below w.heap.size w w' := by
  have HS := hide (fun V (hV : Tab V) => slow_any HWC a b op V hV)
  have HA := hide (fun V => askedE_any a b op V)
  have HK := hide (fun s V => acheck_any a b op s V)
  have HC := hide (fun s V => combine_any a b op s V (fun h => (pair_ok h).1) (fun h => (pair_ok h).2.1) (fun h => (pair_ok h).2.2.1) (fun h => (pair_ok h).2.2.2))
  have HQ := hide (fun (s : ByteArray) (h : (errP a b op).1 = 0) (hs : s.data.toList = certT ((cutAB a b op).map (wrOf (pairE a b)))) => And.intro (slow_check h hs) (And.intro (slow_comb h hs) (slow_semis hs)))
  have HL := hide (fun h : (errP a b op).1 = 0 => cut_len (E := pairE a b) (Acre.edgesOf (readP a).1).length op (pair_ok h).2.2.1)
  have HZ := hide (fun (s : ByteArray) (h : (errP a b op).1 = 0) (hs : s.data.toList = certT ((cutAB a b op).map (wrOf (pairE a b)))) => cut_size (pair_ok h).1 (Acre.edgesOf (readP a).1).length op (pair_ok h).2.2.1 hs)
  have HTb := hide ht
  clear HWC ht
  go_enter Tryz.func5, Tryz.ntmps5
  go_wp2_with fail
  refine (HA.out w).mono ?_
  rintro e V1 ⟨hb1, u1, u2, rfl, _⟩
  have HT1 := hide (tab_later HTb.out hb1)
  have HB1 := hide hb1
  clear hb1 HTb
  go_wp2_with fail
  refine (HS.out V1 HT1.out).mono ?_
  rintro e V2 ⟨hb2, hout⟩
  have HB2 := hide (below_call hb2 HB1.out)
  clear hb2 HS
  rcases hout with ⟨hne, rfl⟩ | ⟨h0, s, rfl, hs⟩
  · clear HK HC HQ HL HZ HT1 HB1
    generalize errP a b op = er at *
    obtain ⟨e1, e2⟩ := er
    dsimp only at hne ⊢
    have hne2 : (e1 != 0) = true := by simpa using hne
    go_wp2_with (go_at_call 8; refine (num_any _ _).mono ?_; rintro e w9 ⟨rfl, hw9⟩; rw [hw9]; clear hw9)
    go_ret
    exact ⟨rfl, HB2.out⟩
  · obtain ⟨q1, q2, q3⟩ := HQ.out s h0 hs
    have H0 := hide h0
    have Q1 := hide q1
    have Q2 := hide q2
    have Q3 := hide q3
    have h02 := err_zero h0
    have hlen := HL.out h0
    have hsz := HZ.out s h0 hs
    have HN := hide (fun (t : ByteArray) => comb_none (a := a) (b := b) (op := op) (s := t))
    clear hs q1 q2 q3 HQ HL HZ HT1 HB1 HA
    have hlen2 : (cutAB a b op).length ≤ 3588 := hlen
    clear hlen
    rw [h0, h02]
    go_wp2_with fail
    refine (HK.out s V2).mono ?_
    rintro e V3 ⟨hb3, hck⟩
    rcases hck with ⟨hne, _⟩ | ⟨_, er, at', rfl, hiff⟩
    · exact absurd H0.out hne
    obtain rfl : er = 0 := hiff.2 (by rw [Q1.out]; rfl)
    have HB3 := hide (below_call hb3 HB2.out)
    clear hb3 hiff HB2 Q1 h0 h02
    go_wp2_with fail
    refine (HC.out s V3).mono ?_
    rintro e V4 ⟨hb4, hc4⟩
    rcases hc4 with ⟨hne, _⟩ | ⟨_, lv, rfl, hrow4⟩
    · exact absurd H0.out hne
    rw [Q2.out] at hrow4
    obtain ⟨la, gl, lcap, rfl, hla, hlc⟩ := row_form hrow4
    have HR4 := hide hrow4
    have HB4 := hide hb4
    clear hb4 hrow4 hlc
    go_wp2_with fail
    refine (HC.out s V4).mono ?_
    rintro e V5 ⟨hb5, hc5⟩
    rcases hc5 with ⟨hne, _⟩ | ⟨_, mv, rfl, hrow5⟩
    · exact absurd H0.out hne
    rw [Q2.out] at hrow5
    obtain ⟨ma, gm, mcap, rfl, hma, hmc⟩ := row_form hrow5
    obtain ⟨ps, hps⟩ : ∃ ps, cutAB a b op = ps := ⟨_, rfl⟩
    have HPS := hide hps
    rw [hps] at hrow5 hma hla HR4 hlen2 Q3 ⊢
    have HTw : Hid (0 < ps.length → TwI V3 V5 gl gm ps 0 ∧ V3.heap.size ≤ gl ∧ gl ≠ gm) := hide (fun h => by
      have h4 := HR4.out
      have h5 := hrow5
      rw [hla h] at h4
      rw [hma h] at h5
      obtain ⟨r1, r2, r3, r4⟩ := row_all (row_call h4 hb5) h
      obtain ⟨q1, q2, q3, q4⟩ := row_all h5 h
      have r5 := (row_all h4 h).2.2.2
      exact ⟨⟨fun j _ hj => r1 j hj, r2, q1, below_call hb5 HB4.out⟩, r3, by omega⟩)
    have HB5 := hide (below_call hb5 HB4.out)
    clear hb5 hrow5 hps hmc HR4 HB4 Q2
    go_wp2_with (go_at_call 8; refine (num_any _ _).mono ?_; rintro e w9 ⟨rfl, hw9⟩; rw [hw9]; clear hw9)
    go_loopw [26, 27] (fun nv kv wr => ∃ k : Nat, kv = .int .i64 k ∧ nv = .int .i64 (semis s k : Nat) ∧ k ≤ s.size ∧ wr = V5) (fun _ i _ => s.size - (intOf i).toNat)
    case atStart => exact ⟨0, rfl, rfl, Nat.zero_le _, rfl⟩
    case round =>
      obtain ⟨k, rfl, rfl, hk, rfl⟩ := hrel
      have hsm := semis_le s k
      by_cases hlt : k < s.size
      · have hi3 : (k : Int) < (s.size : Int) := by omega
        have hss := semis_succ s k
        rw [bt_in hlt] at hss
        generalize semis s k = sk at *
        by_cases hc : (s[k].toNat : Int) = 59
        · have hc2 : ((s[k].toNat : Int) == 59) = true := by simpa using hc
          rw [if_pos (.inl hc)] at hss
          have Hss := hide hss
          clear hss
          go_wp2
          go_roundw
          case rel => exact ⟨k + 1, by go_num, by rw [Hss.out]; go_num, by omega, trivial⟩
          case measure => simp [intOf]; omega
        · have hc2 : ((s[k].toNat : Int) == 59) = false := by simpa using hc
          by_cases hk0 : k = 0
          · rw [if_pos (.inr hk0)] at hss
            have Hss := hide hss
            subst hk0
            clear hss
            go_wp2
            go_roundw
            case rel => exact ⟨0 + 1, by go_num, by rw [Hss.out]; go_num, by omega, trivial⟩
            case measure => simp [intOf]; omega
          · rw [if_neg (by rintro (h | h) <;> contradiction)] at hss
            have Hss := hide hss
            have hk2 : ((k : Int) == 0) = false := by simpa using hk0
            clear hss
            go_wp2
            go_roundw
            case rel => exact ⟨k + 1, by go_num, by rw [Hss.out]; rfl, by omega, trivial⟩
            case measure => simp [intOf]; omega
      · obtain rfl : k = s.size := by omega
        rw [Q3.out] at hsm ⊢
        go_wp2
        go_loopw [28] (fun i wr => ∃ k : Nat, i = .int .i64 k ∧ k ≤ ps.length ∧ Hid ((0 < ps.length → TwI V3 wr gl gm ps k) ∧ Below V3.heap.size V3 wr)) (fun i _ => ps.length - (intOf i).toNat)
        case atStart => exact ⟨0, rfl, Nat.zero_le _, fun h => (HTw.out h).1, HB5.out⟩
        case round =>
          obtain ⟨k, rfl, hk, hr⟩ := hrel
          by_cases hlt : k < ps.length
          · obtain rfl := hla (by omega)
            obtain rfl := hma (by omega)
            obtain ⟨hT0, hbw⟩ := hr.out
            have hT := hT0 (by omega)
            obtain ⟨_, hgl, hgne⟩ := HTw.out (by omega)
            obtain ⟨⟨⟨⟨f1, f2⟩, ⟨t1, t2⟩⟩, ⟨⟨⟨l0, l1⟩, ⟨l2, l3⟩⟩, ⟨⟨h0, h1⟩, ⟨h2, h3⟩⟩⟩⟩, hpc⟩ : ∃ pc, ps[k] = pc := ⟨_, rfl⟩
            have L0 := hT.l (Nat.le_refl _) hlt 0 _ (by omega) (by rw [hpc]; rfl)
            have M0 := hT.m hlt 0 _ (by omega) (by rw [hpc]; rfl)
            have L1 := hT.l (Nat.le_refl _) hlt 1 _ (by omega) (by rw [hpc]; rfl)
            have M1 := hT.m hlt 1 _ (by omega) (by rw [hpc]; rfl)
            have L2 := hT.l (Nat.le_refl _) hlt 2 _ (by omega) (by rw [hpc]; rfl)
            have M2 := hT.m hlt 2 _ (by omega) (by rw [hpc]; rfl)
            have L3 := hT.l (Nat.le_refl _) hlt 3 _ (by omega) (by rw [hpc]; rfl)
            have M3 := hT.m hlt 3 _ (by omega) (by rw [hpc]; rfl)
            have L4 := hT.l (Nat.le_refl _) hlt 4 _ (by omega) (by rw [hpc]; rfl)
            have M4 := hT.m hlt 4 _ (by omega) (by rw [hpc]; rfl)
            have L5 := hT.l (Nat.le_refl _) hlt 5 _ (by omega) (by rw [hpc]; rfl)
            have M5 := hT.m hlt 5 _ (by omega) (by rw [hpc]; rfl)
            have L6 := hT.l (Nat.le_refl _) hlt 6 _ (by omega) (by rw [hpc]; rfl)
            have M6 := hT.m hlt 6 _ (by omega) (by rw [hpc]; rfl)
            have L7 := hT.l (Nat.le_refl _) hlt 7 _ (by omega) (by rw [hpc]; rfl)
            have M7 := hT.m hlt 7 _ (by omega) (by rw [hpc]; rfl)
            have L8 := hT.l (Nat.le_refl _) hlt 8 _ (by omega) (by rw [hpc]; rfl)
            have M8 := hT.m hlt 8 _ (by omega) (by rw [hpc]; rfl)
            have L9 := hT.l (Nat.le_refl _) hlt 9 _ (by omega) (by rw [hpc]; rfl)
            have M9 := hT.m hlt 9 _ (by omega) (by rw [hpc]; rfl)
            have L10 := hT.l (Nat.le_refl _) hlt 10 _ (by omega) (by rw [hpc]; rfl)
            have M10 := hT.m hlt 10 _ (by omega) (by rw [hpc]; rfl)
            have L11 := hT.l (Nat.le_refl _) hlt 11 _ (by omega) (by rw [hpc]; rfl)
            have M11 := hT.m hlt 11 _ (by omega) (by rw [hpc]; rfl)
            simp only [Nat.add_zero] at L0 M0
            have ff := hT.lf (k * 12) (by omega)
            have hne := neqPc f1 f2 t1 t2 l0 l1 l2 l3 h0 h1 h2 h3
            have k9 : (0 : Int) ≤ (k : Int) := by omega
            have k10 : (k : Int) < (ps.length : Int) := by omega
            have HT := hide hT
            have HBw := hide hbw
            clear hT hT0 hbw hr hpc HTw
            go_wp2_with fail
            go_quiet (fail)
            generalize hV : wr.drewN _ = V9
            have HT9 : Hid (TwI V3 V9 gl gm ps k) := hide (by rw [← hV]; exact HT.out.drewN _)
            have HB9 : Hid (Below V3.heap.size V3 V9) := hide (by rw [← hV]; exact below_drewN HBw.out _)
            have C9 : V9.cell? ⟨gl, k * 12, none⟩ = some (.int .i64 f1) := by rw [← hV]; exact L0
            have F9 : V9.frozen? ⟨gl, k * 12, none⟩ = false := by rw [← hV]; exact ff
            clear hV HT HBw ff L0 M0 L1 M1 L2 M2 L3 M3 L4 M4 L5 M5 L6 M6 L7 M7 L8 M8 L9 M9 L10 M10 L11 M11
            go_wp2
            go_roundw
            case rel => exact ⟨k + 1, by go_num, by omega, fun _ => HT9.out.set hlt hgne hgl _, bS HB9.out hgl⟩
            case measure => simp [intOf]; omega
          · obtain rfl : k = ps.length := by omega
            have HB6 := hide (below_call hr.out.2 HB3.out)
            clear hr HTw HB5 HB3 hsm hla hma Q3
            go_wp2_with fail
            refine (HK.out one wr).mono ?_
            rintro e V7 ⟨hb7, hck⟩
            rcases hck with ⟨hne, _⟩ | ⟨_, x, at7, rfl, hx⟩
            · exact absurd H0.out hne
            have HB7 := hide (below_call hb7 HB6.out)
            have HX := hide hx
            clear hb7 hx HB6
            go_wp2_with fail
            refine (HK.out two V7).mono ?_
            rintro e V8 ⟨hb8, hck⟩
            rcases hck with ⟨hne, _⟩ | ⟨_, y, at8, rfl, hy⟩
            · exact absurd H0.out hne
            have HB8 := hide (below_call hb8 HB7.out)
            have HY := hide hy
            clear hb8 hy HB7 HK
            by_cases hx0 : x = 0
            · subst hx0
              go_wp2_with (go_at_call 8; refine (num_any _ _).mono ?_; rintro e w9 ⟨rfl, hw9⟩; rw [hw9]; clear hw9)
              go_ret
              exact ⟨rfl, HB8.out⟩
            · have hxb : (x == 0) = false := by simpa using hx0
              by_cases hy0 : y = 0
              · subst hy0
                go_wp2_with (go_at_call 8; refine (num_any _ _).mono ?_; rintro e w9 ⟨rfl, hw9⟩; rw [hw9]; clear hw9)
                go_ret
                exact ⟨rfl, HB8.out⟩
              · have hyb : (y == 0) = false := by simpa using hy0
                have N1 := hide (HN.out one (by rw [Bool.eq_false_iff]; exact fun h => hx0 (HX.out.2 h)))
                have N2 := hide (HN.out two (by rw [Bool.eq_false_iff]; exact fun h => hy0 (HY.out.2 h)))
                clear HX HY HN
                go_wp2_with (go_at_call 8; refine (num_any _ _).mono ?_; rintro e w9 ⟨rfl, hw9⟩; rw [hw9]; clear hw9)
                refine (HC.out one V8).mono ?_
                rintro e V9 ⟨hb9, hc9⟩
                rcases hc9 with ⟨hne, _⟩ | ⟨_, uv, rfl, hrow9⟩
                · exact absurd H0.out hne
                rw [N1.out, HPS.out] at hrow9
                obtain ⟨ua, gu, ucap, rfl, hua, huc⟩ := row_form hrow9
                have HR9 := hide hrow9
                have HB9 := hide hb9
                clear hb9 hrow9 huc N1
                go_wp2_with fail
                refine (HC.out two V9).mono ?_
                rintro e V10 ⟨hb10, hc10⟩
                rcases hc10 with ⟨hne, _⟩ | ⟨_, vv, rfl, hrow10⟩
                · exact absurd H0.out hne
                rw [N2.out, HPS.out] at hrow10
                obtain ⟨va, gv, vcap, rfl, hva, hvc⟩ := row_form hrow10
                have HTv : Hid (0 < ps.length → TwI V8 V10 gu gv ps 0) := hide (fun h => by
                  have h4 := HR9.out
                  have h5 := hrow10
                  rw [hua h] at h4
                  rw [hva h] at h5
                  obtain ⟨r1, r2, r3, r4⟩ := row_all (row_call h4 hb10) h
                  obtain ⟨q1, q2, q3, q4⟩ := row_all h5 h
                  exact ⟨fun j _ hj => r1 j hj, r2, q1, below_call hb10 HB9.out⟩)
                have HB10 := hide (below_call hb10 HB9.out)
                clear hb10 hrow10 hvc HR9 HB9 N2 HC
                go_wp2_with (go_at_call 8; refine (num_any _ _).mono ?_; rintro e w9 ⟨rfl, hw9⟩; rw [hw9]; clear hw9)
                go_loopw [39] (fun i wr => ∃ k : Nat, i = .int .i64 k ∧ k ≤ ps.length ∧ Hid ((0 < ps.length → TwI V8 wr gu gv ps 0) ∧ Below V8.heap.size V8 wr)) (fun i _ => ps.length - (intOf i).toNat)
                case atStart => exact ⟨0, rfl, Nat.zero_le _, HTv.out, HB10.out⟩
                case round =>
                  obtain ⟨k, rfl, hk, hr⟩ := hrel
                  by_cases hlt : k < ps.length
                  · obtain rfl := hua (by omega)
                    obtain rfl := hva (by omega)
                    obtain ⟨hT0, hbw⟩ := hr.out
                    have hT := hT0 (by omega)
                    obtain ⟨⟨⟨⟨f1, f2⟩, ⟨t1, t2⟩⟩, ⟨⟨⟨l0, l1⟩, ⟨l2, l3⟩⟩, ⟨⟨h0, h1⟩, ⟨h2, h3⟩⟩⟩⟩, hpc⟩ : ∃ pc, ps[k] = pc := ⟨_, rfl⟩
                    have L0 := hT.l (Nat.zero_le _) hlt 0 _ (by omega) (by rw [hpc]; rfl)
                    have M0 := hT.m hlt 0 _ (by omega) (by rw [hpc]; rfl)
                    have L1 := hT.l (Nat.zero_le _) hlt 1 _ (by omega) (by rw [hpc]; rfl)
                    have M1 := hT.m hlt 1 _ (by omega) (by rw [hpc]; rfl)
                    have L2 := hT.l (Nat.zero_le _) hlt 2 _ (by omega) (by rw [hpc]; rfl)
                    have M2 := hT.m hlt 2 _ (by omega) (by rw [hpc]; rfl)
                    have L3 := hT.l (Nat.zero_le _) hlt 3 _ (by omega) (by rw [hpc]; rfl)
                    have M3 := hT.m hlt 3 _ (by omega) (by rw [hpc]; rfl)
                    have L4 := hT.l (Nat.zero_le _) hlt 4 _ (by omega) (by rw [hpc]; rfl)
                    have M4 := hT.m hlt 4 _ (by omega) (by rw [hpc]; rfl)
                    have L5 := hT.l (Nat.zero_le _) hlt 5 _ (by omega) (by rw [hpc]; rfl)
                    have M5 := hT.m hlt 5 _ (by omega) (by rw [hpc]; rfl)
                    have L6 := hT.l (Nat.zero_le _) hlt 6 _ (by omega) (by rw [hpc]; rfl)
                    have M6 := hT.m hlt 6 _ (by omega) (by rw [hpc]; rfl)
                    have L7 := hT.l (Nat.zero_le _) hlt 7 _ (by omega) (by rw [hpc]; rfl)
                    have M7 := hT.m hlt 7 _ (by omega) (by rw [hpc]; rfl)
                    have L8 := hT.l (Nat.zero_le _) hlt 8 _ (by omega) (by rw [hpc]; rfl)
                    have M8 := hT.m hlt 8 _ (by omega) (by rw [hpc]; rfl)
                    have L9 := hT.l (Nat.zero_le _) hlt 9 _ (by omega) (by rw [hpc]; rfl)
                    have M9 := hT.m hlt 9 _ (by omega) (by rw [hpc]; rfl)
                    have L10 := hT.l (Nat.zero_le _) hlt 10 _ (by omega) (by rw [hpc]; rfl)
                    have M10 := hT.m hlt 10 _ (by omega) (by rw [hpc]; rfl)
                    have L11 := hT.l (Nat.zero_le _) hlt 11 _ (by omega) (by rw [hpc]; rfl)
                    have M11 := hT.m hlt 11 _ (by omega) (by rw [hpc]; rfl)
                    simp only [Nat.add_zero] at L0 M0
                    have hne := neqPc f1 f2 t1 t2 l0 l1 l2 l3 h0 h1 h2 h3
                    have k9 : (0 : Int) ≤ (k : Int) := by omega
                    have k10 : (k : Int) < (ps.length : Int) := by omega
                    have HT := hide hT
                    have HBw := hide hbw
                    clear hT hT0 hbw hr hpc HTv
                    go_wp2_with fail
                    go_quiet (fail)
                    generalize hV : wr.drewN _ = V11
                    have HT9 : Hid (TwI V8 V11 gu gv ps 0) := hide (by rw [← hV]; exact HT.out.drewN _)
                    have HB11 : Hid (Below V8.heap.size V8 V11) := hide (by rw [← hV]; exact below_drewN HBw.out _)
                    clear hV HT HBw L0 M0 L1 M1 L2 M2 L3 M3 L4 M4 L5 M5 L6 M6 L7 M7 L8 M8 L9 M9 L10 M10 L11 M11
                    go_wp2
                    go_roundw
                    case rel => exact ⟨k + 1, by go_num, by omega, fun _ => HT9.out, HB11.out⟩
                    case measure => simp [intOf]; omega
                  · obtain rfl : k = ps.length := by omega
                    have HB12 := hide (below_call hr.out.2 HB8.out)
                    clear hr HTv HB10
                    go_wp2
                    go_ret
                    exact ⟨rfl, HB12.out⟩

end Go.Proofs.YtkjlkbgdkdcboaaGreatDoor
