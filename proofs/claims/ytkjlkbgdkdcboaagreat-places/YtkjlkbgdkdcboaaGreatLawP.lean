import Derived.Test.YtkjlkbgdkdcboaaGreatLwC
import Derived.Test.YtkjlkbgdkdcboaaGreatWhere

set_option linter.unusedSimpArgs false
set_option linter.unusedVariables false

namespace Go.Proofs.YtkjlkbgdkdcboaaGreat
open Go.RowKit
attribute [local go_sem ↓] Go.wp_at_zero Go.wp_at_succ

theorem below_drewN (B : Nat) (w : World) (n : Nat) : Below B w (w.drewN n) := ⟨rfl, rfl, rfl, Nat.le_refl _, fun _ _ => rfl⟩
theorem near_pos {f : Int × Int} (h : Acre.near f = true) : 0 < f.2 := by
  unfold Acre.near at h
  simp only [Bool.and_eq_true, decide_eq_true_eq] at h
  omega
theorem row_len {w : World} {base n size : Nat} {t : TypeId} {v : Value} {xs : List Value} (h : w.ownsRow base t size v n xs) : n ≤ maxLen := by
  rcases h.2 with ⟨_, rfl⟩ | ⟨g, cap, cur, _, _, _, h1, h2, _⟩
  · exact Nat.zero_le _
  · omega

set_option maxRecDepth 100000 in
set_option maxHeartbeats 8000000 in
theorem places_any (a b : ByteArray) (op : Int) (offer : ByteArray) (x y : Acre.Fc) (w : World) :
    Calls Tryz.prog 5 #[.string a, .string b, .int .i64 op, .string offer, .agg #[.int .i64 x.1, .int .i64 x.2], .agg #[.int .i64 y.1, .int .i64 y.2]] w fun e w' => e = .returned (.bool true) ∧ Below w.heap.size w w' := by
  have HA := hide (fun V => asked_any a b op V)
  have HC := hide (fun V => combine_any a b op offer V (fun h => (pair_ok h).1) (fun h => (pair_ok h).2.1) (fun h => (pair_ok h).2.2.1) (fun h => (pair_ok h).2.2.2))
  have HRa := hide (fun V => read_any a V)
  have HRb := hide (fun V => read_any b V)
  unfold ReadPost at HRa HRb
  obtain ⟨x1, x2⟩ := x
  obtain ⟨y1, y2⟩ := y
  dsimp only
  have hB0 := below2 w (.cells #[.int .i64 x1, .int .i64 x2] 33) (.cells #[.int .i64 y1, .int .i64 y2] 33)
  have bX : Box ((w.alloc (.cells #[.int .i64 x1, .int .i64 x2] 33)).alloc (.cells #[.int .i64 y1, .int .i64 y2] 33)) w.heap.size [.int .i64 x1, .int .i64 x2] := (Box.new w [.int .i64 x1, .int .i64 x2] 33).later (by simp) (below1 _ _)
  have bY : Box ((w.alloc (.cells #[.int .i64 x1, .int .i64 x2] 33)).alloc (.cells #[.int .i64 y1, .int .i64 y2] 33)) (w.heap.size + 1) [.int .i64 y1, .int .i64 y2] := by
    have := Box.new (w.alloc (.cells #[.int .i64 x1, .int .i64 x2] 33)) [.int .i64 y1, .int .i64 y2] 33
    simpa using this
  obtain ⟨er, her⟩ : ∃ er, errP a b op = er := ⟨_, rfl⟩
  obtain ⟨e1, e2⟩ := er
  rw [her] at HA
  dsimp only at HA
  go_enter Tryz.func5, Tryz.ntmps5
  go_wp2_with fail
  generalize (w.alloc (.cells #[.int .i64 x1, .int .i64 x2] 33)).alloc (.cells #[.int .i64 y1, .int .i64 y2] 33) = W0 at *
  refine (HA.out W0).mono ?_
  rintro e V1 ⟨u1, u2, at1, rfl, hb1⟩
  have bX1 := bX.later (by simp) hb1
  have bY1 := bY.later (by simp) hb1
  have hB1 := below_call hb1 hB0
  clear hb1 hB0 bX bY HA
  go_wp2_with fail
  refine (HC.out V1).mono ?_
  rintro e V2 ⟨hb2, hout⟩
  have bX2 := bX1.later (by simp) hb2
  have bY2 := bY1.later (by simp) hb2
  have hB2 := below_call hb2 hB1
  rw [her] at hout
  dsimp only at hout
  clear bX1 bY1 hB1 HC
  rcases hout with ⟨hne, rfl⟩ | ⟨he, lv, rfl, hrow⟩
  · have HB := hide hB2
    have hne2 : (e1 != 0) = true := by simpa using hne
    clear hB2 hb2
    go_wp2_with (go_at_call 8; refine (num_any _ _).mono ?_; rintro e w' ⟨rfl, hw'⟩; subst hw')
    go_ret
    exact ⟨rfl, HB.out⟩
  · subst he
    have h0 : (errP a b op).1 = 0 := by rw [her]
    obtain ⟨hra, hrb, hop⟩ := pair_fields h0
    have hFa := read_field hra
    have hFb := read_field hrb
    rw [hra] at HRa
    rw [hrb] at HRb
    obtain ⟨R, hR⟩ : ∃ R, (readP a).1 = R := ⟨_, rfl⟩
    obtain ⟨S, hS⟩ : ∃ S, (readP b).1 = S := ⟨_, rfl⟩
    obtain ⟨ra, hra2⟩ : ∃ ra, (readP a).2.2 = ra := ⟨_, rfl⟩
    obtain ⟨rb, hrb2⟩ : ∃ rb, (readP b).2.2 = rb := ⟨_, rfl⟩
    rw [hR, hra2] at HRa
    rw [hS, hrb2] at HRb
    have HMath := hide (fun hx hy => comb_right (a := a) (b := b) (op := op) offer h0 (x := (x1, x2)) (y := (y1, y2)) hx hy)
    rw [hR, hS] at HMath
    rw [hR] at hFa
    rw [hS] at hFb
    have hfl : ∀ {R : List (List Acre.Pt)}, Acre.fieldOk R = true → R.length ≤ maxLen ∧ ∀ r ∈ R, r.length ≤ maxLen := fun {R} h => by
      unfold Acre.fieldOk at h
      simp only [Bool.and_eq_true, decide_eq_true_eq, List.all_eq_true] at h
      refine ⟨by unfold maxLen; omega, fun r hr => ?_⟩
      have := h.2 r hr
      unfold Acre.ringOk at this
      simp only [Bool.and_eq_true, decide_eq_true_eq] at this
      unfold maxLen
      omega
    have HWa := hide (fun V v (h : Rings V v R) => where_any R v (x1, x2) (y1, y2) V h (hfl hFa).1 (hfl hFa).2)
    have HWb := hide (fun V v (h : Rings V v S) => where_any S v (x1, x2) (y1, y2) V h (hfl hFb).1 (hfl hFb).2)
    dsimp only at HWa HWb
    have hwa : whereP R (x1, x2) (y1, y2) = if (Acre.near (x1, x2) && Acre.near (y1, y2)) = true then (if ((Acre.edgesOf R).map Acre.up).any (fun e => Acre.isOnE e (x1, x2) (y1, y2)) = true then (1, 0) else if ((Acre.edgesOf R).map Acre.up).countP (fun e => Acre.isR e (x1, x2) (y1, y2)) % 2 = 1 then (2, 0) else (0, 0)) else (0, 6) := by unfold whereP; rw [hFa, Bool.true_and]
    have hwb : whereP S (x1, x2) (y1, y2) = if (Acre.near (x1, x2) && Acre.near (y1, y2)) = true then (if ((Acre.edgesOf S).map Acre.up).any (fun e => Acre.isOnE e (x1, x2) (y1, y2)) = true then (1, 0) else if ((Acre.edgesOf S).map Acre.up).countP (fun e => Acre.isR e (x1, x2) (y1, y2)) % 2 = 1 then (2, 0) else (0, 0)) else (0, 6) := by unfold whereP; rw [hFb, Bool.true_and]
    have Hwa := hide hwa
    have Hwb := hide hwb
    have Hop := hide hop
    have Hrow := hide hrow
    obtain ⟨la, lg, lcap, rfl, hla, _⟩ := row_form hrow
    clear hwa hwb hop hrow hR hS hra2 hrb2 hra hrb hFa hFb hfl her
    go_wp2_with fail
    refine (HRa.out V2).mono ?_
    rintro e V3 ⟨ua, rfl, hansA, hb3⟩
    have bX3 := bX2.later (by simp) hb3
    have bY3 := bY2.later (by simp) hb3
    have hB3 := below_call hb3 hB2
    have Hrow3 := hide (row_call Hrow.out hb3)
    have HansA := hide hansA.rings
    clear bX2 bY2 hB2 HRa hb2 hb3 hansA
    go_wp2_with fail
    refine (HRb.out V3).mono ?_
    rintro e V4 ⟨ub, rfl, hansB, hb4⟩
    have bX4 := bX3.later (by simp) hb4
    have bY4 := bY3.later (by simp) hb4
    have hB4 := below_call hb4 hB3
    have Hrow4 := hide (row_call Hrow3.out hb4)
    have HansA4 := hide (HansA.out.later hb4)
    have HansB := hide hansB.rings
    clear bX3 bY3 hB3 HRb hb4 hansB HansA Hrow3
    have x0 := bX4.c 0 _ rfl
    have x1' := bX4.c 1 _ rfl
    have y0 := bY4.c 0 _ rfl
    have y1' := bY4.c 1 _ rfl
    go_wp2_with (go_at_call 8; refine (num_any _ _).mono ?_; rintro e w9 ⟨rfl, hw9⟩; rw [hw9]; clear hw9)
    by_cases hn : (Acre.near (x1, x2) && Acre.near (y1, y2)) = true
    · have hwa := Hwa.out
      have hwb := Hwb.out
      rw [if_pos hn] at hwa hwb
      obtain ⟨hnx, hny⟩ := Bool.and_eq_true_iff.1 hn
      obtain ⟨p, hp1, hp2⟩ : ∃ p : Int, whereP R (x1, x2) (y1, y2) = (p, 0) ∧ (p = 1 ∨ (((Acre.edgesOf R).map Acre.up).any (fun e => Acre.isOnE e (x1, x2) (y1, y2)) = false ∧ p = if ((Acre.edgesOf R).map Acre.up).countP (fun e => Acre.isR e (x1, x2) (y1, y2)) % 2 = 1 then 2 else 0)) := by
        rw [hwa]
        cases hA : ((Acre.edgesOf R).map Acre.up).any (fun e => Acre.isOnE e (x1, x2) (y1, y2))
        · by_cases ho : ((Acre.edgesOf R).map Acre.up).countP (fun e => Acre.isR e (x1, x2) (y1, y2)) % 2 = 1
          · exact ⟨2, by rw [if_neg (by simp), if_pos ho], .inr ⟨rfl, by rw [if_pos ho]⟩⟩
          · exact ⟨0, by rw [if_neg (by simp), if_neg ho], .inr ⟨rfl, by rw [if_neg ho]⟩⟩
        · exact ⟨1, by rw [if_pos rfl], .inl rfl⟩
      obtain ⟨q, hq1, hq2⟩ : ∃ p : Int, whereP S (x1, x2) (y1, y2) = (p, 0) ∧ (p = 1 ∨ (((Acre.edgesOf S).map Acre.up).any (fun e => Acre.isOnE e (x1, x2) (y1, y2)) = false ∧ p = if ((Acre.edgesOf S).map Acre.up).countP (fun e => Acre.isR e (x1, x2) (y1, y2)) % 2 = 1 then 2 else 0)) := by
        rw [hwb]
        cases hA : ((Acre.edgesOf S).map Acre.up).any (fun e => Acre.isOnE e (x1, x2) (y1, y2))
        · by_cases ho : ((Acre.edgesOf S).map Acre.up).countP (fun e => Acre.isR e (x1, x2) (y1, y2)) % 2 = 1
          · exact ⟨2, by rw [if_neg (by simp), if_pos ho], .inr ⟨rfl, by rw [if_pos ho]⟩⟩
          · exact ⟨0, by rw [if_neg (by simp), if_neg ho], .inr ⟨rfl, by rw [if_neg ho]⟩⟩
        · exact ⟨1, by rw [if_pos rfl], .inl rfl⟩
      rw [hp1] at HWa
      rw [hq1] at HWb
      dsimp only at HWa HWb
      have hpb : 0 ≤ p ∧ p ≤ 2 := by
        rcases hp2 with rfl | ⟨_, rfl⟩
        · omega
        · split <;> omega
      have hqb : 0 ≤ q ∧ q ≤ 2 := by
        rcases hq2 with rfl | ⟨_, rfl⟩
        · omega
        · split <;> omega
      have HP2 := hide hp2
      have HQ2 := hide hq2
      have fx := near_fr hnx
      have fy := near_fr hny
      have HN1 := hide hnx
      have HN2 := hide hny
      clear hwa hwb Hwa Hwb hp1 hq1 hp2 hq2 hn
      refine (HWa.out V4 ua HansA4.out).mono ?_
      rintro e V5 ⟨rfl, hb5⟩
      have bX5 := bX4.later (by simp) hb5
      have bY5 := bY4.later (by simp) hb5
      have hB5 := below_call hb5 hB4
      have Hrow5 := hide (row_call Hrow4.out hb5)
      have HansB5 := hide (HansB.out.later hb5)
      clear x0 x1' y0 y1' bX4 bY4 hB4 Hrow4 HansB hb5 HWa HansA4
      have x0 := bX5.c 0 _ rfl
      have x1' := bX5.c 1 _ rfl
      have y0 := bY5.c 0 _ rfl
      have y1' := bY5.c 1 _ rfl
      go_wp2_with fail
      refine (HWb.out V5 ub HansB5.out).mono ?_
      rintro e V6 ⟨rfl, hb6⟩
      have bX6 := bX5.later (by simp) hb6
      have bY6 := bY5.later (by simp) hb6
      have hB6 := below_call hb6 hB5
      have Hrow6 := hide (row_call Hrow5.out hb6)
      clear x0 x1' y0 y1' bX5 bY5 hB5 Hrow5 HansB5 hb6 HWb
      have x0 := bX6.c 0 _ rfl
      have x1' := bX6.c 1 _ rfl
      have y0 := bY6.c 0 _ rfl
      have y1' := bY6.c 1 _ rfl
      go_wp2_with fail
      refine (rfrac_any _ _ _).mono ?_
      rintro e V7 ⟨rfl, hb7⟩
      have bX7 := bX6.later (by simp) hb7
      have bY7 := bY6.later (by simp) hb7
      have hB7 := below_call hb7 hB6
      have Hrow7 := hide (row_call Hrow6.out hb7)
      clear x0 x1' y0 y1' bX6 bY6 hB6 Hrow6 hb7
      go_wp2_with fail
      refine (fair_any x1 x2 _).mono ?_
      rintro e V8 ⟨rfl, hb8⟩
      have bX8 := bX7.later (by simp) hb8
      have bY8 := bY7.later (by simp) hb8
      have hB8 := below_call hb8 hB7
      have Hrow8 := hide (row_call Hrow7.out hb8)
      clear bX7 bY7 hB7 Hrow7 hb8
      rw [hnx]
      have y0 := bY8.c 0 _ rfl
      have y1' := bY8.c 1 _ rfl
      go_wp2_with fail
      refine (rfrac_any _ _ _).mono ?_
      rintro e V9 ⟨rfl, hb9⟩
      have bX9 := bX8.later (by simp) hb9
      have bY9 := bY8.later (by simp) hb9
      have hB9 := below_call hb9 hB8
      have Hrow9 := hide (row_call Hrow8.out hb9)
      clear hb9 hB8 bX8 bY8 Hrow8 y0 y1'
      go_wp2_with fail
      refine (fair_any y1 y2 _).mono ?_
      rintro e V10 ⟨rfl, hb10⟩
      rw [hny]
      have bX10 := bX9.later (by simp) hb10
      have bY10 := bY9.later (by simp) hb10
      have hB10 := below_call hb10 hB9
      have Hrow10 := hide (row_call Hrow9.out hb10)
      clear hb10 hB9 bX9 bY9 Hrow9 hnx hny
      have p1 : ¬ p < 0 := by omega
      have p2 : ¬ 2 < p := by omega
      have q1 : ¬ q < 0 := by omega
      have q2 : ¬ 2 < q := by omega
      by_cases hp : p = 1
      · subst hp
        have HB := hide hB10
        clear hB10
        go_wp2_with (go_at_call 8; refine (num_any _ _).mono ?_; rintro e w9 ⟨rfl, hw9⟩; rw [hw9]; clear hw9)
        go_ret
        exact ⟨rfl, HB.out⟩
      · by_cases hq : q = 1
        · subst hq
          have HB := hide hB10
          have hp3 : (p == 1) = false := by simpa using hp
          clear hB10
          go_wp2_with (go_at_call 8; refine (num_any _ _).mono ?_; rintro e w9 ⟨rfl, hw9⟩; rw [hw9]; clear hw9)
          go_ret
          exact ⟨rfl, HB.out⟩
        · have hp3 : (p == 1) = false := by simpa using hp
          have hq3 : (q == 1) = false := by simpa using hq
          go_wp2_with (go_at_call 8; refine (num_any _ _).mono ?_; rintro e w9 ⟨rfl, hw9⟩; rw [hw9]; clear hw9)
          have HB := hide hB10
          have hx0 : 0 < x2 := near_pos HN1.out
          have hy0 : 0 < y2 := near_pos HN2.out
          obtain ⟨hoA, hpA⟩ := HP2.out.resolve_left hp
          obtain ⟨hoB, hqB⟩ := HQ2.out.resolve_left hq
          obtain ⟨hgood, hcnt⟩ := HMath.out hx0 hy0 (not_on hoA) (not_on hoB)
          have hF := (pair_ok h0).1
          have HG := hide (fun pc (h : pc ∈ combP a b op offer) => (⟨(hgood pc h).2.1, (hgood pc h).2.2, fld_sm hF _ (hgood pc h).1.lo.1, fld_sm hF _ (hgood pc h).1.hi.1, (hgood pc h).1.lo.2, (hgood pc h).1.hi.2⟩ : CutOk pc.1.1 ∧ CutOk pc.1.2 ∧ SmE pc.2.1 ∧ SmE pc.2.2 ∧ Acre.upr pc.2.1 = false ∧ Acre.upr pc.2.2 = false))
          have hpA2 : (p == 2) = (((Acre.edgesOf R).map Acre.up).countP (fun e => Acre.isR e (x1, x2) (y1, y2)) % 2 == 1) := by
            rw [hpA]
            split <;> simp_all
          have hqB2 : (q == 2) = (((Acre.edgesOf S).map Acre.up).countP (fun e => Acre.isR e (x1, x2) (y1, y2)) % 2 == 1) := by
            rw [hqB]
            split <;> simp_all
          rw [← hpA2, ← hqB2] at hcnt
          have HCn := hide hcnt
          have hlen := row_len Hrow10.out
          have hop2 : 0 ≤ op ∧ op ≤ 3 := by have := Hop.out; omega
          clear hoA hpA hoB hqB hgood hcnt hF hpA2 hqB2 HMath HP2 HQ2 hB10 Hrow hp3 hq3 hx0 hy0
          generalize combP a b op offer = ps at *
          go_loopw [31, 32] (fun n i wr => ∃ k : Nat, i = .int .i64 k ∧ k ≤ ps.length ∧ n = .int .i64 ((ps.take k).countP (fun p => inP p (x1, x2) (y1, y2)) : Nat) ∧ Hid (Below V10.heap.size V10 wr)) (fun _ i _ => ps.length - (intOf i).toNat)
          case atStart => exact ⟨0, rfl, Nat.zero_le _, rfl, Below.refl _ _⟩
          case round =>
            obtain ⟨k, rfl, hk, rfl, hr⟩ := hrel
            have hX := bX10.later (by simp) hr.out
            have hY := bY10.later (by simp) hr.out
            by_cases hlt : k < ps.length
            · obtain rfl := hla (by omega)
              have hpw := row_call Hrow10.out hr.out
              have hlt2 : (k : Int) < (ps.length : Int) := by omega
              have hok := HG.out ps[k] (List.getElem_mem hlt)
              have htk : ps.take (k + 1) = ps.take k ++ [ps[k]] := List.take_succ_eq_append_getElem hlt
              have hcell : ∀ j v, j < 12 → (pcL ps[k])[j]? = some v → wr.cell? ⟨lg, k * 12 + j, none⟩ = some v := fun j v hj hv => by
                have := row_at (f := pcL) (m := 12) (fun _ => rfl) hpw k j hlt hj
                rw [this]
                exact hv
              obtain ⟨pc, hpc⟩ : ∃ pc, ps[k] = pc := ⟨_, rfl⟩
              rw [hpc] at hok hcell htk
              have HIn := hide (fun V => in_any pc (x1, x2) (y1, y2) V hok.1 hok.2.1 hok.2.2.1 hok.2.2.2.1 fx fy)
              have hcn : (ps.take (k + 1)).countP (fun p => inP p (x1, x2) (y1, y2)) = (ps.take k).countP (fun p => inP p (x1, x2) (y1, y2)) + if inP pc (x1, x2) (y1, y2) = true then 1 else 0 := by
                rw [htk, List.countP_append, List.countP_singleton]
              have HCN := hide hcn
              have hcl : (ps.take k).countP (fun p => inP p (x1, x2) (y1, y2)) ≤ k := Nat.le_trans List.countP_le_length (by rw [List.length_take]; omega)
              generalize (ps.take k).countP (fun p => inP p (x1, x2) (y1, y2)) = cn at *
              generalize inP pc (x1, x2) (y1, y2) = here at *
              have hf := hok.1.n.2.1
              have ht := hok.2.1.n.2.1
              have hlo := hok.2.2.2.2.1
              have hhi := hok.2.2.2.2.2
              obtain ⟨⟨⟨f1, f2⟩, ⟨t1, t2⟩⟩, ⟨⟨⟨l0, l1⟩, ⟨l2, l3⟩⟩, ⟨⟨k0, k1⟩, ⟨k2, k3⟩⟩⟩⟩ := pc
              unfold Acre.upr at hlo hhi
              dsimp only at hf ht hlo hhi HIn
              have hv : pcV (((f1, f2), (t1, t2)), (((l0, l1), (l2, l3)), ((k0, k1), (k2, k3)))) = .agg #[.int .i64 f1, .int .i64 f2, .int .i64 t1, .int .i64 t2, .int .i64 l0, .int .i64 l1, .int .i64 l2, .int .i64 l3, .int .i64 k0, .int .i64 k1, .int .i64 k2, .int .i64 k3] := rfl
              rw [hv] at HIn
              have m0 := hcell 0 _ (by omega) rfl
              have m1 := hcell 1 _ (by omega) rfl
              have m2 := hcell 2 _ (by omega) rfl
              have m3 := hcell 3 _ (by omega) rfl
              have m4 := hcell 4 _ (by omega) rfl
              have m5 := hcell 5 _ (by omega) rfl
              have m6 := hcell 6 _ (by omega) rfl
              have m7 := hcell 7 _ (by omega) rfl
              have m8 := hcell 8 _ (by omega) rfl
              have m9 := hcell 9 _ (by omega) rfl
              have m10 := hcell 10 _ (by omega) rfl
              have m11 := hcell 11 _ (by omega) rfl
              simp only [Nat.add_zero] at m0
              have x0 := hX.c 0 _ rfl
              have x1' := hX.c 1 _ rfl
              have y0 := hY.c 0 _ rfl
              have y1' := hY.c 1 _ rfl
              have hf2 : ¬ f2 < 1 := by omega
              have ht2 : ¬ t2 < 1 := by omega
              clear hcell hpc hpw htk hok hv hcn hf ht
              go_wp2_with fail
              go_quiet (fail)
              go_wp2_with fail
              go_region_with (first
                | (go_at_call 19; refine (HIn.out _).mono ?_; rintro e w1 ⟨rfl, hb1⟩)
                | go_in)
              all_goals
                have HB1 := hide (below_call hb1 (Below.drew (hr.out.trans ((below_drewN _ wr _).mono hr.out.size))))
                clear hb1 hr
                have hlen2 : ps.length ≤ 2 ^ 63 - 1 := hlen
                cases here
                · have hc : (ps.take (k + 1)).countP (fun p => inP p (x1, x2) (y1, y2)) = cn := HCN.out
                  have HC3 := hide hc
                  clear hc HCN
                  go_wp2
                  go_roundw
                  case rel => exact ⟨k + 1, by go_num, by omega, by rw [HC3.out], HB1⟩
                  case measure => simp [intOf]; omega
                · have hc : (ps.take (k + 1)).countP (fun p => inP p (x1, x2) (y1, y2)) = cn + 1 := HCN.out
                  have HC3 := hide hc
                  clear hc HCN
                  go_wp2
                  go_roundw
                  case rel => exact ⟨k + 1, by go_num, by omega, by rw [HC3.out]; go_num, HB1⟩
                  case measure => simp [intOf]; omega
            · obtain rfl : k = ps.length := by omega
              rw [List.take_length]
              have HBe := hide (below_call hr.out HB.out)
              clear hr
              have hge : ¬ ((ps.length : Int) < (ps.length : Int)) := by omega
              cases hK : Acre.opK op (p == 2) (q == 2)
              · have hc : ps.countP (fun p => inP p (x1, x2) (y1, y2)) = 0 := by rw [HCn.out, hK]; rfl
                rw [hc]
                have HK := hide hK
                clear hc hK HCn
                go_wp2_with fail
                refine (rop_any op _ _ _ hop2).mono ?_
                rintro e w1 ⟨rfl, rfl⟩
                rw [HK.out]
                go_wp2
                go_ret
                exact ⟨rfl, HBe.out⟩
              · have hc : ps.countP (fun p => inP p (x1, x2) (y1, y2)) = 1 := by rw [HCn.out, hK]; rfl
                rw [hc]
                have HK := hide hK
                clear hc hK HCn
                go_wp2_with fail
                refine (rop_any op _ _ _ hop2).mono ?_
                rintro e w1 ⟨rfl, rfl⟩
                rw [HK.out]
                go_wp2
                go_ret
                exact ⟨rfl, HBe.out⟩
    · have hwa := Hwa.out
      have hwb := Hwb.out
      rw [if_neg hn] at hwa hwb
      rw [hwa] at HWa
      rw [hwb] at HWb
      dsimp only at HWa HWb
      clear hwa hwb Hwa Hwb HMath
      refine (HWa.out V4 ua HansA4.out).mono ?_
      rintro e V5 ⟨rfl, hb5⟩
      have bX5 := bX4.later (by simp) hb5
      have bY5 := bY4.later (by simp) hb5
      have hB5 := below_call hb5 hB4
      have Hrow5 := hide (row_call Hrow4.out hb5)
      have HansB5 := hide (HansB.out.later hb5)
      clear x0 x1' y0 y1' bX4 bY4 hB4 Hrow4 HansB hb5 HWa HansA4
      have x0 := bX5.c 0 _ rfl
      have x1' := bX5.c 1 _ rfl
      have y0 := bY5.c 0 _ rfl
      have y1' := bY5.c 1 _ rfl
      go_wp2_with fail
      refine (HWb.out V5 ub HansB5.out).mono ?_
      rintro e V6 ⟨rfl, hb6⟩
      have bX6 := bX5.later (by simp) hb6
      have bY6 := bY5.later (by simp) hb6
      have hB6 := below_call hb6 hB5
      have Hrow6 := hide (row_call Hrow5.out hb6)
      clear x0 x1' y0 y1' bX5 bY5 hB5 Hrow5 HansB5 hb6 HWb
      have x0 := bX6.c 0 _ rfl
      have x1' := bX6.c 1 _ rfl
      have y0 := bY6.c 0 _ rfl
      have y1' := bY6.c 1 _ rfl
      go_wp2_with fail
      refine (rfrac_any _ _ _).mono ?_
      rintro e V7 ⟨rfl, hb7⟩
      have bX7 := bX6.later (by simp) hb7
      have bY7 := bY6.later (by simp) hb7
      have hB7 := below_call hb7 hB6
      have Hrow7 := hide (row_call Hrow6.out hb7)
      clear x0 x1' y0 y1' bX6 bY6 hB6 Hrow6 hb7
      go_wp2_with fail
      refine (fair_any x1 x2 _).mono ?_
      rintro e V8 ⟨rfl, hb8⟩
      have bX8 := bX7.later (by simp) hb8
      have bY8 := bY7.later (by simp) hb8
      have hB8 := below_call hb8 hB7
      have Hrow8 := hide (row_call Hrow7.out hb8)
      clear bX7 bY7 hB7 Hrow7 hb8
      have y0 := bY8.c 0 _ rfl
      have y1' := bY8.c 1 _ rfl
      cases hnx : Acre.near (x1, x2)
      · have HB := hide hB8
        clear hB8
        go_wp2_with (go_at_call 8; refine (num_any _ _).mono ?_; rintro e w9 ⟨rfl, hw9⟩; rw [hw9]; clear hw9)
        go_ret
        exact ⟨rfl, HB.out⟩
      · have hny : Acre.near (y1, y2) = false := by rw [hnx] at hn; simpa using hn
        go_wp2_with fail
        refine (rfrac_any _ _ _).mono ?_
        rintro e V9 ⟨rfl, hb9⟩
        have hB9 := below_call hb9 hB8
        clear hb9 hB8
        go_wp2_with fail
        refine (fair_any y1 y2 _).mono ?_
        rintro e V10 ⟨rfl, hb10⟩
        rw [hny]
        have HB := hide (below_call hb10 hB9)
        clear hb10 hB9
        go_wp2_with (go_at_call 8; refine (num_any _ _).mono ?_; rintro e w9 ⟨rfl, hw9⟩; rw [hw9]; clear hw9)
        go_ret
        exact ⟨rfl, HB.out⟩

end Go.Proofs.YtkjlkbgdkdcboaaGreat
