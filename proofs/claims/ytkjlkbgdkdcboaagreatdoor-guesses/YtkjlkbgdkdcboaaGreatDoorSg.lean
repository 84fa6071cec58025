import Derived.Test.YtkjlkbgdkdcboaaGreatDoorLy
import Derived.Test.YtkjlkbgdkdcboaaGreatDoorSE
import Derived.Test.YtkjlkbgdkdcboaaGreatDoorHB
import Derived.Test.YtkjlkbgdkdcboaaGreatDoorJG
import Derived.Test.YtkjlkbgdkdcboaaGreatDoorWcA

set_option linter.unusedSimpArgs false
set_option linter.unusedVariables false

set_option linter.unusedSimpArgs false
set_option linter.unusedVariables false
namespace Go.Proofs.YtkjlkbgdkdcboaaGreatDoor
open Go.RowKit Go.Maps Go.Shelf Fl
structure SpG (E : List Acre.Ed) (pre : List Gs) : Prop where
  len : pre.length ≤ 324
  ok : ∀ x ∈ pre, x.2.2.length ≤ 24 ∧ (∀ y ∈ x.2.2, y.1 ∈ E) ∧ FrB x.1.1 ∧ FrB x.1.2
theorem row_same {W W' : World} {base size k : Nat} {e : TypeId} {v : Value} {xs : List Value} (h : W.ownsRow base e size v k xs) (hk : ∀ (b : Nat) (o : Obj), W.heap[b]? = some o → tagOf o = some e → v.ownBlock = some b → W'.heap[b]? = some o) : W'.ownsRow base e size v k xs := by
  refine ⟨h.1, ?_⟩
  rcases h.2 with h' | ⟨g, cap, cur, h1, h2, h3, h4⟩
  · exact .inl h'
  · exact .inr ⟨g, cap, cur, h1, h2, hk g _ h3 rfl (by rw [h1]; rfl), h4⟩
theorem HS.same {W W' : World} {hb base g cap n : Nat} {X : Nat → Nat × Nat} (h : HS W hb base g cap n X) (hk : ∀ (b : Nat) (o : Obj), W.heap[b]? = some o → (tagOf o = some 120 ∨ tagOf o = some 112) → W'.heap[b]? = some o) : HS W' hb base g cap n X := by
  have t : Boxed W' hb 112 (.slice (some ⟨g, 0, none⟩) n cap) := hk _ _ h.tag (.inr rfl)
  exact ⟨t.cell, t.frozen, row_same h.row (fun b o hb' ht _ => hk b o hb' (.inl ht)), h.lt, t⟩
structure SwE (W wr : World) (BP gs caps n : Nat) (S : Nat → Sk) (u : Value) (kk : Nat) (op : Int) (E : List Acre.Ed) (base : Nat) : Prop where
  row : wr.ownsRow W.heap.size 167 3 (.slice (some ⟨gs, 0, none⟩) n caps) n (rowS S n)
  bp : wr.heap[BP]? = some (.cells #[u, .int .i64 kk, .int .i64 op] 48 (0, 0))
  er : wr.ownsRow base 42 4 u E.length (flatE E)
theorem SwE.same {W wr w' : World} {BP gs caps n : Nat} {S : Nat → Sk} {u : Value} {kk : Nat} {op : Int} {E : List Acre.Ed} {base : Nat} (h : SwE W wr BP gs caps n S u kk op E base) (hk : ∀ (b : Nat) (o : Obj), wr.heap[b]? = some o → (tagOf o = some 167 ∨ tagOf o = some 48 ∨ tagOf o = some 42) → w'.heap[b]? = some o) : SwE W w' BP gs caps n S u kk op E base :=
  ⟨row_same h.row (fun b o hb ht _ => hk b o hb (.inl ht)), hk _ _ h.bp (.inr (.inl rfl)), row_same h.er (fun b o hb ht _ => hk b o hb (.inr (.inr ht)))⟩
theorem Oth.keep {W W' : World} (h : Oth W W') (b : Nat) (o : Obj) (hb : W.heap[b]? = some o) (ht : tagOf o = some 167 ∨ tagOf o = some 48 ∨ tagOf o = some 42) : W'.heap[b]? = some o :=
  h.same b o hb (by rw [tagC_of]; rcases ht with e | e | e <;> rw [e] <;> decide) (by rw [tagC_of]; rcases ht with e | e | e <;> rw [e] <;> decide)
structure HpK (W wr : World) (hb g cap m : Nat) (X : Nat → Nat × Nat) (cl : List Rat) (xp : Rat) : Prop where
  hs : HS wr hb W.heap.size g cap m X
  fr : Hq.From (kX X) 0 m
  ok : ∀ t, t < m → Md (X t).1 12 ∧ V (X t).1 ∈ cl ∧ xp < V (X t).1
theorem HpK.call {W wr w' : World} {hb g cap m : Nat} {X : Nat → Nat × Nat} {cl : List Rat} {xp : Rat} (h : HpK W wr hb g cap m X cl xp) (hw : Below wr.heap.size wr w') : HpK W w' hb g cap m X cl xp :=
  ⟨h.hs.same (fun b o hb' _ => below_heap hw hb'), h.fr, h.ok⟩
structure PvK (W wr : World) (BP hb gs caps n : Nat) (S : Nat → Sk) (cl : List Rat) (u : Value) (kk : Nat) (op : Int) (E : List Acre.Ed) (base : Nat) (J : List Gs → World → Prop) (pre : List Gs) (x b5 b6 gl capl nl : Nat) (T : Nat → Sk) (lc : Value) (q : Nat) (C : Nat → Nat × Nat) (m2 j : Nat) : Prop where
  hp : ∃ g cap m X, HpK W wr hb g cap m X cl (V x) ∧ m ≤ m2 + j ∧ lc.ownBlock ≠ some g
  cr : wr.ownsRow b6 120 1 lc q (rowX C q)
  lv : wr.ownsRow b5 167 3 (.slice (some ⟨gl, 0, none⟩) nl capl) nl (rowS T nl)
  en : SwE W wr BP gs caps n S u kk op E base
  j : J pre wr
structure SwV (W wr : World) (BP hb gs caps n : Nat) (S : Nat → Sk) (cl : List Rat) (u : Value) (kk : Nat) (op : Int) (E : List Acre.Ed) (base : Nat) (J : List Gs → World → Prop) (pre : List Gs) (k : Nat) : Prop where
  hp : ∃ g cap m X xp, HpK W wr hb g cap m X cl xp ∧ m ≤ 48 + 24 * pre.length ∧ k = ahead cl xp ∧ pre.length + k ≤ 324
  en : SwE W wr BP gs caps n S u kk op E base
  sp : SpG E pre
  j : J pre wr
theorem md_12 {x : Nat} (h : Md x 12) : Md x 24 ∧ Md x 1048576 := ⟨md_mono h (by decide), md_mono h (by decide)⟩
theorem ends_ok {S : Nat → Sk} {n : Nat} {cl : List Rat} {p : Nat × Nat} (hok : ∀ t, t < n → ∃ a b c d, SkOk (S t) a b c d) (hcl : ∀ t, t < n → V (S t).2.1.1 ∈ cl ∧ V (S t).2.2.1 ∈ cl) (h : ∃ t, t < n ∧ (p = (S t).2.1 ∨ p = (S t).2.2)) : Md p.1 12 ∧ V p.1 ∈ cl := by
  obtain ⟨t, ht, h⟩ := h
  obtain ⟨a, b, c, d, hs⟩ := hok t ht
  have l1 := hs.la
  have l2 := hs.lc
  rcases h with rfl | rfl
  · exact ⟨zn_md (K := 12) hs.ax (by omega) (by omega), (hcl t ht).1⟩
  · exact ⟨zn_md (K := 12) hs.bx (by omega) (by omega), (hcl t ht).2⟩
set_option maxRecDepth 100000 in
set_option maxHeartbeats 8000000 in
theorem sweep1_in (nn : Nat) (hnn : 2 ≤ nn) (l BP base : Nat) (E : List Acre.Ed) (u : Value) (kk : Nat) (op : Int) (J Jx : List Gs → World → Prop)
    (hY : ∀ pre x W1, J pre W1 → GlV W1 E x → SpG E (pre ++ [x]) → pre.length < 324 → YieldAt Fence.wide (nn - 1) Tryz.prog l #[gsV x] W1 fun e W' =>
      (e = .returned (.bool true) ∧ J (pre ++ [x]) W' ∧ KeepI W1 W') ∨ (e = .returned (.bool false) ∧ Jx (pre ++ [x]) W'))
    (W : World) (hJ : AbT W.heap.size J) (bP : W.heap[BP]? = some (.cells #[u, .int .i64 kk, .int .i64 op] 48 (0, 0)))
    (hE : W.ownsRow base 42 4 u E.length (flatE E)) (hgr : ∀ e ∈ E, Acre.onGrid e.1 = true ∧ Acre.onGrid e.2 = true) (hEl : E.length ≤ 24) (hkk : kk ≤ 24) (h0 : J [] W) :
    CallsIn Fence.wide nn Tryz.prog 38 #[.func (.yield l) #[] #[], .pointer (some ⟨BP, 0, none⟩)] W fun e W' => (∃ v, e = .returned v) ∧
      ((∃ xs : List Gs, SpG E xs ∧ J xs W') ∨ (∃ pre : List Gs, SpG E pre ∧ Jx pre W')) := by
  obtain ⟨crX, hcr⟩ := exists_crX
  obtain ⟨ga, gb, gcap, rfl, hga, hcap⟩ := row_form hE
  have p3 := box_of_heap (l := [_, _, _]) bP
  have c30 := p3.c 0 _ rfl
  have HSo := hide (strokesOf_any E _ base W hE hgr hEl)
  have H0 := hide h0
  clear p3 h0
  refine callsIn_of_wp Tryz.func38 rfl trivial ?_ rfl
  simp only [Tryz.ntmps38, List.size_toArray, List.length_cons, List.length_nil, Nat.reduceAdd, Nat.reduceSub, Array.replicate_succ, Array.replicate_zero, List.push_toArray, List.append_toArray, List.nil_append, List.cons_append]
  gi_wp2_with fail
  refine ⟨trivial, fun _ => by omega, ?_⟩
  refine (callsIn_wide.2 HSo.out).mono ?_
  rintro e w1 ⟨l0, rfl, ⟨n, S, hS1, hn, hS0, hS2⟩, hb1⟩
  have HEn := hide (endsOf_any W.heap.size n l0 S w1 hS1 (by omega))
  clear HSo c30
  gi_wp2_with fail
  refine ⟨trivial, fun _ => by omega, ?_⟩
  refine (callsIn_wide.2 HEn.out).mono ?_
  rintro e w2 ⟨l1, rfl, ⟨m, X, hm, hX1, hX0, hX2⟩, hb2⟩
  clear HEn
  have hbx := Boxed.new w2 112 l1
  have b23 := below1 w2 (.cells #[l1] 112)
  by_cases hn0 : n = 0
  · obtain rfl := hS0 hn0
    obtain rfl := hX0 hn0
    have HIn := hide (init_nil w2.heap.size _ hbx.cell)
    have HJ0 := hide (hJ [] W _ H0.out (KeepO.of_below (below_more (below_more hb1 hb2) b23) (Nat.le_refl _)))
    have c0 := hbx.cell
    clear hS1 hS2 hX1 hX2 hb1 hb2 b23 hbx hY hJ hE
    gi_wp2_with fail
    refine ⟨trivial, fun _ => by omega, ?_⟩
    refine (callsIn_wide.2 HIn.out).mono ?_
    rintro e w9 ⟨rfl, hw9⟩
    rw [hw9]
    clear hw9 HIn
    generalize w2.alloc (.cells #[.slice none 0 0] 112) = W3 at *
    gi_wp2
    gi_loopw [] (fun wr => wr = W3) (fun _ => 0)
    case atStart => exact rfl
    case round =>
      subst hrel
      gi_wp2
      go_end0
      exact ⟨⟨_, rfl⟩, .inl ⟨[], ⟨by simp, by simp⟩, HJ0.out⟩⟩
  · obtain ⟨sa, gs, caps, rfl, hsa, _⟩ := row_form hS1
    obtain rfl := hsa (by omega)
    obtain ⟨xa, g0, cap0, rfl, hxa, _⟩ := row_form hX1
    obtain rfl := hxa (by omega)
    have s1 := hb1.size
    have s2 := hb2.size
    obtain ⟨cl, hcl1, hcl2, hcl3⟩ := exists_cand crX S n (by omega)
    have Hcl3 := hide hcl3
    have hHS : HS (w2.alloc (.cells #[.slice (some ⟨g0, 0, none⟩) m cap0] 112)) w2.heap.size W.heap.size g0 cap0 m X := ⟨hbx.cell, hbx.frozen, row_call (row_base hX1 s1) b23, by omega, hbx⟩
    have HOk := hide (fun t ht => ends_ok (p := X t) (fun t ht => (hS2 t ht).2) hcl2 (hX2 t ht))
    have HIn := hide (init_any w2.heap.size W.heap.size g0 cap0 m X _ hHS (fun t ht => (HOk.out t ht).1.fi) (by omega))
    have bW3 := below_more (below_more hb1 hb2) b23
    have HJ0 := hide (hJ [] W _ H0.out (KeepO.of_below bW3 (Nat.le_refl _)))
    have HE0 : Hid (SwE W (w2.alloc (.cells #[.slice (some ⟨g0, 0, none⟩) m cap0] 112)) BP gs caps n S (.slice ga E.length gcap) kk op E base) := hide ⟨row_call (row_call hS1 hb2) b23, below_heap bW3 bP, row_call hE bW3⟩
    have HHS := hide hHS
    have HS2 := hide hS2
    have Hm := hide hm
    have hmb : m ≤ 48 := by omega
    clear hS1 hS2 hX1 hX2 hb1 hb2 b23 hbx hE hHS bW3 hS0 hX0 hm hxa hsa bP s1 s2
    gi_wp2_with fail
    refine ⟨trivial, fun _ => by omega, ?_⟩
    refine (callsIn_wide.2 HIn.out).mono ?_
    rintro e w4 ⟨Y, rfl, hHS4, hfr4, hmx4, hkp4⟩
    clear HIn
    generalize hW3 : w2.alloc (.cells #[.slice (some ⟨g0, 0, none⟩) m cap0] 112) = W3 at *
    generalize hhb : w2.heap.size = hb at *
    have HV : Hid (SwV W w4 BP hb gs caps n S cl (.slice ga E.length gcap) kk op E base J [] (ahead cl (-13))) := by
      have hoth := HHS.out.oth hkp4.2
      refine ⟨⟨g0, cap0, m, Y, -13, ⟨hHS4, hfr4, fun t ht => ?_⟩, by simp; omega, rfl, by simp; exact ahead_le hcl1 _⟩, HE0.out.same hoth.keep, ⟨by simp, by simp⟩, hJ [] _ _ HJ0.out ⟨hkp4.1 _ _ (Nat.le_refl _) (Below.refl _ _), hoth⟩⟩
      obtain ⟨s, s1, s2⟩ := hmx4.mem t ht
      rw [s2]
      have := HOk.out s s1
      exact ⟨this.1, this.2, by have := this.1.lo; grind⟩
    clear hHS4 hfr4 hmx4 hkp4 HHS HJ0 HE0 HOk H0 hcl2 hcl3
    obtain ⟨fm, hfm⟩ := exists_mu (fun (wr : World) k => ∃ pre, SwV W wr BP hb gs caps n S cl (.slice ga E.length gcap) kk op E base J pre k)
    have HFm := hide hfm
    clear hfm
    gi_wp2
    gi_loopw [] (fun wr => ∃ pre k, Hid (SwV W wr BP hb gs caps n S cl (.slice ga E.length gcap) kk op E base J pre k)) (fun wr => fm wr)
    case atStart => exact ⟨[], _, HV.out⟩
    case round =>
      clear HV
      obtain ⟨pre0, k0, hr0⟩ := hrel
      obtain ⟨⟨pre, hr⟩, hmin⟩ := HFm.out wr k0 ⟨pre0, hr0.out⟩
      obtain ⟨kq, hkq⟩ : ∃ kq, fm wr = kq := ⟨_, rfl⟩
      rw [hkq] at hr hmin
      clear hr0 hmin
      obtain ⟨g, cap, m1, X1, xp, hK, hmb1, hka, hkl⟩ := hr.hp
      have HEn := hide hr.en
      have HSp := hide hr.sp
      have HJp := hide hr.j
      have Hkq := hide hkq
      have Hka := hide hka
      have HK := hide hK
      have slot := hK.hs.slot
      have hpl := hr.sp.len
      clear hr hkq hka hK
      cases m1 with
      | zero =>
        gi_wp2
        go_end0
        exact ⟨⟨_, rfl⟩, .inl ⟨pre, HSp.out, HJp.out⟩⟩
      | succ m1 =>
        have HN := hide (next_any hb W.heap.size g cap m1 X1 wr HK.out.hs (fun t ht => (md_12 (HK.out.ok t ht).1).2) (by omega) HK.out.fr)
        have hx12 := (HK.out.ok 0 (by omega)).1
        have hxc := (HK.out.ok 0 (by omega)).2.1
        have hxp := (HK.out.ok 0 (by omega)).2.2
        obtain ⟨x, hxe⟩ : ∃ x, (X1 0).1 = x := ⟨_, rfl⟩
        rw [hxe] at HN hx12 hxc hxp
        have hless := ahead_lt hxc hxp
        have k0 : (0 : Int) < ((m1 + 1 : Nat) : Int) := by omega
        have Hhx := hide hx12
        have Hless := hide hless
        clear hxc hxp hless hx12 hxe
        gi_wp2_with fail
        refine ⟨trivial, fun _ => by omega, ?_⟩
        refine (callsIn_wide.2 HN.out).mono ?_
        rintro e w5 ⟨m2, Y, rfl, hm2, hHS5, hfr5, hmem5, hgt5, hkp5⟩
        have hoth5 := HK.out.hs.oth hkp5.2
        have HE5 := hide (HEn.out.same hoth5.keep)
        have HJ5 := hide (hJ pre _ _ HJp.out ⟨hkp5.1 _ _ (Nat.le_refl _) (Below.refl _ _), hoth5⟩)
        have HK5 : Hid (HpK W w5 hb g cap m2 Y cl (V x)) := hide ⟨hHS5, hfr5, fun t ht => by
          obtain ⟨s, s1, s2⟩ := hmem5 t ht
          have h1 := HK.out.ok s s1
          have h2 := hgt5 t ht
          rw [s2] at h2 ⊢
          exact ⟨h1.1, h1.2.1, h2⟩⟩
        clear hHS5 hfr5 hmem5 hgt5 hkp5 hoth5 HN HK HEn HJp slot k0
        have HL := hide (liveAt_any W.heap.size gs caps n x S w5 ⟨HE5.out.row⟩ (by omega) (md_12 Hhx.out).1 (fun t ht => (HS2.out t ht).2))
        gi_wp2_with fail
        refine ⟨trivial, fun _ => by omega, ?_⟩
        refine (callsIn_wide.2 HL.out).mono ?_
        rintro e w6 ⟨gl, capl, nl, T, rfl, hT, hnl, hTS, hb6⟩
        have HTok : Hid (∀ t, t < nl → (T t).1 < E.length ∧ ∃ a b c d, SkOk (T t) a b c d) := hide (fun t ht => by
          obtain ⟨s, s1, s2⟩ := hTS t ht
          rw [s2]
          exact HS2.out s s1)
        have HTS := hide hTS
        have HP := hide (past_any crX hcr w5.heap.size gl capl nl x T w6 hT (by omega) (md_12 Hhx.out).1 (fun t ht => (HTok.out t ht).2))
        have Hb6 := hide hb6
        have HT6 := hide hT.row
        clear HL hT hTS hb6
        gi_wp2_with fail
        refine ⟨trivial, fun _ => by omega, ?_⟩
        refine (callsIn_wide.2 HP.out).mono ?_
        rintro e w7 ⟨lc, rfl, ⟨q, C, hC1, hq, hC2⟩, hb7⟩
        obtain ⟨ca, gc, ccap, rfl, hca, _⟩ := row_form hC1
        have HCok : Hid (∀ j, j < q → Md (C j).1 12 ∧ V (C j).1 ∈ cl ∧ V x < V (C j).1) := hide (fun j hj => by
          obtain ⟨i, hi, hneg, hce, hlo, hhi⟩ := hC2 j hj
          obtain ⟨s, s1, s2⟩ := HTS.out i (by omega)
          obtain ⟨r, r1, r2⟩ := HTS.out (i + 1) (by omega)
          have hng : Neg (S s) (S r) := by
            rw [← s2, ← r2]
            exact hneg
          refine ⟨?_, ?_, hlo⟩
          · obtain ⟨a, b, c, d, a', b', c', d', z1, z2, z3⟩ := hneg
            obtain ⟨_, _, _, _, _, _, hci⟩ := hcr _ _ _ _ _ _ _ _ _ _ z1 z2 z3
            have hmx := hci.mx
            rw [← hce] at hmx
            exact ⟨hmx.fi, by have := Hhx.out.lo; grind, by grind⟩
          · rw [hce, s2, r2]
            exact Hcl3.out _ _ s1 r1 hng)
        have HPv : Hid (PvK W w7 BP hb gs caps n S cl (.slice ga E.length gcap) kk op E base J pre x w5.heap.size w6.heap.size gl capl nl T (.slice ca q ccap) q C m2 0) := by
          have s6 := HK5.out.hs.row.lt g rfl
          have hbb := below_more Hb6.out hb7
          have hsz : W.heap.size ≤ w5.heap.size := by have := HK5.out.hs.lt; have := HK5.out.hs.tag.lt; omega
          refine ⟨⟨g, cap, m2, Y, HK5.out.call hbb, by omega, fun e => ?_⟩, hC1, row_call HT6.out hb7, HE5.out.same (fun b o hb' _ => below_heap hbb hb'), hJ pre _ _ HJ5.out (KeepO.of_below hbb hsz)⟩
          have := (hC1.lt g e).1
          have := Hb6.out.size
          omega
        clear hC1 hC2 hb7 HP HJ5 HK5 HE5 HT6 Hb6 HTS
        gi_wp2
        gi_loopw [28] (fun i wr => ∃ j : Nat, i = .int .i64 (j : Nat) ∧ j ≤ q ∧ Hid (PvK W wr BP hb gs caps n S cl (.slice ga E.length gcap) kk op E base J pre x w5.heap.size w6.heap.size gl capl nl T (.slice ca q ccap) q C m2 j)) (fun i _ => q - (intOf i).toNat)
        case atStart => exact ⟨0, rfl, Nat.zero_le _, HPv⟩
        case round =>
          clear HPv
          obtain ⟨j, rfl, hj, hr⟩ := hrel
          by_cases hlt : j < q
          · obtain rfl := hca (by omega)
            obtain ⟨g3, cap3, m3, X3, hK3, hm3, hne3⟩ := hr.out.hp
            have cj : wr.cell? ⟨gc, j, none⟩ = some (.complex .f64 (C j).1 (C j).2) := by
              rw [hr.out.cr.cellAt j (by omega), rowX_at C hlt]; rfl
            have HPu := hide (pushH_any hb W.heap.size g3 cap3 m3 (C j).1 (C j).2 X3 wr hK3.hs (fun t ht => (hK3.ok t ht).1.fi) (HCok.out j hlt).1.fi (by omega) hK3.fr)
            have d1 : decide ((j : Int) < (q : Int)) = true := decide_eq_true (by omega)
            have d1' : decide (j < q) = true := decide_eq_true hlt
            have bj : j ≤ 1000000 := by omega
            have HK3 := hide hK3
            have Hne3 := hide hne3
            clear hK3 hne3
            gi_wp2_with fail
            refine ⟨trivial, fun _ => by omega, ?_⟩
            refine (callsIn_wide.2 HPu.out).mono ?_
            rintro e w9 ⟨rfl, g4, cap4, Z, hHS9, hfr9, hmem9, hgg, hkp9⟩
            have HN : Hid (PvK W w9 BP hb gs caps n S cl (.slice ga E.length gcap) kk op E base J pre x w5.heap.size w6.heap.size gl capl nl T (.slice (some ⟨gc, 0, none⟩) q ccap) q C m2 (j + 1)) := by
              have hoth := HK3.out.hs.oth hkp9.2
              have hcr := hr.out.cr
              refine ⟨⟨g4, cap4, m3 + 1, Z, ⟨hHS9, hfr9, fun t ht => ?_⟩, by omega, fun e => ?_⟩, ?_, ?_, hr.out.en.same hoth.keep, hJ pre _ _ hr.out.j ⟨hkp9.1 _ _ (Nat.le_refl _) (Below.refl _ _), hoth⟩⟩
              · rcases hmem9 t ht with h1 | ⟨s, s1, s2⟩
                · rw [h1]; exact HCok.out j hlt
                · rw [s2]; exact HK3.out.ok s s1
              · rcases hgg with h1 | h1
                · rw [h1] at e; exact Hne3.out e
                · have := (hcr.lt g4 e).2
                  omega
              · refine row_same hcr (fun b o hb' ht hown => (hkp9.2.same b (Array.getElem?_eq_some_iff.1 hb').1 (fun e => ?_) (fun e => Hne3.out (by rw [hown, e]))).trans hb')
                subst e
                have h2 := HK3.out.hs.tag
                unfold Boxed at h2
                rw [h2] at hb'
                cases hb'
                cases ht
              · exact row_same hr.out.lv (fun b o hb' ht _ => hoth.keep b o hb' (.inl ht))
            clear hHS9 hfr9 hmem9 hgg hkp9 HPu cj hr HK3 Hne3
            gi_wp2
            go_roundw
            case rel => exact ⟨j + 1, by go_num, by omega, HN⟩
            case measure => simp [intOf]; omega
          · obtain rfl : j = q := by omega
            obtain ⟨g3, cap3, m3, X3, hK3, hm3, _⟩ := hr.out.hp
            have HK3 := hide hK3
            have HE3 := hide hr.out.en
            have HJ3 := hide hr.out.j
            have HT3 := hide hr.out.lv
            have slot := hK3.hs.slot
            clear hr hK3 hlt
            cases m3 with
            | zero =>
              gi_wp2
              refine bodyPost_ret (results_none rfl _ _ _) rfl ?_
              exact ⟨⟨_, rfl⟩, .inl ⟨pre, HSp.out, HJ3.out⟩⟩
            | succ m3 =>
              have c0 := HK3.out.hs.at (t := 0) (by omega)
              have hy12 := (HK3.out.ok 0 (by omega)).1
              have k0 : (0 : Int) < ((m3 + 1 : Nat) : Int) := by omega
              obtain ⟨⟨y, y'⟩, hye⟩ : ∃ p, X3 0 = p := ⟨_, rfl⟩
              rw [hye] at c0 hy12
              dsimp only at c0 hy12
              have HNr := hide (fun V => nearest_any y V hy12.fi hy12.lo hy12.hi)
              have HNx := hide (fun V => nearest_any x V Hhx.out.fi Hhx.out.lo Hhx.out.hi)
              clear hye hy12
              gi_wp2_with fail
              refine ⟨trivial, fun _ => by omega, ?_⟩
              refine (callsIn_wide.2 (HNr.out _)).mono ?_
              rintro e w10 ⟨N2, D2, rfl, hb10, hN2, hD2⟩
              have b11 := below1 w10 (.cells #[.int .i64 N2, .int .i64 D2] 38)
              have hbx := Box.new w10 [.int .i64 N2, .int .i64 D2] 38
              have hbb := below_more hb10 b11
              have hszr : W.heap.size ≤ wr.heap.size := by have := HK3.out.hs.lt; have := HK3.out.hs.tag.lt; omega
              have HK13 := hide (HK3.out.call hbb)
              have HE13 := hide (HE3.out.same (fun b o hb' _ => below_heap hbb hb'))
              have HJ13 := hide (hJ pre _ _ HJ3.out (KeepO.of_below hbb hszr))
              have HT13 := hide (row_call HT3.out hbb)
              have hsz13 := Nat.le_trans hszr hbb.size
              clear HK3 HE3 HJ3 HT3 hb10 c0 slot HNr hbb hszr b11
              gi_upto_region 13 with fail
              generalize w10.alloc (.cells #[.int .i64 N2, .int .i64 D2] 38) = W13 at *
              generalize w10.heap.size = P38 at *
              have t0 := (hbx.block (w' := W13.drew) rfl).c 0 _ rfl
              have t1 := (hbx.block (w' := W13.drew) rfl).c 1 _ rfl
              have pbx : Box W13 BP [.slice ga E.length gcap, .int .i64 kk, .int .i64 op] := box_of_heap HE13.out.bp
              have p0 := (pbx.block (w' := W13.drew) rfl).c 0 _ rfl
              have p1 := (pbx.block (w' := W13.drew) rfl).c 1 _ rfl
              have p2 := (pbx.block (w' := W13.drew) rfl).c 2 _ rfl
              have hbD : Below W13.heap.size W13 W13.drew := Below.drew (Below.refl _ _)
              have h1n : 1 ≤ nn := by omega
              have hcall : ∀ (VV : World) (N1 D1 : Int), FrB (N1, D1) → Below W13.heap.size W13 VV → ∀ (R : Ending → World → Prop), (∀ w1 la lcap (L : List (Acre.Ed × Bool × Bool)) fn tmps assign body, (Instr.yield l #[.agg #[.int .i64 N1, .int .i64 D1, .int .i64 N2, .int .i64 D2, .slice la L.length lcap, .map none]]).run Tryz.prog w1 = .ok (.round l fn tmps assign body) w1 → RoundIn Fence.wide (nn - 1) Tryz.prog l fn tmps assign body w1 (fun e W' => ∃ b : Bool, e = .returned (.bool b) ∧ (b = true → ∃ pre' k', SwV W W' BP hb gs caps n S cl (.slice ga E.length gcap) kk op E base J pre' k' ∧ k' < kq) ∧ (b = false → ∃ pre', SpG E pre' ∧ Jx pre' W')) → Below VV.heap.size VV w1 → R (.returned (.slice la L.length lcap)) w1) →
                  CallsIn Fence.wide (nn - 1) Tryz.prog 47 #[.agg #[.slice ga E.length gcap, .int .i64 kk, .int .i64 op], .float .f64 x, .slice (some ⟨gl, 0, none⟩) nl capl] VV R := by
                intro VV N1 D1 hf hbV R hR
                refine (callsIn_wide.2 (layersAt_any E (.slice ga E.length gcap) base kk op x w5.heap.size gl capl nl T VV (row_call HE13.out.er hbV) ⟨row_call HT13.out hbV⟩ hEl (by omega) (md_12 Hhx.out).1 hkk HTok.out)).mono ?_
                rintro e w1 ⟨lv, L, rfl, hrow, hL, hed, hb1⟩
                obtain ⟨la, lg, lcap, rfl, _, _⟩ := row_form hrow
                have hbb := below_more hbV hb1
                have hf2 : FrB (N2, D2) := ⟨⟨by show -99999 ≤ N2; omega, by show N2 ≤ 99999; omega⟩, ⟨by show 0 < D2; omega, by show D2 ≤ 9999; omega⟩⟩
                have hka := Hka.out
                have hls := Hless.out
                have hSpn : SpG E (pre ++ [(((N1, D1), (N2, D2)), (.slice la L.length lcap, L))]) := by
                  refine ⟨by rw [List.length_append, List.length_singleton]; omega, fun y hy => ?_⟩
                  rcases List.mem_append.1 hy with hy | hy
                  · exact HSp.out.ok y hy
                  · rw [List.mem_singleton.1 hy]
                    exact ⟨by show L.length ≤ 24; omega, hed, hf, hf2⟩
                obtain ⟨fn, tmps, assign, body, hy, hRd⟩ := (hY pre (((N1, D1), (N2, D2)), (.slice la L.length lcap, L)) w1 (hJ pre _ _ HJ13.out (KeepO.of_below hbb hsz13)) ⟨row_base hrow (Nat.zero_le _), by show L.length ≤ 24; omega, hed⟩ hSpn (by omega)).mono (R' := fun e W' => ∃ b : Bool, e = .returned (.bool b) ∧ (b = true → ∃ pre' k', SwV W W' BP hb gs caps n S cl (.slice ga E.length gcap) kk op E base J pre' k' ∧ k' < kq) ∧ (b = false → ∃ pre', SpG E pre' ∧ Jx pre' W')) (fun e W' h => by
                  rcases h with ⟨rfl, hj, hk⟩ | ⟨rfl, hj⟩
                  · refine ⟨true, rfl, fun _ => ⟨_, ahead cl (V x), ⟨⟨g3, cap3, m3 + 1, X3, V x, ⟨(HK13.out.call hbb).hs.same (fun b o hb' ht => hk.same b o hb' (by rcases ht with e | e <;> rw [e] <;> simp) (by rcases ht with e | e <;> rw [e] <;> decide) (by rcases ht with e | e <;> rw [e] <;> decide)), HK13.out.fr, HK13.out.ok⟩, by rw [List.length_append, List.length_singleton]; omega, rfl, by rw [List.length_append, List.length_singleton]; omega⟩, (HE13.out.same (fun b o hb' _ => below_heap hbb hb')).same (fun b o hb' ht => hk.same b o hb' (by rcases ht with e | e | e <;> rw [e] <;> simp) (by rcases ht with e | e | e <;> rw [e] <;> decide) (by rcases ht with e | e | e <;> rw [e] <;> decide)), hSpn, hj⟩, by omega⟩, (fun h => by cases h)⟩
                  · exact ⟨false, rfl, (fun h => by cases h), fun _ => ⟨_, hSpn, hj⟩⟩)
                exact hR w1 la lcap L fn tmps assign body hy hRd hb1
              have HC := hide hcall
              clear hcall hY hJ HK13 HE13 HJ13 HT13 HTok HSp hbx pbx HCok HS2 Hka Hless Hhx
              gi_region_with (first
                | (refine ⟨trivial, ?_⟩; gi_at_call 46; refine (callsIn_wide.2 (HNx.out _)).mono ?_; rintro e w11 ⟨N1, D1, rfl, hb11, hN1, hD1⟩; have t0 := below_cell hb11 t0; have t1 := below_cell hb11 t1; have p0 := below_cell hb11 p0; have p1 := below_cell hb11 p1; have p2 := below_cell hb11 p2; have hbD := below_more hbD hb11; have hf1 : FrB (N1, D1) := ⟨⟨by show -99999 ≤ N1; omega, by show N1 ≤ 99999; omega⟩, ⟨by show 0 < D1; omega, by show D1 ≤ 9999; omega⟩⟩; have Hf1 := hide hf1; clear hf1)
                | (refine ⟨trivial, ?_⟩; gi_at_call 47; refine HC.out _ N1 D1 Hf1.out hbD _ ?_; intro w12 la lcap L fn tmps assign body hy hR hb12; have t0 := below_cell hb12 t0; have t1 := below_cell hb12 t1; have HR := hide hR; clear hR)
                | (refine RoundIn.mono HR.out ?_; rintro e W3' ⟨b, rfl, hTF⟩; have HTF := hide hTF; clear hTF hy)
                | gi_in)
              all_goals
                clear t0 t1 p0 p1 p2 hbD HC HNx
                cases b
                · obtain ⟨pre', hp1, hp2⟩ := HTF.out.2 rfl
                  have HP1 := hide hp1
                  have HP2 := hide hp2
                  clear HTF hp1 hp2
                  gi_wp2
                  refine bodyPost_ret (results_none rfl _ _ _) rfl ?_
                  exact ⟨⟨_, rfl⟩, .inr ⟨pre', HP1.out, HP2.out⟩⟩
                · obtain ⟨pre', k', hv, hk'⟩ := HTF.out.1 rfl
                  have HV' := hide hv
                  clear HTF hv
                  gi_wp2
                  refine ⟨?_, ?measure⟩
                  (repeat apply Exists.intro)
                  refine ⟨?rel, rfl⟩
                  case rel => exact ⟨pre', k', HV'⟩
                  case measure =>
                    rw [Hkq.out]
                    exact Nat.lt_of_le_of_lt ((HFm.out _ k' ⟨pre', HV'.out⟩).2 k' ⟨pre', HV'.out⟩) hk'
end Go.Proofs.YtkjlkbgdkdcboaaGreatDoor
