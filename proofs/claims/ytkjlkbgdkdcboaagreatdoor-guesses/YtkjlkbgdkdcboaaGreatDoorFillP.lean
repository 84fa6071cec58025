import Derived.Test.YtkjlkbgdkdcboaaGreatDoorFlA

set_option linter.unusedSimpArgs false
set_option linter.unusedVariables false

set_option linter.unusedSimpArgs false
set_option linter.unusedVariables false
namespace Go.Proofs.YtkjlkbgdkdcboaaGreatDoor
open Go.RowKit Go.Maps Go.Shelf
attribute [local go_sem] Oper.semAt_some
theorem CutOk.wf {x : Acre.Fc} (h : CutOk x) : WfF x := by
  have := h.n
  exact SmF.wf ⟨by omega, by omega⟩
theorem box_news {W : World} {n : Nat} {l : List Value} (h : Box W n l) : ∀ j u, l[j]? = some u → W.cell? ((⟨n, 0, none⟩ : Addr).add j) = some u := by
  intro j u hj
  have := h.c j u hj
  unfold Addr.add
  split
  · rename_i e; subst e; exact this
  · simpa using this
theorem zero160 (u : World) : (zeroValue 103).run Tryz.prog u = .ok (.slice none 0 0) u := by kernel_rfl
set_option maxRecDepth 100000 in
set_option maxHeartbeats 8000000 in
theorem pairFilled_in (E : List Acre.Ed) (u : Value) (base kk : Nat) (op : Int) (ps : List Acre.Pc) (pv : Value) (base2 : Nat) (w : World) (F : Acre.Fld E) (hE : w.ownsRow base 42 4 u E.length (flatE E)) (hp : w.ownsRow base2 44 12 pv ps.length (flatP ps)) (hsm : ∀ e ∈ E, SmE e) (hEl : E.length ≤ 24) (hkk : kk ≤ 24) (hpl : ps.length ≤ 4000) (hgood : ∀ p ∈ ps, Acre.Good E p) (hcok : ∀ p ∈ ps, CutOk p.1.1 ∧ CutOk p.1.2) :
    CallsIn Fence.wide 20 Tryz.prog 49 #[.agg #[u, .int .i64 kk, .int .i64 op], pv] w fun e w' => e = .returned (.bool (Acre.filledP E kk op ps)) ∧ Below w.heap.size w w' := by
  have hmm := @run_makeMap Tryz.prog
  obtain ⟨i9, hi9, hz90, hz91, hz92⟩ := info_parts info159
  obtain ⟨i3, hi3, hz30, hz31, hz32⟩ := info_parts info33
  obtain ⟨ga, gb, gcap, rfl, hga, hcap⟩ := row_form hE
  obtain ⟨pa, pb, pcap, rfl, hpa, _⟩ := row_form hp
  have HG := hide hgood
  have HK := hide hcok
  clear hgood hcok
  refine callsIn_of_wp_marks Tryz.func49 rfl trivial ?_ rfl
  simp only [Tryz.ntmps49, List.size_toArray, List.length_cons, List.length_nil, Nat.reduceAdd, Nat.reduceSub, Array.replicate_succ, Array.replicate_zero, List.push_toArray, List.append_toArray, List.nil_append, List.cons_append]
  gi_wp2
  have hI0 : FpI w ((((((w.alloc (.cells #[.slice ga E.length gcap, .int .i64 kk, .int .i64 op] 48)).alloc (.cells #[.bool false] 4)).alloc (.map #[] 0)).alloc (.map #[] 0)).alloc (.cells #[.map (some (w.heap.size + 1 + 1))] 193)).alloc (.cells #[.map (some (w.heap.size + 1 + 1 + 1))] 193)) (w.heap.size + 1) (w.heap.size + 1 + 1) (w.heap.size + 1 + 1 + 1) (w.heap.size + 1 + 1 + 1 + 1) (w.heap.size + 1 + 1 + 1 + 1 + 1) (w.heap.size + 6) [.slice ga E.length gcap, .int .i64 kk, .int .i64 op] (.slice none 0 0) [] [] [] := by
    have q1 := below1 w (.cells #[.slice ga E.length gcap, .int .i64 kk, .int .i64 op] 48)
    have s1 : (w.alloc (.cells #[.slice ga E.length gcap, .int .i64 kk, .int .i64 op] 48)).heap.size = w.heap.size + 1 := by simp
    have x0 := Box.new w [.slice ga E.length gcap, .int .i64 kk, .int .i64 op] 48
    generalize w.alloc (.cells #[.slice ga E.length gcap, .int .i64 kk, .int .i64 op] 48) = W1 at *
    have q2 := below1 W1 (.cells #[.bool false] 4)
    have s2 : (W1.alloc (.cells #[.bool false] 4)).heap.size = W1.heap.size + 1 := by simp
    have x1 := Box.new W1 [.bool false] 4
    generalize W1.alloc (.cells #[.bool false] 4) = W2 at *
    have q3 := below1 W2 (.map #[] 0)
    have s3 : (W2.alloc (.map #[] 0)).heap.size = W2.heap.size + 1 := by simp
    have x2 := MV.new (kt := 38) (key := kf) (ok := WfF) W2
    generalize W2.alloc (.map #[] 0) = W3 at *
    have q4 := below1 W3 (.map #[] 0)
    have s4 : (W3.alloc (.map #[] 0)).heap.size = W3.heap.size + 1 := by simp
    have x3 := MV.new (kt := 38) (key := kf) (ok := WfF) W3
    generalize W3.alloc (.map #[] 0) = W4 at *
    have q5 := below1 W4 (.cells #[.map (some (w.heap.size + 1 + 1))] 193)
    have s5 : (W4.alloc (.cells #[.map (some (w.heap.size + 1 + 1))] 193)).heap.size = W4.heap.size + 1 := by simp
    have x4 := Box.new W4 [.map (some (w.heap.size + 1 + 1))] 193
    generalize W4.alloc (.cells #[.map (some (w.heap.size + 1 + 1))] 193) = W5 at *
    have q6 := below1 W5 (.cells #[.map (some (w.heap.size + 1 + 1 + 1))] 193)
    have s6 : (W5.alloc (.cells #[.map (some (w.heap.size + 1 + 1 + 1))] 193)).heap.size = W5.heap.size + 1 := by simp
    have x5 := Box.new W5 [.map (some (w.heap.size + 1 + 1 + 1))] 193
    generalize W5.alloc (.cells #[.map (some (w.heap.size + 1 + 1 + 1))] 193) = W6 at *
    have y0 := (((((x0.later (by simp) q2).later (by simp) q3).later (by simp) q4).later (by simp) q5).later (by simp) q6)
    have y1 := ((((x1.later (by simp) q3).later (by simp) q4).later (by simp) q5).later (by simp) q6)
    have y2 := ((x2.later q4).later q5).later q6
    have y3 := (x3.later q5).later q6
    have y4 := x4.later (by simp) q6
    rw [s1] at y1
    rw [s2, s1] at y2
    rw [s3, s2, s1] at y3
    rw [s4, s3, s2, s1] at y4
    rw [s5, s4, s3, s2, s1] at x5
    have hB := below_call q6 (below_call q5 (below_call q4 (below_call q3 (below_call q2 q1))))
    have gz : ∀ {M : Nat} {D : DataW Value} {G : Acre.Fc → List (Acre.Ed × Acre.Ed)}, MV W6 38 kf WfF M 0 D (fun _ => none) → (∀ f, G f = []) → M < w.heap.size + 6 → GV W6 38 kf WfF M 0 (w.heap.size + 6) 106 8 bandL D (fun _ => none) G := fun hm hG hlt =>
      ⟨hm, fun x v hv => by simp at hv, fun x _ => hG x, fun x y vx vy hv => by simp at hv, hlt⟩
    exact ⟨y0, y1, y4, x5, ⟨_, _, _, _, gz y2 (fun _ => rfl) (by omega), gz y3 (fun _ => rfl) (by omega), fun x y vx vy hv => by simp at hv⟩, World.ownsRow_nil _ _ _ _, hB, by omega⟩
  have hN : FpN w (w.heap.size + 1) (w.heap.size + 1 + 1) (w.heap.size + 1 + 1 + 1) (w.heap.size + 1 + 1 + 1 + 1) (w.heap.size + 1 + 1 + 1 + 1 + 1) (w.heap.size + 6) := ⟨by omega, by omega, by omega, by omega, by omega, by omega⟩
  generalize (((((w.alloc (.cells #[.slice ga E.length gcap, .int .i64 kk, .int .i64 op] 48)).alloc (.cells #[.bool false] 4)).alloc (.map #[] 0)).alloc (.map #[] 0)).alloc (.cells #[.map (some (w.heap.size + 1 + 1))] 193)).alloc (.cells #[.map (some (w.heap.size + 1 + 1 + 1))] 193) = V0 at *
  generalize w.heap.size + 6 = NB at *
  generalize w.heap.size + 1 + 1 + 1 + 1 + 1 = B2 at *
  generalize w.heap.size + 1 + 1 + 1 + 1 = B1 at *
  generalize w.heap.size + 1 + 1 + 1 = M2 at *
  generalize w.heap.size + 1 + 1 = M1 at *
  generalize w.heap.size + 1 = N1 at *
  have HI := hide hI0
  have HN := hide hN
  clear hI0 hN
  gi_loopw [5, 21] (fun cv i wr => ∃ k : Nat, i = .int .i64 k ∧ k ≤ ps.length ∧ Hid (FpI w wr N1 M1 M2 B1 B2 NB [.slice ga E.length gcap, .int .i64 kk, .int .i64 op] cv (ps.take k) (ps.take k) (ps.take k))) (fun _ i _ => ps.length - (intOf i).toNat)
  case atStart => exact ⟨0, rfl, Nat.zero_le _, HI.out⟩
  case round =>
    obtain ⟨k, rfl, hk, hr⟩ := hrel
    clear HI
    by_cases hlt : k < ps.length
    · obtain rfl := hpa (by omega)
      have hI := hr.out
      have hpw := row_low hp hI.bel (fun c e => (hp.lt c e).2)
      have hlt2 : (k : Int) < (ps.length : Int) := by omega
      have hok := HK.out ps[k] (List.getElem_mem hlt)
      have htk : ps.take (k + 1) = ps.take k ++ [ps[k]] := List.take_succ_eq_append_getElem hlt
      have hcell : ∀ j v, j < 12 → (pcL ps[k])[j]? = some v → wr.cell? ⟨pb, k * 12 + j, none⟩ = some v := fun j v hj hv => by
        have := row_at (f := pcL) (m := 12) (fun _ => rfl) hpw k j hlt hj
        rw [this]
        exact hv
      obtain ⟨pc, hpc⟩ : ∃ pc, ps[k] = pc := ⟨_, rfl⟩
      rw [hpc] at hok hcell htk
      obtain ⟨⟨⟨f1, f2⟩, ⟨t1, t2⟩⟩, ⟨⟨⟨l0, l1⟩, ⟨l2, l3⟩⟩, ⟨⟨h0, h1⟩, ⟨h2, h3⟩⟩⟩⟩ := pc
      have HTK := hide htk
      have HOK := hide hok
      have hlen : (ps.take k).length = k := by rw [List.length_take]; omega
      have HL := hide hlen
      have m0 := hcell 0 _ (by omega) rfl
      have m1 := hcell 1 _ (by omega) rfl
      have m2 := hcell 2 _ (by omega) rfl
      have m3 := hcell 3 _ (by omega) rfl
      have m4 := hcell 4 _ (by omega) rfl
      have m5 := hcell 5 _ (by omega) rfl
      have m6 := hcell 6 _ (by omega) rfl
      have m7 := hcell 7 _ (by omega) rfl
      have m8 := hcell 8 _ (by omega) rfl
      have m9 := hcell 9 _ (by omega) rfl
      have m10 := hcell 10 _ (by omega) rfl
      have m11 := hcell 11 _ (by omega) rfl
      simp only [Nat.add_zero] at m0
      clear hcell hpc hpw htk hok hlen hr
      have hNC := hI.big
      obtain ⟨D, S, D2, T, g1, g2, hpt⟩ := hI.two.gv
      have lowS := hide (fun x c (e : ((S x).getD (.slice none 0 0)).ownBlock = some c) => ((g1.at' x).lt c e).2)
      have lowT := hide (fun x c (e : ((T x).getD (.slice none 0 0)).ownBlock = some c) => ((g2.at' x).lt c e).2)
      have lowC := hide (fun c (e : u5.ownBlock = some c) => (hI.cut.lt c e).2)
      have g1A := hide (g1.later (below1 wr (.cells #[.int .i64 f1, .int .i64 f2, .int .i64 t1, .int .i64 t2, .int .i64 l0, .int .i64 l1, .int .i64 l2, .int .i64 l3, .int .i64 h0, .int .i64 h1, .int .i64 h2, .int .i64 h3] 44)))
      have g2A := hide (g2.later (below1 wr (.cells #[.int .i64 f1, .int .i64 f2, .int .i64 t1, .int .i64 t2, .int .i64 l0, .int .i64 l1, .int .i64 l2, .int .i64 l3, .int .i64 h0, .int .i64 h1, .int .i64 h2, .int .i64 h3] 44)))
      clear g1 g2
      have HIa := hide (hI.later (by simp) (below1 wr (.cells #[.int .i64 f1, .int .i64 f2, .int .i64 t1, .int .i64 t2, .int .i64 l0, .int .i64 l1, .int .i64 l2, .int .i64 l3, .int .i64 h0, .int .i64 h1, .int .i64 h2, .int .i64 h3] 44)))
      have bP0 := Box.new wr [.int .i64 f1, .int .i64 f2, .int .i64 t1, .int .i64 t2, .int .i64 l0, .int .i64 l1, .int .i64 l2, .int .i64 l3, .int .i64 h0, .int .i64 h1, .int .i64 h2, .int .i64 h3] 44
      have hszA : (wr.alloc (.cells #[.int .i64 f1, .int .i64 f2, .int .i64 t1, .int .i64 t2, .int .i64 l0, .int .i64 l1, .int .i64 l2, .int .i64 l3, .int .i64 h0, .int .i64 h1, .int .i64 h2, .int .i64 h3] 44)).heap.size = wr.heap.size + 1 := by simp
      clear hI
      generalize ps.take k = dn at *
      gi_upto_region 6 with fail
      clear m0 m1 m2 m3 m4 m5 m6 m7 m8 m9 m10 m11
      generalize wr.alloc (.cells #[.int .i64 f1, .int .i64 f2, .int .i64 t1, .int .i64 t2, .int .i64 l0, .int .i64 l1, .int .i64 l2, .int .i64 l3, .int .i64 h0, .int .i64 h1, .int .i64 h2, .int .i64 h3] 44) = WA at *
      generalize wr.heap.size = C0 at *
      have p4 := bP0.c 4 _ rfl
      have p5 := bP0.c 5 _ rfl
      have p6 := bP0.c 6 _ rfl
      have p7 := bP0.c 7 _ rfl
      have p8 := bP0.c 8 _ rfl
      have p9 := bP0.c 9 _ rfl
      have p10 := bP0.c 10 _ rfl
      have p11 := bP0.c 11 _ rfl
      have g1B := hide (g1A.out.later (below1 WA (.cells #[.int .i64 l0, .int .i64 l1, .int .i64 l2, .int .i64 l3, .int .i64 h0, .int .i64 h1, .int .i64 h2, .int .i64 h3] 106)))
      have g2B := hide (g2A.out.later (below1 WA (.cells #[.int .i64 l0, .int .i64 l1, .int .i64 l2, .int .i64 l3, .int .i64 h0, .int .i64 h1, .int .i64 h2, .int .i64 h3] 106)))
      clear g1A g2A
      have HIb := hide (HIa.out.later (by simp) (below1 WA (.cells #[.int .i64 l0, .int .i64 l1, .int .i64 l2, .int .i64 l3, .int .i64 h0, .int .i64 h1, .int .i64 h2, .int .i64 h3] 106)))
      have bB0 := Box.new WA [.int .i64 l0, .int .i64 l1, .int .i64 l2, .int .i64 l3, .int .i64 h0, .int .i64 h1, .int .i64 h2, .int .i64 h3] 106
      have bP1 := bP0.later (by simp) (below1 WA (.cells #[.int .i64 l0, .int .i64 l1, .int .i64 l2, .int .i64 l3, .int .i64 h0, .int .i64 h1, .int .i64 h2, .int .i64 h3] 106))
      have hszB : (WA.alloc (.cells #[.int .i64 l0, .int .i64 l1, .int .i64 l2, .int .i64 l3, .int .i64 h0, .int .i64 h1, .int .i64 h2, .int .i64 h3] 106)).heap.size = WA.heap.size + 1 := by simp
      gi_upto_region 7 with fail
      clear p4 p5 p6 p7 p8 p9 p10 p11 bP0 HIa
      generalize WA.alloc (.cells #[.int .i64 l0, .int .i64 l1, .int .i64 l2, .int .i64 l3, .int .i64 h0, .int .i64 h1, .int .i64 h2, .int .i64 h3] 106) = WB at *
      generalize WA.heap.size = C1 at *
      have hC1 : C0 + 1 < WB.heap.size := by omega
      obtain rfl : C1 = C0 + 1 := hszA
      clear hszB
      have q10 := bP1.c 0 _ rfl
      have q11 := bP1.c 1 _ rfl
      have r10 := bB0.c 0 _ rfl
      have r11 := bB0.c 1 _ rfl
      have r12 := bB0.c 2 _ rfl
      have r13 := bB0.c 3 _ rfl
      have r14 := bB0.c 4 _ rfl
      have r15 := bB0.c 5 _ rfl
      have r16 := bB0.c 6 _ rfl
      have r17 := bB0.c 7 _ rfl
      have v1 := HIb.out.b1.c 0 _ rfl
      have HIc1 := hide (HIb.out.later (by simp) (below1 WB (.cells #[.int .i64 l0, .int .i64 l1, .int .i64 l2, .int .i64 l3, .int .i64 h0, .int .i64 h1, .int .i64 h2, .int .i64 h3] 106)))
      have bPc1 := bP1.later (by simp) (below1 WB (.cells #[.int .i64 l0, .int .i64 l1, .int .i64 l2, .int .i64 l3, .int .i64 h0, .int .i64 h1, .int .i64 h2, .int .i64 h3] 106))
      have bBc1 := bB0.later (by simp) (below1 WB (.cells #[.int .i64 l0, .int .i64 l1, .int .i64 l2, .int .i64 l3, .int .i64 h0, .int .i64 h1, .int .i64 h2, .int .i64 h3] 106))
      have bN1 := Box.new WB [.int .i64 l0, .int .i64 l1, .int .i64 l2, .int .i64 l3, .int .i64 h0, .int .i64 h1, .int .i64 h2, .int .i64 h3] 106
      have hb1 := HIb.out.big
      have hsz1 : (WB.alloc (.cells #[.int .i64 l0, .int .i64 l1, .int .i64 l2, .int .i64 l3, .int .i64 h0, .int .i64 h1, .int .i64 h2, .int .i64 h3] 106)).heap.size = WB.heap.size + 1 := by simp
      have g11 := hide (g1B.out.later (below1 WB (.cells #[.int .i64 l0, .int .i64 l1, .int .i64 l2, .int .i64 l3, .int .i64 h0, .int .i64 h1, .int .i64 h2, .int .i64 h3] 106)))
      have g21 := hide (g2B.out.later (below1 WB (.cells #[.int .i64 l0, .int .i64 l1, .int .i64 l2, .int .i64 l3, .int .i64 h0, .int .i64 h1, .int .i64 h2, .int .i64 h3] 106)))
      have hrow1 := g11.out.at' (f1, f2)
      obtain ⟨st1, w31, hme1, hg31, hs31, hst1⟩ := g11.out.mv.entry ktF Tryz.underlying193 (by rw [HL.out]; unfold maxLen; omega) zero160 (x := (f1, f2)) HOK.out.1.wf
      have hlk1 : (begB dn (f1, f2)).length ≤ 4000 := Nat.le_trans (begB_le dn _) (by rw [HL.out]; omega)
      unfold frV at hme1
      dsimp only at hme1
      have nbm1 : ((S (f1, f2)).getD (.slice none 0 0)).ownBlock ≠ some M1 := fun e => by have := (hrow1.lt _ e).1; have := g11.out.low; omega
      have hrow31 := hrow1.kept hg31 (.inr nbm1)
      have hMlow1 := g11.out.low
      have bN31 := bN1.kept (by simp) hg31 (by simp; omega)
      have hnews1 := box_news bN31
      have Hst1 := hide hst1
      have Hg31 := hide hg31
      have Hs31 := hide hs31
      have Hlow1 := hide (lowS.out (f1, f2))
      clear hst1 hg31 hrow1 bN1 bN31 hs31
      gi_upto_region 8 with (first
        | (gi_at_builtin; refine wpListIn_append_own_at _ rfl _ _ 103 rfl NB 106 i9 _ 8 64 Tryz.underlying103 hi9 hz90 hz91 hz92 rfl (by decide) _ _ _ rfl hrow31 ⟨WB.heap.size, 0, none⟩ 1 1 [.int .i64 l0, .int .i64 l1, .int .i64 l2, .int .i64 l3, .int .i64 h0, .int .i64 h1, .int .i64 h2, .int .i64 h3] rfl rfl hnews1 (by simp [Value.oneCell']) (by unfold maxLen; omega) (by omega) (by rw [Hs31.out, hsz1]; omega) ?_; intro v' w41 hown1 hgrow1 hnil1 hloc1; obtain ⟨g', cap', rfl⟩ := row_succ hown1; obtain ⟨w51, hen1, hmv51, hg51, hs51⟩ := Hst1.out w41 (hgrow1.block _ (by rw [Hs31.out, hsz1]; omega) (fun e => nbm1 e.symm)) (.slice (some ⟨g', 0, none⟩) ((begB dn (f1, f2)).length + 1) cap'))
        | gi_in)
      have hlc1 := hloc1.imp id (fun h => (⟨_, h, by rw [Hs31.out]; exact Nat.le_refl _⟩ : ∃ g, (Value.slice (some ⟨g', 0, none⟩) ((begB dn (f1, f2)).length + 1) cap').ownBlock = some g ∧ (WB.alloc (.cells #[.int .i64 l0, .int .i64 l1, .int .i64 l2, .int .i64 l3, .int .i64 h0, .int .i64 h1, .int .i64 h2, .int .i64 h3] 106)).heap.size ≤ g))
      have HIe1 := hide (HIc1.out.pushB (by simp) HN.out g11.out g21.out hpt (((f1, f2), (t1, t2)), (((l0, l1), (l2, l3)), ((h0, h1), (h2, h3)))) Hg31.out hown1 hgrow1 hlc1 hmv51 hg51)
      have bPe1 := ((bPc1.kept (by simp) Hg31.out (by simp; omega)).kept (by simp) hgrow1 (fun e => by have := Hlow1.out _ e; omega)).kept (by simp) hg51 (by simp; omega)
      have bBe1 := ((bBc1.kept (by simp) Hg31.out (by simp; omega)).kept (by simp) hgrow1 (fun e => by have := Hlow1.out _ e; omega)).kept (by simp) hg51 (by simp; omega)
      have gp := g11.out.push (f1, f2) (((f1, f2), (t1, t2)), (((l0, l1), (l2, l3)), ((h0, h1), (h2, h3)))).2 Hg31.out hown1 hgrow1 hlc1 hmv51 hg51
      rw [← begB_put dn (((f1, f2), (t1, t2)), (((l0, l1), (l2, l3)), ((h0, h1), (h2, h3))))] at gp
      obtain ⟨gq, hpq⟩ := g11.out.beside g21.out hpt (by have := HN.out.m1; have := HN.out.m2; omega) (f1, f2) Hg31.out hgrow1 hlc1 hg51
      have HGp : Hid (GV w51 38 kf WfF M1 (dn ++ [(((f1, f2), (t1, t2)), (((l0, l1), (l2, l3)), ((h0, h1), (h2, h3))))]).length NB 106 8 bandL _ _ (begB (dn ++ [(((f1, f2), (t1, t2)), (((l0, l1), (l2, l3)), ((h0, h1), (h2, h3))))]))) := hide (by rw [List.length_append]; exact gp)
      have HGq := hide gq
      have HPq := hide hpq
      clear gp gq hpq
      have hsE1 : C0 + 1 < w51.heap.size := by have := hgrow1.size; have := hg51.size; have := Hs31.out; omega
      clear q10 q11 r10 r11 r12 r13 r14 r15 r16 r17 v1 HIc1 bPc1 bBc1 hb1 hsz1 hme1 nbm1 hrow31 hnews1 Hst1 Hg31 Hs31 Hlow1 hown1 hgrow1 hnil1 hloc1 hmv51 hg51 hs51 hlc1 hen1 hMlow1 bP1 bB0 HIb g11 g21 g1B g2B
      have q20 := bPe1.c 2 _ rfl
      have q21 := bPe1.c 3 _ rfl
      have r20 := bBe1.c 0 _ rfl
      have r21 := bBe1.c 1 _ rfl
      have r22 := bBe1.c 2 _ rfl
      have r23 := bBe1.c 3 _ rfl
      have r24 := bBe1.c 4 _ rfl
      have r25 := bBe1.c 5 _ rfl
      have r26 := bBe1.c 6 _ rfl
      have r27 := bBe1.c 7 _ rfl
      have v2 := HIe1.out.b2.c 0 _ rfl
      have HIc2 := hide (HIe1.out.later (by simp) (below1 w51 (.cells #[.int .i64 l0, .int .i64 l1, .int .i64 l2, .int .i64 l3, .int .i64 h0, .int .i64 h1, .int .i64 h2, .int .i64 h3] 106)))
      have bPc2 := bPe1.later (by simp) (below1 w51 (.cells #[.int .i64 l0, .int .i64 l1, .int .i64 l2, .int .i64 l3, .int .i64 h0, .int .i64 h1, .int .i64 h2, .int .i64 h3] 106))
      have bBc2 := bBe1.later (by simp) (below1 w51 (.cells #[.int .i64 l0, .int .i64 l1, .int .i64 l2, .int .i64 l3, .int .i64 h0, .int .i64 h1, .int .i64 h2, .int .i64 h3] 106))
      have bN2 := Box.new w51 [.int .i64 l0, .int .i64 l1, .int .i64 l2, .int .i64 l3, .int .i64 h0, .int .i64 h1, .int .i64 h2, .int .i64 h3] 106
      have hb2 := HIe1.out.big
      have hsz2 : (w51.alloc (.cells #[.int .i64 l0, .int .i64 l1, .int .i64 l2, .int .i64 l3, .int .i64 h0, .int .i64 h1, .int .i64 h2, .int .i64 h3] 106)).heap.size = w51.heap.size + 1 := by simp
      have g12 := hide (HGp.out.later (below1 w51 (.cells #[.int .i64 l0, .int .i64 l1, .int .i64 l2, .int .i64 l3, .int .i64 h0, .int .i64 h1, .int .i64 h2, .int .i64 h3] 106)))
      have g22 := hide (HGq.out.later (below1 w51 (.cells #[.int .i64 l0, .int .i64 l1, .int .i64 l2, .int .i64 l3, .int .i64 h0, .int .i64 h1, .int .i64 h2, .int .i64 h3] 106)))
      have hrow2 := g22.out.at' (t1, t2)
      obtain ⟨st2, w32, hme2, hg32, hs32, hst2⟩ := g22.out.mv.entry ktF Tryz.underlying193 (by rw [HL.out]; unfold maxLen; omega) zero160 (x := (t1, t2)) HOK.out.2.wf
      have hlk2 : (endB dn (t1, t2)).length ≤ 4000 := Nat.le_trans (endB_le dn _) (by rw [HL.out]; omega)
      unfold frV at hme2
      dsimp only at hme2
      have nbm2 : ((T (t1, t2)).getD (.slice none 0 0)).ownBlock ≠ some M2 := fun e => by have := (hrow2.lt _ e).1; have := g22.out.low; omega
      have hrow32 := hrow2.kept hg32 (.inr nbm2)
      have hMlow2 := g22.out.low
      have bN32 := bN2.kept (by simp) hg32 (by simp; omega)
      have hnews2 := box_news bN32
      have Hst2 := hide hst2
      have Hg32 := hide hg32
      have Hs32 := hide hs32
      have Hlow2 := hide (lowT.out (t1, t2))
      clear hst2 hg32 hrow2 bN2 bN32 hs32
      gi_upto_region 9 with (first
        | (gi_at_builtin; refine wpListIn_append_own_at _ rfl _ _ 103 rfl NB 106 i9 _ 8 64 Tryz.underlying103 hi9 hz90 hz91 hz92 rfl (by decide) _ _ _ rfl hrow32 ⟨w51.heap.size, 0, none⟩ 1 1 [.int .i64 l0, .int .i64 l1, .int .i64 l2, .int .i64 l3, .int .i64 h0, .int .i64 h1, .int .i64 h2, .int .i64 h3] rfl rfl hnews2 (by simp [Value.oneCell']) (by unfold maxLen; omega) (by omega) (by rw [Hs32.out, hsz2]; omega) ?_; intro v' w42 hown2 hgrow2 hnil2 hloc2; obtain ⟨g', cap', rfl⟩ := row_succ hown2; obtain ⟨w52, hen2, hmv52, hg52, hs52⟩ := Hst2.out w42 (hgrow2.block _ (by rw [Hs32.out, hsz2]; omega) (fun e => nbm2 e.symm)) (.slice (some ⟨g', 0, none⟩) ((endB dn (t1, t2)).length + 1) cap'))
        | gi_in)
      have hlc2 := hloc2.imp id (fun h => (⟨_, h, by rw [Hs32.out]; exact Nat.le_refl _⟩ : ∃ g, (Value.slice (some ⟨g', 0, none⟩) ((endB dn (t1, t2)).length + 1) cap').ownBlock = some g ∧ (w51.alloc (.cells #[.int .i64 l0, .int .i64 l1, .int .i64 l2, .int .i64 l3, .int .i64 h0, .int .i64 h1, .int .i64 h2, .int .i64 h3] 106)).heap.size ≤ g))
      have HIe2 := hide (HIc2.out.pushE (by simp) HN.out g12.out g22.out HPq.out (((f1, f2), (t1, t2)), (((l0, l1), (l2, l3)), ((h0, h1), (h2, h3)))) Hg32.out hown2 hgrow2 hlc2 hmv52 hg52)
      have bPe2 := ((bPc2.kept (by simp) Hg32.out (by simp; omega)).kept (by simp) hgrow2 (fun e => by have := Hlow2.out _ e; omega)).kept (by simp) hg52 (by simp; omega)
      have bBe2 := ((bBc2.kept (by simp) Hg32.out (by simp; omega)).kept (by simp) hgrow2 (fun e => by have := Hlow2.out _ e; omega)).kept (by simp) hg52 (by simp; omega)
      have hsE2 : C0 + 1 < w52.heap.size := by have := hgrow2.size; have := hg52.size; have := Hs32.out; omega
      clear q20 q21 r20 r21 r22 r23 r24 r25 r26 r27 v2 HIc2 bPc2 bBc2 hb2 hsz2 hme2 nbm2 hrow32 hnews2 Hst2 Hg32 Hs32 Hlow2 hown2 hgrow2 hnil2 hloc2 hmv52 hg52 hs52 hlc2 hen2 hMlow2 bPe1 bBe1 HIe1 g12 g22 HGp HGq
      have q30 := bPe2.c 0 _ rfl
      have q31 := bPe2.c 1 _ rfl
      have q32 := bPe2.c 2 _ rfl
      have q33 := bPe2.c 3 _ rfl
      have HI3 := hide (HIe2.out.later (by simp) (below1 w52 (.cells #[.int .i64 f1, .int .i64 f2, .int .i64 t1, .int .i64 t2] 38)))
      have hrowC := HI3.out.cut
      have hbig3 := HIe2.out.big
      have hsz3 : (w52.alloc (.cells #[.int .i64 f1, .int .i64 f2, .int .i64 t1, .int .i64 t2] 38)).heap.size = w52.heap.size + 1 := by simp
      have hcl : (Acre.endsP dn).length ≤ 8000 := by rw [endsP_len, HL.out]; omega
      have hnews3 := box_news (Box.new w52 [.int .i64 f1, .int .i64 f2, .int .i64 t1, .int .i64 t2] 38)
      clear bPe2 bBe2 HIe2
      gi_wp2_with (first
        | (gi_at_builtin; refine wpListIn_append_own_at _ rfl _ _ 143 rfl NB 38 i3 _ 2 16 Tryz.underlying143 hi3 hz30 hz31 hz32 rfl (by decide) _ _ _ rfl hrowC ⟨w52.heap.size, 0, none⟩ 2 2 [.int .i64 f1, .int .i64 f2, .int .i64 t1, .int .i64 t2] rfl rfl hnews3 (by simp [Value.oneCell']) (by unfold maxLen; omega) (by omega) (by rw [hsz3]; omega) ?_; intro cv' w6 hown6 hgrow6 hnil6 hloc6)
        | gi_in)
      go_roundw
      case rel =>
        refine ⟨k + 1, by go_num, by omega, ?_⟩
        have := HI3.out.pushC (by simp) HN.out (((f1, f2), (t1, t2)), (((l0, l1), (l2, l3)), ((h0, h1), (h2, h3)))) hgrow6 hown6
        rw [← HTK.out] at this
        exact this
      case measure => simp [intOf]; omega
    · obtain rfl : k = ps.length := by omega
      have hI := hr.out
      rw [List.take_of_length_le (Nat.le_refl _)] at hI
      have hI1 := (hI.later (by simp) (below1 wr (.map #[] 0))).later (by simp) (below1 (wr.alloc (.map #[] 0)) (.cells #[.map (some wr.heap.size)] 99))
      have mT := (MV.new (kt := 106) (key := keB) (ok := WfB) wr).later (below1 (wr.alloc (.map #[] 0)) (.cells #[.map (some wr.heap.size)] 99))
      have bT := Box.new (wr.alloc (.map #[] 0)) [.map (some wr.heap.size)] 99
      have hsz : ((wr.alloc (.map #[] 0)).alloc (.cells #[.map (some wr.heap.size)] 99)).heap.size = wr.heap.size + 2 := by simp
      have hsz0 : (wr.alloc (.map #[] 0)).heap.size = wr.heap.size + 1 := by simp
      rw [hsz0] at bT
      have hNBw := hI.big
      have e0 := hI1.bP.c 0 _ rfl
      have e1 := hI1.bP.c 1 _ rfl
      have e2 := hI1.bP.c 2 _ rfl
      have HI := hide hI1
      have HM := hide mT
      have HBT := hide bT
      clear hr hI hI1 mT bT hsz0
      gi_wp2_with fail
      generalize (wr.alloc (.map #[] 0)).alloc (.cells #[.map (some wr.heap.size)] 99) = W1 at *
      generalize wr.heap.size = tb at *
      have hEw := row_call hE HI.out.bel
      have hend : ∀ x ∈ Acre.endsP ps, CutOk x := fun x hx => by
        unfold Acre.endsP at hx
        obtain ⟨p, hp, hx⟩ := List.mem_flatMap.1 hx
        have := HK.out p hp
        rcases List.mem_cons.1 hx with rfl | hx
        · exact this.1
        · rw [List.mem_singleton.1 hx]; exact this.2
      refine ⟨trivial, ?_⟩
      refine (callsIn_wide.2 (slabs_any E _ base kk op (Acre.endsP ps) u5 NB W1 hEw HI.out.cut hsm hEl (by rw [endsP_len]; omega) (fun x hx => ⟨(hend x hx).lim.red, by have := (hend x hx).n; exact ⟨by omega, by omega⟩⟩))).mono ?_
      rintro e W2 ⟨BC, BP, cvv, rfl, hS⟩
      have HS := hide hS
      clear hS e0 e1 e2
      gi_wp2
      obtain ⟨cs, hcs⟩ : ∃ cs, Acre.cutsP E (Acre.endsP ps) = cs := ⟨_, rfl⟩
      have hsort : cs.Pairwise Acre.Lt := by rw [← hcs]; exact Acre.cutsP_sorted F (fun y hy => (hend y hy).lim)
      have hcok : ∀ x ∈ cs, CutOk x := by rw [← hcs]; exact cutsP_ok F hend
      have hclen : cs.length ≤ 8600 := by
        rw [← hcs]
        have := cutsP_len (E := E) (more := Acre.endsP ps) hEl
        rw [endsP_len] at this
        omega
      have hmem : ∀ p ∈ ps, p.1.1 ∈ cs ∧ p.1.2 ∈ cs := fun p hp => by
        rw [← hcs]
        exact ⟨cutsP_more (endsP_mem hp).1, cutsP_more (endsP_mem hp).2⟩
      have hS := HS.out
      rw [hcs] at hS
      have HFq : Hid (∀ s ∈ Acre.adj cs, Acre.slabOk E kk op ps s.1 s.2 = false → Acre.filledP E kk op ps = false) := hide (fun s hs h => filled_not (by rw [hcs]; exact hs) h)
      have HFa : Hid ((∀ s ∈ Acre.adj cs, Acre.slabOk E kk op ps s.1 s.2 = true) → Acre.filledP E kk op ps = true) := hide (fun h => filled_all (by rw [hcs]; exact h))
      have hNq : FqN w N1 M1 M2 B1 B2 NB tb := ⟨HN.out, by omega⟩
      have hI2 := HI.out.later (by simp) hS.bel
      have hM2 := HM.out.later hS.bel
      have hT2 := HBT.out.later (by simp) hS.bel
      have hW2 : tb + 2 ≤ W2.heap.size := by have := hS.bel.size; omega
      have hE2 := row_call hE hI2.bel
      have hI0 : FqI w W2 N1 M1 M2 B1 B2 NB tb ps (timT ps (cs.take 0)) (cntE ps (cs.take 0)) := by
        obtain ⟨D, S, D2, S2, g1, g2, _⟩ := hI2.two.gv
        refine ⟨hI2.bA, hI2.b1, hI2.b2, hT2, ⟨D, S, g1⟩, ⟨D2, S2, g2⟩, ?_, hI2.bel⟩
        rw [List.take_zero, timT_nil]
        exact ⟨_, hM2⟩
      obtain ⟨ca, cg, ccap, rfl, _, _⟩ := row_form hS.row
      have neM : ∀ {n : Nat} {l : List Value}, Box W2 n l → 0 < l.length → n ≠ tb := fun hb hl e => box_map (e ▸ hb) hl hM2.own
      have hBC1 : BC ≠ N1 := fun e => by
        have h1 := hS.bC.c 0 _ rfl
        have h2 := hI2.bA.c 0 _ rfl
        rw [e, h2] at h1
        simp at h1
      have hBP1 : BP ≠ N1 := fun e => by
        have h1 := hS.bP.c 0 _ rfl
        have h2 := hI2.bA.c 0 _ rfl
        rw [e, h2] at h1
        simp at h1
      have hNn := HN.out
      have hseq := slabs_seq (fun k => k < W2.heap.size ∧ k ≠ tb ∧ k ≠ N1) 19 (by omega) hS hE2 hsm hEl hkk hcok (by omega) ⟨hS.bC.lt (by simp), neM hS.bC (by simp), hBC1⟩ ⟨hS.bP.lt (by simp), neM hS.bP (by simp), hBP1⟩
        (fun c e => by have h1 := (hE.lt c e).2; have := hI2.bel.size; have := hNn.n1; have := hNn.nb; refine ⟨by omega, by omega, by omega⟩)
        (fun c e => by have h1 := hS.row.lt c e; have := hNn.n1; have := hNn.nb; refine ⟨h1.2, by omega, by omega⟩)
      have HSeq := hide hseq
      clear hseq hS HS neM
      refine wpIn_rangeFunc_at rfl (by omega) (gf := 58) (lb := #[.pointer (some ⟨BC, 0, none⟩), .pointer (some ⟨BP, 0, none⟩)]) rfl trivial enter86 HSeq.out
        (fun h1 h2 => KeepIt.trans h1 h2) (fun W l o o' hl ho _ _ => ⟨by simp [World.putObj], fun k hk _ => World.putObj_heap_other (by omega)⟩) (Below.refl _ _) (fun _ => rfl)
        (fun pre W => FqI w W N1 M1 M2 B1 B2 NB tb ps (timT ps (cs.take pre.length)) (cntE ps (cs.take pre.length)) ∧ (∀ s ∈ (Acre.adj cs).take pre.length, Acre.slabOk E kk op ps s.1 s.2 = true))
        (fun _ W => Box W N1 [.bool false] ∧ Below w.heap.size w W ∧ Acre.filledP E kk op ps = false)
        (fun s A B row hs hg hr => ⟨hs.1.own hW2 hNq hg hr, hs.2⟩)
        (fun s A B row hs hg hr => ⟨box_turn hs.1 (by simp) hg (fun r e => (hr r e).2), hs.2.1.grown hg hs.2.1.size (fun c e => by have := (hr c e).1; have := hI2.bel.size; omega), hs.2.2⟩)
        (fun x W r o' hl h => h.turn _ r o' hl) ⟨hI0, by simp⟩
        (fun x a' W => ∃ Bx, W2.heap.size ≤ Bx ∧ W.heap[Bx]? = some (.cells #[.int .i64 x.1.1.1, .int .i64 x.1.1.2, .int .i64 x.1.2.1, .int .i64 x.1.2.2, x.2.1, .map (some x.2.2)] 102 (0, 0)) ∧ a' = { tmps := #[.agg #[.slice ga E.length gcap, .int .i64 kk, .int .i64 op], .slice pa ps.length pcap, .pointer (some ⟨w.heap.size, 0, none⟩), undef, .pointer (some ⟨N1, 0, none⟩), u5, .pointer (some ⟨B1, 0, none⟩), .pointer (some ⟨B2, 0, none⟩), undef, u9, u10, .pointer (some ⟨tb + 1, 0, none⟩), .pointer (some ⟨Bx, 0, none⟩), undef, undef, undef, undef, .map (some M1), .map (some M2), .slice pa ps.length pcap, .int .i64 ps.length, .int .i64 ps.length, .bool false, u23, u24, u25, u26, u27, u28, u29, u30, u31, u32, u33, u34, u35, u36, u37, u38, u39, u40, u41, u42, u43, u44, u45, u46, u47, u48, u49, u50, u51, u52, u53, u54, u55, .map (some tb), .agg #[.slice ga E.length gcap, .int .i64 kk, .int .i64 op], u5, .func (.func 58) #[] #[.pointer (some ⟨BC, 0, none⟩), .pointer (some ⟨BP, 0, none⟩)], slV4 x, undef, undef, undef, undef, undef, undef, undef, undef, undef, undef, undef, undef, undef, undef, undef, undef, undef, undef, undef, undef, undef, undef, undef, undef, undef, undef, undef, undef, undef, undef, undef, undef, undef, undef, undef, undef], defers := [] })
        (fun x a' _ X Y row hs hg hr => by
          obtain ⟨Bx, h1, h2, h3⟩ := hs
          refine ⟨Bx, h1, (hg.block Bx (Array.getElem?_eq_some_iff.1 h2).1 (fun e' => ?_)).trans h2, h3⟩
          obtain ⟨_, o, ho, hc⟩ := hr Bx e'.symm
          rw [h2] at ho; cases ho; cases hc)
        ?assign ?body ?done ?stop
      case assign =>
        rintro l pre ⟨⟨⟨f1, f2⟩, ⟨t1, t2⟩⟩, ⟨lv, rb⟩⟩ W K hi hat hK
        dsimp only at hat hK
        obtain ⟨la, lg, lcap, rfl, _, _⟩ := row_form hat.row
        unfold slV4 at hK ⊢
        gi_wp2
        have hWs : W2.heap.size ≤ W.heap.size := by
          obtain ⟨_, _, hD⟩ := hat.mv
          have := hat.lo
          have := hD.lt
          omega
        exact hK _ _ ((KeepsOthers.alloc _ _).from _) (KeepIt.of_below (below1 W _) (fun _ _ h => h)) ⟨hi.1.later (below1 _ _), hi.2⟩ (hat.later (below1 _ _)) ⟨W.heap.size, hWs, World.alloc_heap_new W _, rfl⟩
      case body =>
        rintro l pre ⟨⟨⟨f1, f2⟩, ⟨t1, t2⟩⟩, ⟨lv, rb⟩⟩ a' W hl ⟨hi, hall⟩ hat ⟨Bx, hBx, bX, rfl⟩ hsp hlen
        obtain ⟨hpre, hk1, hx⟩ := pre_next hsp hlen
        dsimp only at hat bX hx
        unfold slV4
        have hx0 : Box W Bx [.int .i64 f1, .int .i64 f2, .int .i64 t1, .int .i64 t2, lv, .map (some rb)] := box_of_heap bX
        obtain ⟨la, lg, lcap, rfl, _, _⟩ := row_form hat.row
        have hfs : (f1, f2) = cs[pre.length] := congrArg Prod.fst hx
        have hts : (t1, t2) = cs[pre.length + 1] := congrArg Prod.snd hx
        have hfok : CutOk (f1, f2) := by rw [hfs]; exact hcok _ (List.getElem_mem _)
        have Hfs := hide hfs
        have Hts := hide hts
        have Hpre := hide hpre
        clear hfs hts hpre hx hsp
        obtain ⟨D1, S1, gv1⟩ := hi.g1
        obtain ⟨D2, S2, gv2⟩ := hi.g2
        have hlk1 := gv1.mv.lookup ktF Tryz.underlying193 (zero160 W) (x := (f1, f2)) hfok.wf
        have hrw1 := gv1.at' (f1, f2)
        obtain ⟨ra, rg, rcap, hrv1, hra, _⟩ := row_form hrw1
        rw [hrv1] at hlk1 hrw1
        unfold frV at hlk1
        dsimp only at hlk1
        have x0 := hx0.c 0 _ rfl
        have x1 := hx0.c 1 _ rfl
        have v1 := hi.b1.c 0 _ rfl
        gi_upto_region 15 with fail
        have hpmem : ∀ b : Bd, (∃ p ∈ ps, p.2 = b) → WfB b := fun b hb => by
          obtain ⟨p, hp, rfl⟩ := hb
          have := HG.out p hp
          exact ⟨(hsm _ this.lo.1).wf, (hsm _ this.hi.1).wf⟩
        obtain ⟨DT0, hmT0⟩ := hi.tim
        have hrne : ∀ {base size k : Nat} {e : TypeId} {v : Value} {xs : List Value}, W.ownsRow base e size v k xs → ∀ c, v.ownBlock = some c → c ≠ tb := fun hr c e he => by
          obtain ⟨o, ho, _⟩ := RowTag.of_row hr c e
          obtain ⟨es, clock, hb, _⟩ := hmT0.own
          rw [he, hb] at ho
          cases ho
          rename_i hx
          cases hx
        have Hrw1 := hide hrw1
        have Hne1 := hide (hrne hrw1)
        have Hwf1 : Hid (∀ b ∈ begB ps (f1, f2), WfB b) := hide (fun b hb => hpmem b (by
          unfold begB at hb
          obtain ⟨p, hp, rfl⟩ := List.mem_map.1 hb
          exact ⟨p, (List.mem_filter.1 hp).1, rfl⟩))
        have hbl1 := begB_le ps (f1, f2)
        have hbl2 := endB_le ps (f1, f2)
        have hnod := lt_nodup hsort
        have hcnt := cntE_le (ps := ps) (List.Nodup.sublist (List.take_sublist _ _) hnod : (cs.take pre.length).Nodup)
        have Hbd1 := hide (timT_bd ps (cs.take pre.length))
        have H1 : Hid (FqI w W N1 M1 M2 B1 B2 NB tb ps (addL 1 (timT ps (cs.take pre.length)) ((begB ps (f1, f2)).take 0)) (cntE ps (cs.take pre.length) + 0)) := hide (by rw [List.take_zero]; exact hi)
        have HAt := hide hat
        have HX0 := hide hx0
        have HAll := hide hall
        clear hi hat hx0 hall x0 x1 v1 hlk1 hrw1 hmT0 hrne gv1 gv2 bX
        gi_loopw [66] (fun i wq => ∃ j : Nat, i = .int .i64 j ∧ j ≤ (begB ps (f1, f2)).length ∧ Hid (FqI w wq N1 M1 M2 B1 B2 NB tb ps (addL 1 (timT ps (cs.take pre.length)) ((begB ps (f1, f2)).take j)) (cntE ps (cs.take pre.length) + j) ∧ Besides tb W wq)) (fun i _ => (begB ps (f1, f2)).length - (intOf i).toNat)
        case atStart => exact ⟨0, rfl, Nat.zero_le _, H1.out, Besides.refl _ _⟩
        case round =>
          obtain ⟨j, rfl, hj, hr⟩ := hrel
          clear H1
          by_cases hjl : j < (begB ps (f1, f2)).length
          · obtain rfl := hra (by omega)
            have hq := hr.out.1
            have hbs := hr.out.2
            have hrq := hbs.row Hrw1.out Hne1.out
            obtain ⟨⟨m0, m1, m2, m3⟩, ⟨m4, m5, m6, m7⟩⟩ := rowB_cells hrq j hjl
            have hjl2 : (j : Int) < (((begB ps (f1, f2)).length : Nat) : Int) := by omega
            have hwb := Hwf1.out (begB ps (f1, f2))[j] (List.getElem_mem hjl)
            have hadd := addL_take (d := 1) (T := (timT ps (cs.take pre.length))) hjl
            have hbd := addL_bd (d := 1) (by omega) Hbd1.out ((begB ps (f1, f2)).take j) (begB ps (f1, f2))[j]
            have htl : ((begB ps (f1, f2)).take j).length = j := by rw [List.length_take]; omega
            rw [htl] at hbd
            obtain ⟨bb, hbb⟩ : ∃ bb, (begB ps (f1, f2))[j] = bb := ⟨_, rfl⟩
            rw [hbb] at m0 m1 m2 m3 m4 m5 m6 m7 hwb hadd hbd
            obtain ⟨⟨⟨l0, l1⟩, ⟨l2, l3⟩⟩, ⟨⟨h0, h1⟩, ⟨h2, h3⟩⟩⟩ := bb
            dsimp only at m0 m1 m2 m3 m4 m5 m6 m7
            obtain ⟨Tj, hTj⟩ : ∃ Tj, addL 1 (timT ps (cs.take pre.length)) ((begB ps (f1, f2)).take j) = Tj := ⟨_, rfl⟩
            rw [hTj] at hq hadd hbd
            have HAdd := hide hadd
            clear hbb hTj hadd hrq hr htl
            have hqa := hq.later (below1 wr (.cells #[.int .i64 l0, .int .i64 l1, .int .i64 l2, .int .i64 l3, .int .i64 h0, .int .i64 h1, .int .i64 h2, .int .i64 h3] 106))
            have hba := hbs.trans (Besides.below (below1 wr (.cells #[.int .i64 l0, .int .i64 l1, .int .i64 l2, .int .i64 l3, .int .i64 h0, .int .i64 h1, .int .i64 h2, .int .i64 h3] 106)))
            have bB := Box.new wr [.int .i64 l0, .int .i64 l1, .int .i64 l2, .int .i64 l3, .int .i64 h0, .int .i64 h1, .int .i64 h2, .int .i64 h3] 106
            have Hq := hide hqa
            have Hb := hide hba
            clear hq hbs hqa hba
            gi_upto_region 17 with fail
            clear m0 m1 m2 m3 m4 m5 m6 m7
            generalize wr.alloc (.cells #[.int .i64 l0, .int .i64 l1, .int .i64 l2, .int .i64 l3, .int .i64 h0, .int .i64 h1, .int .i64 h2, .int .i64 h3] 106) = WP at *
            generalize wr.heap.size = C at *
            have r0 := bB.c 0 _ rfl
            have r1 := bB.c 1 _ rfl
            have r2 := bB.c 2 _ rfl
            have r3 := bB.c 3 _ rfl
            have r4 := bB.c 4 _ rfl
            have r5 := bB.c 5 _ rfl
            have r6 := bB.c 6 _ rfl
            have r7 := bB.c 7 _ rfl
            have vT := Hq.out.bT.c 0 _ rfl
            have hqd := Hq.out.later (Below.drew (Below.refl _ _))
            obtain ⟨DT, hmT⟩ := hqd.tim
            have hlkT := hmT.lookup ktB Tryz.underlying99 (zero3 WP.drew) (x := (((l0, l1), (l2, l3)), ((h0, h1), (h2, h3)))) hwb
            obtain ⟨st, w3, hme, hg3, hs3, hst⟩ := hmT.entry ktB Tryz.underlying99 (by unfold maxLen; omega) zero3 (x := (((l0, l1), (l2, l3)), ((h0, h1), (h2, h3)))) hwb
            have hlk3 := hmT.entryLook ktB Tryz.underlying99 (by unfold maxLen; omega) zero3 (x := (((l0, l1), (l2, l3)), ((h0, h1), (h2, h3)))) hwb hme
            rw [getD_map] at hlkT hme hlk3
            obtain ⟨X, hX⟩ : ∃ X, (Tj (((l0, l1), (l2, l3)), ((h0, h1), (h2, h3)))).getD 0 = X := ⟨_, rfl⟩
            rw [hX] at hlkT hme hbd hlk3
            unfold bdV at hlkT hme hlk3
            dsimp only at hlkT hme hlk3
            obtain ⟨w4, hen, hmv4, hg4, hs4⟩ := hst w3 rfl (.int .i64 (X + 1))
            have hup := upd_addB Tj (((l0, l1), (l2, l3)), ((h0, h1), (h2, h3))) 1
            rw [hX] at hup
            rw [hup, ← HAdd.out] at hmv4
            have hq4 := hqd.turn hNq (gb_trans hg3 hg4) hmv4
            have hb4 := (Hb.out.trans (Besides.below (Below.drew (Below.refl _ _)))).trans ((Besides.grown hg3).trans (Besides.grown hg4))
            have hw1 : IntKind.i64.wrap (X + 1) = X + 1 := wrap_in _ (by omega)
            have Hq4 := hide hq4
            have Hb4 := hide hb4
            clear hq4 hb4 hst hg3 hg4 hmv4 hs3 hs4 hqd hmT Hq Hb hup HAdd bB hX
            refine wpIn_weak (reg17 l 18 WP w3 w4 C tb st l0 l1 l2 l3 h0 h1 h2 h3 X (by omega) vT r0 r1 r2 r3 r4 r5 r6 r7 hlkT hlk3 hme hen _ _ _ _ _ _ _ _ _ _ _ _ _ _ _ _ _ _ _ _ _ _ _ _ _ _ _ _ _ _ _ _ _ _ _ _ _ _ _ _ _ _ _ _ _ _ _ _ _ _ _ _ _ _ _ _ _ _ _ _ _ _ _ _ _ _ _ _ _ _ _ _ _ _ _ _ _ _ _ _ _ _ _ _ _ _ _ _ _ _ _ _ _ _ _ ) ?_
            rintro e a W' ⟨rfl, rfl, y0, y1, y2, y3, y4, y5, rfl⟩
            clear hlkT hlk3 hme hen r0 r1 r2 r3 r4 r5 r6 r7 vT
            gi_wp2
            go_roundw
            case rel => exact ⟨j + 1, by go_num, by omega, Hq4.out, Hb4.out⟩
            case measure => simp [intOf]; omega
          · obtain rfl : j = (begB ps (f1, f2)).length := by omega
            have hq := hr.out.1
            have hbs := hr.out.2
            rw [List.take_of_length_le (Nat.le_refl _)] at hq
            have hrne2 : ∀ {base size k : Nat} {e : TypeId} {v : Value} {xs : List Value}, wr.ownsRow base e size v k xs → ∀ c, v.ownBlock = some c → c ≠ tb := fun hr c e he => by
              obtain ⟨o, ho, _⟩ := RowTag.of_row hr c e
              obtain ⟨_, hmT0⟩ := hq.tim
              obtain ⟨es, clock, hb, _⟩ := hmT0.own
              rw [he, hb] at ho
              cases ho
              rename_i hx
              cases hx
            obtain ⟨De, Se, ge⟩ := hq.g2
            have hlk2 := ge.mv.lookup ktF Tryz.underlying193 (zero160 wr) (x := (f1, f2)) hfok.wf
            have hrw2 := ge.at' (f1, f2)
            obtain ⟨rb2, rg2, rcap2, hrv2, hrb, _⟩ := row_form hrw2
            rw [hrv2] at hlk2 hrw2
            unfold frV at hlk2
            dsimp only at hlk2
            have hxm := hbs.box HX0.out (by simp) (by omega)
            have x0 := hxm.c 0 _ rfl
            have x1 := hxm.c 1 _ rfl
            have v2 := hq.b2.c 0 _ rfl
            obtain ⟨T2, hT2⟩ : ∃ T2, addL 1 (timT ps (cs.take pre.length)) (begB ps (f1, f2)) = T2 := ⟨_, rfl⟩
            obtain ⟨N2, hN2⟩ : ∃ N2, cntE ps (cs.take pre.length) + (begB ps (f1, f2)).length = N2 := ⟨_, rfl⟩
            have hbd2 : ∀ b, -((ps.length : Int) + ((begB ps (f1, f2)).length : Nat)) ≤ (T2 b).getD 0 ∧ (T2 b).getD 0 ≤ (ps.length : Int) + ((begB ps (f1, f2)).length : Nat) := fun b => by
              rw [← hT2]
              exact addL_bd (d := 1) (by omega) Hbd1.out (begB ps (f1, f2)) b
            rw [hT2, hN2] at hq
            have hN2b : N2 ≤ 12000 := by omega
            have HT2 := hide hT2
            have HN2 := hide hN2
            have Hbd2 := hide hbd2
            have Hrw2 := hide hrw2
            have Hne2 := hide (hrne2 hrw2)
            have Hwf2 : Hid (∀ b ∈ endB ps (f1, f2), WfB b) := hide (fun b hb => hpmem b (by
              unfold endB at hb
              obtain ⟨p, hp, rfl⟩ := List.mem_map.1 hb
              exact ⟨p, (List.mem_filter.1 hp).1, rfl⟩))
            have H2 : Hid (FqI w wr N1 M1 M2 B1 B2 NB tb ps (addL (-1) T2 ((endB ps (f1, f2)).take 0)) (N2 + 0)) := hide (by rw [List.take_zero]; exact hq)
            have HBm := hide hbs
            clear hr hq hbs hrne2 ge hxm hT2 hN2 hbd2 hrw2
            gi_upto_region 20 with fail
            clear x0 x1 v2 hlk2
            generalize wr = Wm at *
            gi_loopw [82] (fun i wq => ∃ j : Nat, i = .int .i64 j ∧ j ≤ (endB ps (f1, f2)).length ∧ Hid (FqI w wq N1 M1 M2 B1 B2 NB tb ps (addL (-1) T2 ((endB ps (f1, f2)).take j)) (N2 + j) ∧ Besides tb Wm wq)) (fun i _ => (endB ps (f1, f2)).length - (intOf i).toNat)
            case atStart => exact ⟨0, rfl, Nat.zero_le _, H2.out, Besides.refl _ _⟩
            case round =>
              obtain ⟨j, rfl, hj, hr⟩ := hrel
              clear H2
              by_cases hjl : j < (endB ps (f1, f2)).length
              · obtain rfl := hrb (by omega)
                have hq := hr.out.1
                have hbs := hr.out.2
                have hrq := hbs.row Hrw2.out Hne2.out
                obtain ⟨⟨m0, m1, m2, m3⟩, ⟨m4, m5, m6, m7⟩⟩ := rowB_cells hrq j hjl
                have hjl2 : (j : Int) < (((endB ps (f1, f2)).length : Nat) : Int) := by omega
                have hwb := Hwf2.out (endB ps (f1, f2))[j] (List.getElem_mem hjl)
                have hadd := addL_take (d := -1) (T := T2) hjl
                have hbd := addL_bd (d := -1) (by omega) Hbd2.out ((endB ps (f1, f2)).take j) (endB ps (f1, f2))[j]
                have htl : ((endB ps (f1, f2)).take j).length = j := by rw [List.length_take]; omega
                rw [htl] at hbd
                obtain ⟨bb, hbb⟩ : ∃ bb, (endB ps (f1, f2))[j] = bb := ⟨_, rfl⟩
                rw [hbb] at m0 m1 m2 m3 m4 m5 m6 m7 hwb hadd hbd
                obtain ⟨⟨⟨l0, l1⟩, ⟨l2, l3⟩⟩, ⟨⟨h0, h1⟩, ⟨h2, h3⟩⟩⟩ := bb
                dsimp only at m0 m1 m2 m3 m4 m5 m6 m7
                obtain ⟨Tj, hTj⟩ : ∃ Tj, addL (-1) T2 ((endB ps (f1, f2)).take j) = Tj := ⟨_, rfl⟩
                rw [hTj] at hq hadd hbd
                have HAdd := hide hadd
                clear hbb hTj hadd hrq hr htl
                have hqa := hq.later (below1 wr (.cells #[.int .i64 l0, .int .i64 l1, .int .i64 l2, .int .i64 l3, .int .i64 h0, .int .i64 h1, .int .i64 h2, .int .i64 h3] 106))
                have hba := hbs.trans (Besides.below (below1 wr (.cells #[.int .i64 l0, .int .i64 l1, .int .i64 l2, .int .i64 l3, .int .i64 h0, .int .i64 h1, .int .i64 h2, .int .i64 h3] 106)))
                have bB := Box.new wr [.int .i64 l0, .int .i64 l1, .int .i64 l2, .int .i64 l3, .int .i64 h0, .int .i64 h1, .int .i64 h2, .int .i64 h3] 106
                have Hq := hide hqa
                have Hb := hide hba
                clear hq hbs hqa hba
                gi_upto_region 22 with fail
                clear m0 m1 m2 m3 m4 m5 m6 m7
                generalize wr.alloc (.cells #[.int .i64 l0, .int .i64 l1, .int .i64 l2, .int .i64 l3, .int .i64 h0, .int .i64 h1, .int .i64 h2, .int .i64 h3] 106) = WP at *
                generalize wr.heap.size = C at *
                have r0 := bB.c 0 _ rfl
                have r1 := bB.c 1 _ rfl
                have r2 := bB.c 2 _ rfl
                have r3 := bB.c 3 _ rfl
                have r4 := bB.c 4 _ rfl
                have r5 := bB.c 5 _ rfl
                have r6 := bB.c 6 _ rfl
                have r7 := bB.c 7 _ rfl
                have vT := Hq.out.bT.c 0 _ rfl
                have hqd := Hq.out.later (Below.drew (Below.refl _ _))
                obtain ⟨DT, hmT⟩ := hqd.tim
                have hlkT := hmT.lookup ktB Tryz.underlying99 (zero3 WP.drew) (x := (((l0, l1), (l2, l3)), ((h0, h1), (h2, h3)))) hwb
                obtain ⟨st, w3, hme, hg3, hs3, hst⟩ := hmT.entry ktB Tryz.underlying99 (by unfold maxLen; omega) zero3 (x := (((l0, l1), (l2, l3)), ((h0, h1), (h2, h3)))) hwb
                have hlk3 := hmT.entryLook ktB Tryz.underlying99 (by unfold maxLen; omega) zero3 (x := (((l0, l1), (l2, l3)), ((h0, h1), (h2, h3)))) hwb hme
                rw [getD_map] at hlkT hme hlk3
                obtain ⟨X, hX⟩ : ∃ X, (Tj (((l0, l1), (l2, l3)), ((h0, h1), (h2, h3)))).getD 0 = X := ⟨_, rfl⟩
                rw [hX] at hlkT hme hbd hlk3
                unfold bdV at hlkT hme hlk3
                dsimp only at hlkT hme hlk3
                obtain ⟨w4, hen, hmv4, hg4, hs4⟩ := hst w3 rfl (.int .i64 (X - 1))
                have hup := upd_addB Tj (((l0, l1), (l2, l3)), ((h0, h1), (h2, h3))) (-1)
                rw [hX, show X + (-1) = X - 1 by omega] at hup
                rw [hup, ← HAdd.out] at hmv4
                have hq4 := hqd.turn hNq (gb_trans hg3 hg4) hmv4
                have hb4 := (Hb.out.trans (Besides.below (Below.drew (Below.refl _ _)))).trans ((Besides.grown hg3).trans (Besides.grown hg4))
                have hw1 : IntKind.i64.wrap (X - 1) = X - 1 := wrap_in _ (by omega)
                have Hq4 := hide hq4
                have Hb4 := hide hb4
                clear hq4 hb4 hst hg3 hg4 hmv4 hs3 hs4 hqd hmT Hq Hb hup HAdd bB hX
                refine wpIn_weak (reg22 l 18 WP w3 w4 C tb st l0 l1 l2 l3 h0 h1 h2 h3 X (by omega) vT r0 r1 r2 r3 r4 r5 r6 r7 hlkT hlk3 hme hen _ _ _ _ _ _ _ _ _ _ _ _ _ _ _ _ _ _ _ _ _ _ _ _ _ _ _ _ _ _ _ _ _ _ _ _ _ _ _ _ _ _ _ _ _ _ _ _ _ _ _ _ _ _ _ _ _ _ _ _ _ _ _ _ _ _ _ _ _ _ _ _ _ _ _ _ _ _ _ _ _ _ _ _ _ _ _ _ _ _ _ _ _ _ _ ) ?_
                rintro e a W' ⟨rfl, rfl, y0, y1, y2, y3, y4, y5, rfl⟩
                clear hlkT hlk3 hme hen r0 r1 r2 r3 r4 r5 r6 r7 vT
                gi_wp2
                go_roundw
                case rel => exact ⟨j + 1, by go_num, by omega, Hq4.out, Hb4.out⟩
                case measure => simp [intOf]; omega
              · obtain rfl : j = (endB ps (f1, f2)).length := by omega
                have hq := hr.out.1
                have hbs := hr.out.2
                rw [List.take_of_length_le (Nat.le_refl _)] at hq
                have hend2 : addL (-1) T2 (endB ps (f1, f2)) = timT ps (cs.take (pre.length + 1)) := by
                  rw [← HT2.out, take_next (by omega), Hfs.out]
                  exact timT_next (nodup_next hnod (by omega))
                have hcn2 : N2 + (endB ps (f1, f2)).length = cntE ps (cs.take (pre.length + 1)) := by
                  rw [← HN2.out, take_next (by omega), cntE_snoc, Hfs.out]
                rw [hend2, hcn2] at hq
                have hcn3 : cntE ps (cs.take (pre.length + 1)) ≤ 8000 := by
                  have := cntE_le (ps := ps) (List.Nodup.sublist (List.take_sublist _ _) hnod : (cs.take (pre.length + 1)).Nodup)
                  omega
                have hbW := HBm.out.trans hbs
                have hatQ := hbW.slab HAt.out (by omega)
                have hxq := hbW.box HX0.out (by simp) (by omega)
                have x0 := hxq.c 0 _ rfl
                have x1 := hxq.c 1 _ rfl
                have x2 := hxq.c 2 _ rfl
                have x3 := hxq.c 3 _ rfl
                have x4 := hxq.c 4 _ rfl
                have x5 := hxq.c 5 _ rfl
                have vT := hq.bT.c 0 _ rfl
                obtain ⟨DT, hmT⟩ := hq.tim
                have HC := hide (slabFilled_any E kk op f1 f2 t1 t2 W2.heap.size rb tb (cntE ps (cs.take (pre.length + 1))) _ DT (timT ps (cs.take (pre.length + 1))) wr hatQ hmT (by omega)
                  (fun b k hb => by
                    have h1 := timT_bd ps (cs.take (pre.length + 1)) b
                    rw [hb] at h1
                    simp at h1
                    omega)
                  (fun b k hb => by
                    have h1 : comeK ps (cs.take (pre.length + 1)) b = true := by rw [← timT_some, hb]; rfl
                    obtain ⟨p, hp, rfl⟩ := comeK_mem h1
                    have := HG.out p hp
                    exact ⟨this.lo, this.hi⟩) hEl)
                have HOk : Hid (∀ ks, AllB DT ks → okS E kk op (f1, f2) (t1, t2) ks (fun b => (timT ps (cs.take (pre.length + 1)) b).getD 0) = Acre.slabOk E kk op ps (f1, f2) (t1, t2)) := hide (fun ks hks => by
                  rw [Hfs.out]
                  exact okS_times hsort (by omega) hmem hks.nodup (fun b hb hs => (hks.mem b (hpmem b hb)).2 (by rw [hmT.has b (hpmem b hb)]; simpa using hs)))
                have Hq := hide hq
                have HbW := hide hbW
                have c0 := hq.bA.c 0 _ rfl
                have f0 := hq.bA.f 0 (by simp)
                have hadj : Hid ((Acre.adj cs)[pre.length]? = some ((f1, f2), (t1, t2))) := hide (by rw [adj_get cs pre.length hk1, Hfs.out, Hts.out])
                have HAll2 : Hid (Acre.slabOk E kk op ps (f1, f2) (t1, t2) = true → ∀ s ∈ (Acre.adj cs).take (pre.length + 1), Acre.slabOk E kk op ps s.1 s.2 = true) := hide (fun h s hs => by
                  rw [List.take_add_one, hadj.out] at hs
                  rcases List.mem_append.1 hs with hs | hs
                  · exact HAll.out s hs
                  · have : s = ((f1, f2), (t1, t2)) := by simpa using hs
                    rw [this]; exact h)
                have HNo : Hid (Acre.slabOk E kk op ps (f1, f2) (t1, t2) = false → Acre.filledP E kk op ps = false) := hide (fun h => HFq.out ((f1, f2), (t1, t2)) (List.mem_of_getElem? hadj.out) h)
                clear hr hq hbs hbW hatQ hxq hmT hend2 hcn2
                obtain ⟨okk, hokk⟩ : ∃ okk, Acre.slabOk E kk op ps (f1, f2) (t1, t2) = okk := ⟨_, rfl⟩
                rw [hokk] at HOk HAll2 HNo
                have hlast : (pre ++ [((((f1, f2), (t1, t2)), (.slice la (layersP E kk op (f1, f2) (t1, t2)).length lcap, rb)) : Sl)]).length = pre.length + 1 := by simp
                have HLst := hide hlast
                clear hokk hlast
                cases okk
                · gi_wp2_with (refine ⟨trivial, ?_⟩; gi_at_call 90; refine (CallsIn.inRound l (callsIn_wide.2 HC.out)).mono ?_; rintro e w8 ⟨ks, hks, rfl, hb8⟩; rw [HOk.out ks hks]; have b8 := Hq.out.bA.later (by simp) hb8; have c8 := b8.c 0 _ rfl; have f8 := b8.f 0 (by simp); have l8 := below_call hb8 Hq.out.bel; have s8 := HbW.out.trans (Besides.below hb8); have Hb8 := hide b8; have Hl8 := hide l8; have Hs8 := hide s8; clear b8 l8 s8 hb8)
                  have hn1 := HN.out.n1
                  have hnb := HN.out.nb
                  refine ⟨⟨?_, ?_⟩, ?_, ?_, HNo.out (by simp)⟩
                  · have := Hs8.out.size; simpa [World.setCell] using this
                  · intro k o hk ho hc
                    rw [Below.heap_setCell _ _ _ _ (by show k ≠ N1; omega)]
                    exact (Hs8.out.from (B := W2.heap.size) (by omega)).same k o hk ho hc
                  · refine ⟨fun k v hk => ?_, fun k hk => ?_⟩
                    · match k, hk with
                      | 0, hk =>
                        simp at hk
                        subst hk
                        exact World.cell?_setCell_same _ _ _ c8
                      | k + 1, hk => simp at hk
                    · rw [frozen_set]
                      exact Hb8.out.f k hk
                  · exact Hl8.out.setCell (p := ⟨N1, 0, none⟩) (by show w.heap.size ≤ N1; omega) _
                · gi_wp2_with (refine ⟨trivial, ?_⟩; gi_at_call 90; refine (CallsIn.inRound l (callsIn_wide.2 HC.out)).mono ?_; rintro e w8 ⟨ks, hks, rfl, hb8⟩; rw [HOk.out ks hks]; have q8 := Hq.out.later hb8; have s8 := HbW.out.trans (Besides.below hb8); have Hq8 := hide q8; have Hs8 := hide s8; clear q8 s8 hb8)
                  refine ⟨Hs8.out.from (by omega), Hs8.out.keep (fun k hk => hk.2.1), ?_, ?_⟩
                  · rw [HLst.out]; exact Hq8.out
                  · rw [HLst.out]; exact HAll2.out (by simp)
      case done =>
        rintro D xs W hD hxs ⟨hi, hall⟩ hK
        have hlen : xs.length = (Acre.adj cs).length := by rw [← hxs, List.length_map]
        rw [hlen, List.take_of_length_le (Nat.le_refl _)] at hall
        have HF := hide (HFa.out hall)
        have c0 := hi.bA.c 0 _ rfl
        have f0 := hi.bA.f 0 (by simp)
        have hB := hide (hi.bel.setCell (p := ⟨N1, 0, none⟩) (by have := hNn.n1; show w.heap.size ≤ N1; omega) (.bool true))
        have hK2 : (W.setCell ⟨N1, 0, none⟩ (.bool true)).heap[D]? = some (.deferred (some [])) := by
          rw [Below.heap_setCell _ _ _ _ (by have := hNn.n1; have := hNn.nb; show D ≠ N1; omega)]
          exact hK
        clear hall
        gi_wp2
        refine ⟨by simp, .inl ⟨_, _, rfl, run_takeDeferred hK2, ?_⟩⟩
        have hDN : D ≠ N1 := by have := hNn.n1; have := hNn.nb; omega
        have hc : ((W.setCell ⟨N1, 0, none⟩ (.bool true)).putObj D (.deferred none)).cell? ⟨N1, 0, none⟩ = some (.bool true) :=
          (World.cell?_of_block (w := W.setCell ⟨N1, 0, none⟩ (.bool true)) (a := ⟨N1, 0, none⟩) (World.putObj_heap_other hDN.symm)).trans (World.cell?_setCell_same _ _ _ c0)
        refine ⟨.bool true, by simp [results, Tryz.results49, go_sem, hc], by rw [HF.out], ?_⟩
        exact hB.out.trans (belowK_b (w := w) (Nat.le_refl _) _ D _ _ (by have := hI2.bel.size; omega) hK2 rfl rfl)
      case stop =>
        rintro D pre W hD hpre ⟨hb, hbel, hno⟩ hK
        have c0 := hb.c 0 _ rfl
        gi_wp2
        refine ⟨by simp, .inl ⟨_, _, rfl, run_takeDeferred hK, ?_⟩⟩
        have hDN : D ≠ N1 := by have := hNn.n1; have := hNn.nb; omega
        have hc : (W.putObj D (.deferred none)).cell? ⟨N1, 0, none⟩ = some (.bool false) :=
          (World.cell?_of_block (w := W) (a := ⟨N1, 0, none⟩) (World.putObj_heap_other hDN.symm)).trans c0
        refine ⟨.bool false, by simp [results, Tryz.results49, go_sem, hc], rfl, ?_⟩
        exact hbel.trans (belowK_b (w := w) (Nat.le_refl _) _ D _ _ (by have := hI2.bel.size; omega) hK rfl rfl)
end Go.Proofs.YtkjlkbgdkdcboaaGreatDoor
