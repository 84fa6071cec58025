import Derived.Test.YtkjlkbgdkdcboaaWalksE
namespace Go.Proofs.Ytkjlkbgdkdcboaa
open Go.RowKit Go.Maps
attribute [local go_sem ↓] Go.wp_at_zero Go.wp_at_succ

theorem along_start {w W : World} {a1 a2 b1 b2 c1 c2 d1 d2 : Int} (m0 : M8 w.heap.size a1 a2 b1 b2 c1 c2 d1 d2 W) (q0 : Below w.heap.size w W) (hs : W.heap.size = w.heap.size + 1 + 1 + 1 + 1 := by simp) :
    Rel w (a1, a2) (b1, b2) (c1, c2) (d1, d2) 0 (((W.alloc (.map #[] 0)).alloc (.cells #[.int .i64 0, .int .i64 0] 37)).alloc (.cells #[.int .i64 0, .int .i64 0] 37)) := by
  have q := below3 W (.map #[] 0) (.cells #[.int .i64 0, .int .i64 0] 37) (.cells #[.int .i64 0, .int .i64 0] 37)
  refine ⟨m0.later q, ⟨[], Acre.Diff.nil, ⟨.map [], ?_, rfl, fun p _ _ => by simp [Maps.has]⟩⟩, ⟨(0, 0), (0, 0), ?_, by simp⟩, below_call q q0⟩
  · rw [← hs]
    exact ((World.ownsMap_made W _ _ _).alloc _).alloc _
  · rw [← hs]
    constructor <;> simp [go_sem]
    all_goals omega

theorem along_skip {w wr w' : World} {a b c d p : Acre.Pt} {k : Nat} (h : Rel w a b c d k wr) (hp : [a, b, c, d][k]? = some p) (hn : Acre.on2 a b c d p = false) (T : Below wr.heap.size wr w') : Rel w a b c d (k + 1) w' := by
  obtain ⟨m, ⟨u, hd, hgot⟩, ⟨x, y, hxy, hlast⟩, hw⟩ := h
  have e : ([a, b, c, d].take (k + 1)).filter (Acre.on2 a b c d) = ([a, b, c, d].take k).filter (Acre.on2 a b c d) := by
    rw [List.take_add_one, hp, List.filter_append]; simp [hn]
  unfold Rel
  rw [e]
  obtain ⟨D, g1, g2⟩ := (hgot.later T).ex
  exact ⟨m.later T, ⟨u, hd, ⟨D, g1.mono (by omega), g2⟩⟩, ⟨x, y, hxy.later T, hlast⟩, below_call T hw⟩

theorem along_put {w w2 w5 : World} {a b c d p : Acre.Pt} {k : Nat} {u : List Acre.Pt} {D v : DataW Unit} (m : M8 w.heap.size a.1 a.2 b.1 b.2 c.1 c.2 d.1 d.2 w2) (hw : Below w.heap.size w w2)
    (hd : Acre.Diff (([a, b, c, d].take k).filter (Acre.on2 a b c d)) u) {x y : Int × Int} (hxy : XY (w.heap.size + 1 + 1 + 1 + 1 + 1) x y w2)
    (hp : [a, b, c, d][k]? = some p) (hy : Acre.on2 a b c d p = true) (hp1 : Sm p.1) (hp2 : Sm p.2)
    (g1 : w2.ownsMap Try.prog 28 (plainElem Try.prog 3) (w.heap.size + 1 + 1 + 1 + 1) k D) (g2 : Maps.size D = u.length) (g3 : ∀ p : Acre.Pt, -1000 ≤ p.1 ∧ p.1 ≤ 1000 → -1000 ≤ p.2 ∧ p.2 ≤ 1000 → Maps.has D (kp p.1 p.2) = decide (p ∈ u))
    (h5 : w5.ownsMap Try.prog 28 (plainElem Try.prog 3) (w.heap.size + 1 + 1 + 1 + 1) (k + 1) (D.put (kp p.1 p.2) v)) (hg : w2.drew.grownBy w5 (some (w.heap.size + 1 + 1 + 1 + 1))) :
    Rel w a b c d (k + 1) ((((w5.setCell ⟨w.heap.size + 1 + 1 + 1 + 1 + 1, 0, none⟩ (.int .i64 p.1)).setCell ⟨w.heap.size + 1 + 1 + 1 + 1 + 1, 1, none⟩ (.int .i64 1)).setCell ⟨w.heap.size + 1 + 1 + 1 + 1 + 1 + 1, 0, none⟩ (.int .i64 p.2)).setCell ⟨w.heap.size + 1 + 1 + 1 + 1 + 1 + 1, 1, none⟩ (.int .i64 1)).drew := by
  have e : ([a, b, c, d].take (k + 1)).filter (Acre.on2 a b c d) = ([a, b, c, d].take k).filter (Acre.on2 a b c d) ++ [p] := by
    rw [List.take_add_one, hp, List.filter_append]; simp [hy]
  obtain ⟨u', hd', hgot'⟩ := Got.put ⟨by omega, by omega⟩ ⟨by omega, by omega⟩ hd g1 g2 g3 h5
  have hb5 : Below (w.heap.size + 1 + 1 + 1 + 1) w2.drew w5 := ⟨hg.os, hg.tape, hg.output, hg.size, fun i hi => hg.block i (by have := m.l3; show i < w2.heap.size; omega) (by simp; omega)⟩
  have hb : Below (w.heap.size + 1 + 1 + 1 + 1) w2 ((((w5.setCell ⟨w.heap.size + 1 + 1 + 1 + 1 + 1, 0, none⟩ (.int .i64 p.1)).setCell ⟨w.heap.size + 1 + 1 + 1 + 1 + 1, 1, none⟩ (.int .i64 1)).setCell ⟨w.heap.size + 1 + 1 + 1 + 1 + 1 + 1, 0, none⟩ (.int .i64 p.2)).setCell ⟨w.heap.size + 1 + 1 + 1 + 1 + 1 + 1, 1, none⟩ (.int .i64 1)).drew :=
    (((((((Below.refl _ _).drew).trans hb5).setCell (by dsimp only; omega) _).setCell (by dsimp only; omega) _).setCell (by dsimp only; omega) _).setCell (by dsimp only; omega) _).drew
  have xy5 := (hxy.later ((Below.refl _ _).drew)).grown hg (by omega) (by omega)
  unfold Rel
  rw [e]
  refine ⟨m.low hb, ⟨u', hd', ?_⟩, ⟨(p.1, 1), (p.2, 1), ?_, ?_⟩, hw.trans (hb.mono (by omega))⟩
  · obtain ⟨D', k1, k2⟩ := hgot'.ex
    exact ⟨D', (((k1.setCell (by dsimp only; omega) _).setCell (by dsimp only; omega) _).setCell (by dsimp only; omega) _).setCell (by dsimp only; omega) _, k2⟩
  · obtain ⟨l0, l1, x0, x1, y0, y1, f0, f1, f2, f3⟩ := xy5
    constructor <;> simp [go_sem, l0, l1, x0, x1, y0, y1, f0, f1, f2, f3]
  · intro q hq
    simp at hq
    subst hq
    exact ⟨rfl, rfl⟩

set_option maxHeartbeats 4000000 in
theorem meetAlong_any (a1 a2 b1 b2 c1 c2 d1 d2 : Int) (w : World) (h1 : Sm a1) (h2 : Sm a2) (h3 : Sm b1) (h4 : Sm b2) (h5 : Sm c1) (h6 : Sm c2) (h7 : Sm d1) (h8 : Sm d2) :
    Calls Try.prog 37 #[.agg #[.int .i64 a1, .int .i64 a2, .int .i64 b1, .int .i64 b2], .agg #[.int .i64 c1, .int .i64 c2, .int .i64 d1, .int .i64 d2]] w fun e w' => e = .returned (resV (Acre.tell (Acre.endsOf (a1, a2) (b1, b2) (c1, c2) (d1, d2)))) ∧ Below w.heap.size w w' := by
  have hmm := @run_makeMap Try.prog
  have m0 := M8.start w a1 a2 b1 b2 c1 c2 d1 d2 46 46 37 37
  have q0 := below4 w (.cells #[.int .i64 a1, .int .i64 a2, .int .i64 b1, .int .i64 b2] 46) (.cells #[.int .i64 c1, .int .i64 c2, .int .i64 d1, .int .i64 d2] 46) (.cells #[.int .i64 0, .int .i64 0] 37) (.cells #[.int .i64 0, .int .i64 0] 37)
  go_enter Try.func37, Try.ntmps37
  go_wp2_with fail
  go_loopw [24] (fun i wr => ∃ k : Nat, i = .int .i64 k ∧ k ≤ 4 ∧ Hid (Rel w (a1, a2) (b1, b2) (c1, c2) (d1, d2) k wr)) (fun i _ => 4 - (intOf i).toNat)
  case atStart =>
    exact ⟨0, rfl, by omega, along_start m0 q0⟩
  case round =>
    clear m0 q0 hmm
    obtain ⟨k, rfl, hk, hr⟩ := hrel
    by_cases hlt : k < 4
    · obtain ⟨p, hp, hpm, hidx⟩ := index4 a1 a2 b1 b2 c1 c2 d1 d2 k hlt
      have hpb : Sm p.1 ∧ Sm p.2 := by
        simp only [List.mem_cons, List.not_mem_nil, or_false] at hpm
        rcases hpm with rfl | rfl | rfl | rfl <;> exact ⟨by assumption, by assumption⟩
      obtain ⟨hp1, hp2⟩ := hpb
      have Hp : Hid _ := hp
      clear hp hpm
      obtain ⟨m, ⟨u, hd, hgot⟩, ⟨x, y, hxy, hlast⟩, hw⟩ := hr.out
      go_wp2_with fail
      have c0 : (wr.alloc (.cells #[.int .i64 p.1, .int .i64 p.2] 28)).cell? ⟨wr.heap.size, 0, none⟩ = some (.int .i64 p.1) := by simp [go_sem]
      have c1' : (wr.alloc (.cells #[.int .i64 p.1, .int .i64 p.2] 28)).cell? ⟨wr.heap.size, 1, none⟩ = some (.int .i64 p.2) := by simp [go_sem]
      have qP := below1 wr (.cells #[.int .i64 p.1, .int .i64 p.2] 28)
      generalize wr.alloc (.cells #[.int .i64 p.1, .int .i64 p.2] 28) = WP at *
      have lP : wr.heap.size < WP.heap.size := World.block_lt_of_cell? _ _ c0
      go_cut [12, 13] (fun v12 v13 wc => ∃ bx bz : Nat, v12 = .pointer (some ⟨bx, 0, none⟩) ∧ v13 = .pointer (some ⟨bz, 0, none⟩) ∧ Below WP.heap.size WP wc ∧ wc.cell? ⟨bx, 0, none⟩ = some (.int .i64 p.1) ∧ wc.cell? ⟨bx, 1, none⟩ = some (.int .i64 1) ∧ wc.cell? ⟨bz, 0, none⟩ = some (.int .i64 p.2) ∧ wc.cell? ⟨bz, 1, none⟩ = some (.int .i64 1) ∧ WP.heap.size ≤ bx ∧ WP.heap.size ≤ bz)
      case first =>
        go_region_held3 (fun w' => w'.cell? ⟨wr.heap.size, 0, none⟩ = some (.int .i64 p.1) ∧ w'.cell? ⟨wr.heap.size, 1, none⟩ = some (.int .i64 p.2)) (go_keep) (fail)
        all_goals go_wp2_with fail
        all_goals go_meet
        all_goals exact ⟨_, _, rfl, rfl, Below.drew (below2 _ _ _), by simp [go_sem], by simp [go_sem], by simp [go_sem], by simp [go_sem], by simp, by simp⟩
      case rest =>
        obtain ⟨bx, bz, rfl, rfl, qc, x0, x1, z0, z1, lx, lz⟩ := hcut
        have T := below_call qc qP
        have mc := m.later T
        have p0 := cell_later qc c0
        have p1 := cell_later qc c1'
        clear c0 c1'
        obtain ⟨_, _, _, _, e0, e1, e2, e3, f0, f1, f2, f3, _, _, _, _, _, _, _, _⟩ := id mc
        have s1 : Fr p.1 1 := ⟨by omega, by omega⟩
        have s2 : Fr p.2 1 := ⟨by omega, by omega⟩
        cases hE : Acre.onE a1 a2 b1 b2 p.1 1 p.2 1
        · have HE : Hid _ := hE
          clear hE
          go_wp2_with fail
          refine (isOn_any _ _ _ _ _ _ _ _ _ h1 h2 h3 h4 s1 s2).mono ?_
          rintro e w1 ⟨rfl, hb1⟩
          rw [HE.out]
          have T1 := below_call hb1 T
          go_wp2
          go_roundw
          case rel =>
            exact ⟨k + 1, by go_num, by omega, along_skip hr.out Hp.out (by simp [Acre.on2, HE.out]) T1⟩
          case measure => simp [intOf]; omega
        · have HE : Hid _ := hE
          clear hE
          go_wp2_with fail
          refine (isOn_any _ _ _ _ _ _ _ _ _ h1 h2 h3 h4 s1 s2).mono ?_
          rintro e w1 ⟨rfl, hb1⟩
          rw [HE.out]
          have T1 := below_call hb1 T
          have mc1 := m.later T1
          have x01 := cell_later hb1 x0
          have x11 := cell_later hb1 x1
          have z01 := cell_later hb1 z0
          have z11 := cell_later hb1 z1
          have p01 := cell_later hb1 p0
          have p11 := cell_later hb1 p1
          obtain ⟨_, _, _, _, _, _, _, _, f01, f11, f21, f31, _, _, _, _, _, _, _, _⟩ := id mc1
          go_wp2_with fail
          refine (isOn_any _ _ _ _ _ _ _ _ _ h5 h6 h7 h8 s1 s2).mono ?_
          rintro e w2 ⟨rfl, hb2⟩
          have T2 := below_call hb2 T1
          cases hF : Acre.onE c1 c2 d1 d2 p.1 1 p.2 1
          · have HF : Hid _ := hF
            clear hF
            go_wp2
            go_roundw
            case rel =>
              exact ⟨k + 1, by go_num, by omega, along_skip hr.out Hp.out (by simp [Acre.on2, HF.out]) T2⟩
            case measure => simp [intOf]; omega
          · have HF : Hid _ := hF
            clear hF
            have x02 := cell_later hb2 x01
            have x12 := cell_later hb2 x11
            have z02 := cell_later hb2 z01
            have z12 := cell_later hb2 z11
            have p02 := cell_later hb2 p01
            have p12 := cell_later hb2 p11
            clear x01 x11 z01 z11 p01 p11 x0 x1 z0 z1 p0 p1 f01 f11 f21 f31 e0 e1 e2 e3 f0 f1 f2 f3
            go_wp2_with fail
            have m2 := m.later T2
            have xy2 := hxy.later T2
            obtain ⟨D, g1, g2, g3⟩ := (hgot.later T2).ex
            obtain ⟨c, v0, st, w4, hwc, hat, hl1, hl2, hme, hg4, hst⟩ := tick lawPt Try.underlying117 Try.underlying3 zeroInt g1.drew (by unfold maxLen; omega) (key_pt (wf_i p.1 (by omega)) (wf_i p.2 (by omega)))
            obtain ⟨w5, hen, hown5, hg5⟩ := hst (wrap64 (c + 1)) (wrap64_wf _)
            have neM : wr.heap.size ≠ w.heap.size + 1 + 1 + 1 + 1 := by have := hxy.l0; omega
            have p04 := grown_cell hg4 (a := ⟨wr.heap.size, 0, none⟩) p02 neM
            have p14 := grown_cell hg4 (a := ⟨wr.heap.size, 1, none⟩) p12 neM
            clear hst hat
            have Hat : True := trivial
            go_region
            have nbx : bx ≠ w.heap.size + 1 + 1 + 1 + 1 := by have := hxy.l0; omega
            have nbz : bz ≠ w.heap.size + 1 + 1 + 1 + 1 := by have := hxy.l0; omega
            have x05 := grown_cell hg5 (a := ⟨bx, 0, none⟩) x02 nbx
            have x15 := grown_cell hg5 (a := ⟨bx, 1, none⟩) x12 nbx
            have z05 := grown_cell hg5 (a := ⟨bz, 0, none⟩) z02 nbz
            have z15 := grown_cell hg5 (a := ⟨bz, 1, none⟩) z12 nbz
            have xy5 := (xy2.later ((Below.refl _ _).drew)).grown hg5 (by omega) (by omega)
            obtain ⟨l05, l15, X0, X1, Y0, Y1, F0, F1, F2, F3⟩ := id xy5
            have nex : bx ≠ w.heap.size + 1 + 1 + 1 + 1 + 1 := by have := hxy.l0; omega
            have nez : bz ≠ w.heap.size + 1 + 1 + 1 + 1 + 1 := by have := hxy.l0; omega
            have nex' : bx ≠ w.heap.size + 1 + 1 + 1 + 1 + 1 + 1 := by have := hxy.l1; omega
            have nez' : bz ≠ w.heap.size + 1 + 1 + 1 + 1 + 1 + 1 := by have := hxy.l1; omega
            go_wp2
            go_region
            all_goals go_wp2
            go_roundw
            case rel =>
              exact ⟨k + 1, by go_num, by omega, along_put m2 (below_call T2 hw) hd xy2 Hp.out (by simp [Acre.on2, HE.out, HF.out]) hp1 hp2 g1 g2 g3 hown5 hg5⟩
            case measure => simp [intOf]; omega
    · obtain rfl : k = 4 := by omega
      obtain ⟨m, ⟨u, hd, hgot⟩, ⟨x, y, hxy, hlast⟩, hw⟩ := hr.out
      obtain ⟨D, g1, g2, g3⟩ := hgot.ex
      have hlen := fun ty => g1.len Try.underlying117 ty
      rw [g2] at hlen
      have hends : ([(a1, a2), (b1, b2), (c1, c2), (d1, d2)].take 4).filter (Acre.on2 (a1, a2) (b1, b2) (c1, c2) (d1, d2)) = Acre.endsOf (a1, a2) (b1, b2) (c1, c2) (d1, d2) := rfl
      rw [hends] at hd hlast
      clear hends g1 g2 g3 hgot
      obtain ⟨lt0, lt1, lt2, lt3, _, _, _, _, _, _, _, _, r0, r1, s0, s1, f0, f1, g0, g1⟩ := id m
      obtain ⟨l05, l15, X0, X1, Y0, Y1, F0, F1, F2, F3⟩ := id hxy
      by_cases h0 : u.length = 0
      · have ht : Hid _ := Acre.tell_none hd h0
        rw [h0] at hlen
        clear h0
        go_wp2
        refine bodyPost_ret (v := resV (0, (0, 0), (0, 0))) ?_ rfl ⟨?_, ?_⟩
        · simp [results, Try.results37, go_sem, resV, r0, r1, s0, s1]
        · rw [ht.out]
        · exact (((hw.setCell (by dsimp only; omega) _).setCell (by dsimp only; omega) _).setCell (by dsimp only; omega) _).setCell (by dsimp only; omega) _
      · by_cases h1' : u.length = 1
        · have hl : ∃ p, (Acre.endsOf (a1, a2) (b1, b2) (c1, c2) (d1, d2)).getLast? = some p := by
            cases hq : (Acre.endsOf (a1, a2) (b1, b2) (c1, c2) (d1, d2)).getLast? with
            | some p => exact ⟨p, rfl⟩
            | none =>
              rw [List.getLast?_eq_none_iff] at hq
              rw [hq] at hd
              obtain ⟨q, rfl⟩ := List.length_eq_one_iff.1 h1'
              have := (hd.mem q).1 (by simp)
              simp at this
          obtain ⟨p, hp⟩ := hl
          obtain ⟨rfl, rfl⟩ := hlast p hp
          have ht : Hid _ := Acre.tell_one hd h1' hp
          rw [h1'] at hlen
          clear h0 h1' hp hlast
          go_wp2
          go_region
          go_wp2
          refine bodyPost_ret (v := resV (1, (p.1, 1), (p.2, 1))) ?_ rfl ⟨?_, ?_⟩
          · simp [results, Try.results37, go_sem, resV, r0, r1, s0, s1]
          · rw [ht.out]
          · exact ((((hw.setCell (by dsimp only; omega) _).setCell (by dsimp only; omega) _).setCell (by dsimp only; omega) _).setCell (by dsimp only; omega) _).drew
        · have ht : Hid _ := Acre.tell_more hd h0 h1'
          have h00 : ((u.length : Int) == 0) = false := beq_eq_false_iff_ne.2 (by omega)
          have h01 : ((u.length : Int) == 1) = false := beq_eq_false_iff_ne.2 (by omega)
          go_wp2
          refine bodyPost_ret (v := resV (2, (0, 0), (0, 0))) ?_ rfl ⟨?_, ?_⟩
          · simp [results, Try.results37, go_sem, resV, r0, r1, s0, s1]
          · rw [ht.out]
          · exact (((hw.setCell (by dsimp only; omega) _).setCell (by dsimp only; omega) _).setCell (by dsimp only; omega) _).setCell (by dsimp only; omega) _

end Go.Proofs.Ytkjlkbgdkdcboaa
