import Derived.Test.YtkjlkbgdkdcboaaEnds
import Derived.Test.YtkjlkbgdkdcboaaPlane3
namespace Go.Proofs.Ytkjlkbgdkdcboaa
open Go.RowKit Go.Maps
attribute [local go_sem ↓] Go.wp_at_zero Go.wp_at_succ

/-- as M8, and a fraction 0/0 besides -/
structure R9 (B : Nat) (a b c d e f g h : Int) (w : World) : Prop where
  m : M8 B a b c d e f g h w
  l4 : B + 1 + 1 + 1 + 1 < w.heap.size
  z0 : w.cell? ⟨B + 1 + 1 + 1 + 1, 0, none⟩ = some (.int .i64 0)
  z1 : w.cell? ⟨B + 1 + 1 + 1 + 1, 1, none⟩ = some (.int .i64 0)
theorem R9.later {B : Nat} {a b c d e f g h : Int} {w w' : World} (m : R9 B a b c d e f g h w) (hb : Below w.heap.size w w') : R9 B a b c d e f g h w' :=
  ⟨m.m.later hb, Nat.lt_of_lt_of_le m.l4 hb.size, cell_later hb m.z0, cell_later hb m.z1⟩
theorem R9.start (w : World) (a b c d e f g h : Int) (t1 t2 t3 t4 t5 : TypeId) :
    R9 w.heap.size a b c d e f g h (((((w.alloc (.cells #[.int .i64 a, .int .i64 b, .int .i64 c, .int .i64 d] t1)).alloc (.cells #[.int .i64 e, .int .i64 f, .int .i64 g, .int .i64 h] t2)).alloc (.cells #[.int .i64 0, .int .i64 0] t3)).alloc (.cells #[.int .i64 0, .int .i64 0] t4)).alloc (.cells #[.int .i64 0, .int .i64 0] t5)) := by
  refine ⟨(M8.start w a b c d e f g h t1 t2 t3 t4).later (below1 _ _), ?_, ?_, ?_⟩ <;> simp [go_sem]

theorem below5 (w : World) (a b c d e : Obj) : Below w.heap.size w (((((w.alloc a).alloc b).alloc c).alloc d).alloc e) := below_call (below1 _ _) (below4 w a b c d)

theorem flat_append (p q : List Acre.Pt) : flat (p ++ q) = flat p ++ flat q := by simp [flat]
theorem flat_length (p : List Acre.Pt) : (flat p).length = p.length * 2 := by
  induction p with
  | nil => rfl
  | cons a r ih => simp only [flat, List.flatMap_cons, List.length_append, List.length_cons, List.length_nil] at *; omega
theorem flat_get (p : List Acre.Pt) (k : Nat) (h : k < p.length) : (flat p)[k * 2]? = some (.int .i64 p[k].1) ∧ (flat p)[k * 2 + 1]? = some (.int .i64 p[k].2) := by
  induction p generalizing k with
  | nil => simp at h
  | cons a r ih =>
    cases k with
    | zero => simp [flat]
    | succ k =>
      have := ih k (by simpa using h)
      have e1 : (k + 1) * 2 = k * 2 + 1 + 1 := by omega
      simp only [flat, List.flatMap_cons] at *
      rw [e1]
      simpa using this

set_option maxRecDepth 100000 in
theorem neq51 (u v x y : Int) (w' : World) : (binOp .neq 51 (.agg #[.int .i64 u, .int .i64 v]) (.agg #[.int .i64 x, .int .i64 y])).run Try.prog w' = .ok (.bool (!(u == x && v == y))) w' := by
  go_simp
  by_cases h1 : u = x <;> by_cases h2 : v = y <;> simp [h1, h2]
theorem tell_all {P : List Acre.Pt} (h : 0 < P.length) (ha : ∀ j (hj : j < P.length), P[j] = P[0]) : Acre.tell P = ((1, (P[0].1, 1), (P[0].2, 1)) : Int × (Int × Int) × (Int × Int)) := by
  match P, h with
  | p :: r, _ =>
    unfold Acre.tell
    simp only
    rw [if_pos]
    · rfl
    · rw [List.all_eq_true]
      intro x hx
      obtain ⟨j, hj, rfl⟩ := List.getElem_of_mem hx
      have := ha (j + 1) (by simp; omega)
      simpa using this
theorem tell_two {P : List Acre.Pt} (h : 0 < P.length) {k : Nat} (hk : k < P.length) (hn : P[k] ≠ P[0]) : Acre.tell P = (2, (0, 0), (0, 0)) := by
  match P, h with
  | p :: r, _ =>
    unfold Acre.tell
    simp only
    rw [if_neg]
    intro hall
    rw [List.all_eq_true] at hall
    apply hn
    cases k with
    | zero => rfl
    | succ k =>
      have hk' : k < r.length := by simpa using hk
      have := hall r[k] (List.getElem_mem hk')
      simpa using this

/-- a slice of points: its form, and its cells -/
theorem row_form {w : World} {base n : Nat} {t : TypeId} {v : Value} {xs : List Value} (h : w.ownsRow base t 2 v n xs) : ∃ ga g cap, v = .slice ga n cap ∧ (0 < n → ga = some ⟨g, 0, none⟩) := by
  rcases h.2 with ⟨rfl, rfl⟩ | ⟨g, cap, cur, rfl, _⟩
  · exact ⟨none, 0, 0, rfl, by simp⟩
  · exact ⟨_, g, cap, rfl, fun _ => rfl⟩
theorem row_cells {w : World} {base g cap : Nat} {t : TypeId} {ps : List Acre.Pt} (h : w.ownsRow base t 2 (.slice (some ⟨g, 0, none⟩) ps.length cap) ps.length (flat ps)) (k : Nat) (hk : k < ps.length) :
    w.cell? ⟨g, k * 2, none⟩ = some (.int .i64 ps[k].1) ∧ w.cell? ⟨g, k * 2 + 1, none⟩ = some (.int .i64 ps[k].2) := by
  obtain ⟨e1, e2⟩ := flat_get ps k hk
  exact ⟨(h.cellAt _ (by omega)).trans e1, (h.cellAt _ (by omega)).trans e2⟩

set_option maxRecDepth 100000 in
set_option maxHeartbeats 4000000 in
theorem rmeet_any (a1 a2 b1 b2 c1 c2 d1 d2 : Int) (w : World) :
    Calls Try.prog 16 #[.agg #[.int .i64 a1, .int .i64 a2, .int .i64 b1, .int .i64 b2], .agg #[.int .i64 c1, .int .i64 c2, .int .i64 d1, .int .i64 d2]] w fun e w' => e = .returned (resV (Acre.meet (a1, a2) (b1, b2) (c1, c2) (d1, d2))) ∧ Below w.heap.size w w' := by
  obtain ⟨i0, hi, hz0, hz1, hz2⟩ := info_parts info51
  have m0 := R9.start w a1 a2 b1 b2 c1 c2 d1 d2 53 53 42 42 42
  have q0 := below5 w (.cells #[.int .i64 a1, .int .i64 a2, .int .i64 b1, .int .i64 b2] 53) (.cells #[.int .i64 c1, .int .i64 c2, .int .i64 d1, .int .i64 d2] 53) (.cells #[.int .i64 0, .int .i64 0] 42) (.cells #[.int .i64 0, .int .i64 0] 42) (.cells #[.int .i64 0, .int .i64 0] 42)
  go_enter Try.func16, Try.ntmps16
  go_wp2_with fail
  refine (grid_any _ _ _).mono ?_
  rintro e w1 ⟨rfl, hb1⟩
  have m1 := m0.later hb1
  have q1 := below_call hb1 q0
  clear m0 q0 hb1
  obtain ⟨⟨lt0, lt1, lt2, lt3, e0, e1, e2, e3, k0, k1, k2, k3, r0, r1, s0, s1, f0, f1, g0, g1⟩, l4, z0, z1⟩ := id m1
  cases hA : Acre.onGrid (a1, a2)
  · have hm : Hid _ := meet_no (a := (a1, a2)) (b := (b1, b2)) (c := (c1, c2)) (d := (d1, d2)) (by simp [hA])
    clear hA
    go_wp2
    go_region
    go_wp2
    refine bodyPost_ret (v := resV (0, (0, 0), (0, 0))) ?_ rfl ⟨?_, ?_⟩
    · simp [results, Try.results16, go_sem, resV, r0, r1, s0, s1]
    · rw [hm.out]
    · exact ((((q1.setCell (by dsimp only; omega) _).setCell (by dsimp only; omega) _).setCell (by dsimp only; omega) _).setCell (by dsimp only; omega) _).drew
  · have HA : Hid _ := hA
    clear hA
    go_wp2_with fail
    refine (grid_any _ _ _).mono ?_
    rintro e w2 ⟨rfl, hb2⟩
    have m2 := m1.later hb2
    have q2 := below_call hb2 q1
    clear m1 q1 hb2 lt0 lt1 lt2 lt3 e0 e1 e2 e3 k0 k1 k2 k3 r0 r1 s0 s1 f0 f1 g0 g1 l4 z0 z1
    obtain ⟨⟨lt0, lt1, lt2, lt3, e0, e1, e2, e3, k0, k1, k2, k3, r0, r1, s0, s1, f0, f1, g0, g1⟩, l4, z0, z1⟩ := id m2
    cases hB : Acre.onGrid (b1, b2)
    · have hm : Hid _ := meet_no (a := (a1, a2)) (b := (b1, b2)) (c := (c1, c2)) (d := (d1, d2)) (by simp [hB])
      clear hB
      go_wp2
      go_region
      go_wp2
      refine bodyPost_ret (v := resV (0, (0, 0), (0, 0))) ?_ rfl ⟨?_, ?_⟩
      · simp [results, Try.results16, go_sem, resV, r0, r1, s0, s1]
      · rw [hm.out]
      · exact ((((q2.setCell (by dsimp only; omega) _).setCell (by dsimp only; omega) _).setCell (by dsimp only; omega) _).setCell (by dsimp only; omega) _).drew
    · have HB : Hid _ := hB
      clear hB
      go_wp2_with fail
      refine (grid_any _ _ _).mono ?_
      rintro e w3 ⟨rfl, hb3⟩
      have m3 := m2.later hb3
      have q3 := below_call hb3 q2
      clear m2 q2 hb3 lt0 lt1 lt2 lt3 e0 e1 e2 e3 k0 k1 k2 k3 r0 r1 s0 s1 f0 f1 g0 g1 l4 z0 z1
      obtain ⟨⟨lt0, lt1, lt2, lt3, e0, e1, e2, e3, k0, k1, k2, k3, r0, r1, s0, s1, f0, f1, g0, g1⟩, l4, z0, z1⟩ := id m3
      cases hC : Acre.onGrid (c1, c2)
      · have hm : Hid _ := meet_no (a := (a1, a2)) (b := (b1, b2)) (c := (c1, c2)) (d := (d1, d2)) (by simp [hC])
        clear hC
        go_wp2
        go_region
        go_wp2
        refine bodyPost_ret (v := resV (0, (0, 0), (0, 0))) ?_ rfl ⟨?_, ?_⟩
        · simp [results, Try.results16, go_sem, resV, r0, r1, s0, s1]
        · rw [hm.out]
        · exact ((((q3.setCell (by dsimp only; omega) _).setCell (by dsimp only; omega) _).setCell (by dsimp only; omega) _).setCell (by dsimp only; omega) _).drew
      · have HC : Hid _ := hC
        clear hC
        go_wp2_with fail
        refine (grid_any _ _ _).mono ?_
        rintro e w4 ⟨rfl, hb4⟩
        have m4 := m3.later hb4
        have q4 := below_call hb4 q3
        clear m3 q3 hb4 lt0 lt1 lt2 lt3 e0 e1 e2 e3 k0 k1 k2 k3 r0 r1 s0 s1 f0 f1 g0 g1 l4 z0 z1
        obtain ⟨⟨lt0, lt1, lt2, lt3, e0, e1, e2, e3, k0, k1, k2, k3, r0, r1, s0, s1, f0, f1, g0, g1⟩, l4, z0, z1⟩ := id m4
        cases hD : Acre.onGrid (d1, d2)
        · have hm : Hid _ := meet_no (a := (a1, a2)) (b := (b1, b2)) (c := (c1, c2)) (d := (d1, d2)) (by simp [hD])
          clear hD
          go_wp2
          go_region
          go_wp2
          refine bodyPost_ret (v := resV (0, (0, 0), (0, 0))) ?_ rfl ⟨?_, ?_⟩
          · simp [results, Try.results16, go_sem, resV, r0, r1, s0, s1]
          · rw [hm.out]
          · exact ((((q4.setCell (by dsimp only; omega) _).setCell (by dsimp only; omega) _).setCell (by dsimp only; omega) _).setCell (by dsimp only; omega) _).drew
        · obtain ⟨h1, h2⟩ := grid_sm HA.out
          obtain ⟨h3, h4⟩ := grid_sm HB.out
          obtain ⟨h5, h6⟩ := grid_sm HC.out
          obtain ⟨h7, h8⟩ := grid_sm hD
          dsimp only at h1 h2 h3 h4 h5 h6 h7 h8
          have HG : Hid ([((a1, a2) : Acre.Pt), (b1, b2), (c1, c2), (d1, d2)].all Acre.onGrid = true) := by
            show _ = true
            simp [HA.out, HB.out, HC.out, hD]
          clear HA HB HC hD
          have t1 := Acre.mul_bd (b1 - a1) (d2 - c2) 26 26 (by omega) (by omega)
          have t2 := Acre.mul_bd (b2 - a2) (d1 - c1) 26 26 (by omega) (by omega)
          by_cases h0 : Acre.turn (a1, a2) (b1, b2) (c1, c2) (d1, d2) = 0
          · have h0' : (b1 - a1) * (d2 - c2) - (b2 - a2) * (d1 - c1) = 0 := h0
            have h0b : ((b1 - a1) * (d2 - c2) - (b2 - a2) * (d1 - c1) != 0) = false := by rw [h0']; rfl
            have hm : Hid _ := meet_along HG.out h0
            clear h0 h0' HG
            go_wp2_with fail
            refine (ends_any _ _ _ _ _ _ _ _ _ h1 h2 h3 h4 h5 h6 h7 h8).mono ?_
            rintro e w5 ⟨v5, rfl, hown5, hb5⟩
            have m5 := m4.later hb5
            have q5 := below_call hb5 q4
            obtain ⟨⟨_, _, _, _, e05, e15, e25, e35, k05, k15, k25, k35, _, _, _, _, _, _, _, _⟩, _, _, _⟩ := id m5
            go_wp2_with fail
            refine (ends_any _ _ _ _ _ _ _ _ _ h5 h6 h7 h8 h1 h2 h3 h4).mono ?_
            rintro e w6 ⟨v6, rfl, hown6, hb6⟩
            have q6 := below_call hb6 q5
            have hlt5 : ∀ b, v5.ownBlock = some b → b < w5.heap.size := fun b hb => (hown5.lt b hb).2
            have hown5' := row_call hown5 hb6
            have hb56 := below_call hb6 hb5
            obtain ⟨ga, gm, capm, rfl, hga⟩ := row_form hown6
            have hgm : 0 < (ends1 (c1, c2) (d1, d2) (a1, a2) (b1, b2)).length → w5.heap.size ≤ gm := fun hl => (hown6.lt gm (by rw [hga hl]; rfl)).1
            obtain ⟨M, hM⟩ : ∃ M, ends1 (c1, c2) (d1, d2) (a1, a2) (b1, b2) = M := ⟨_, rfl⟩
            obtain ⟨L, hL⟩ : ∃ L, ends1 (a1, a2) (b1, b2) (c1, c2) (d1, d2) = L := ⟨_, rfl⟩
            rw [hM] at hown6 hga hgm
            rw [hL] at hown5'
            rw [hM]
            have hML : M.length ≤ 2 := by rw [← hM]; exact List.length_filter_le _ _
            have hLL : L.length ≤ 2 := by rw [← hL]; exact List.length_filter_le _ _
            have hend : Hid (L ++ M = Acre.endsOf (a1, a2) (b1, b2) (c1, c2) (d1, d2)) := by
              show L ++ M = _
              rw [← hM, ← hL]; exact Acre.ends_eq _ _ _ _
            clear hM hL hown5 hb6 hb5 q5 e0 e1 e2 e3 k0 k1 k2 k3 r0 r1 s0 s1 f0 f1 g0 g1 z0 z1 m5
            go_wp2_with fail
            go_loopw [18, 20] (fun l i wr => ∃ k : Nat, i = .int .i64 k ∧ k ≤ M.length ∧ Hid (wr.ownsRow w4.heap.size 51 2 l (L.length + k) (flat (L ++ M.take k)) ∧ wr.ownsRow w5.heap.size 51 2 (.slice ga M.length capm) M.length (flat M) ∧ (0 < M.length → l.ownBlock ≠ some gm) ∧ Below w4.heap.size w4 wr)) (fun _ i _ => M.length - (intOf i).toNat)
            case atStart =>
              exact ⟨0, rfl, Nat.zero_le _, by simpa using hown5', hown6, fun hl e => by have := hlt5 gm e; have := hgm hl; omega, hb56⟩
            case round =>
              obtain ⟨k, rfl, hk, hr⟩ := hrel
              obtain ⟨o1, o2, o3, o4⟩ := hr.out
              by_cases hlt : k < M.length
              · obtain rfl := hga (by omega)
                obtain ⟨x0, x1⟩ := row_cells o2 k hlt
                go_wp2_with (at_builtin; refine wpList_append_own_at _ rfl _ _ 66 rfl w4.heap.size 51 i0 (.agg #[.int .i64 0, .int .i64 0]) 2 16 Try.underlying66 hi hz0 hz1 hz2 rfl (by decide) _ _ _ rfl (o1.alloc _) ⟨wr.heap.size, 0, none⟩ 1 1 [.int .i64 M[k].1, .int .i64 M[k].2] rfl rfl (cell_two_new _ _ _ _) (one2 _ _) (by unfold maxLen; omega) (by omega) ?_ ?_)
                · have := o4.size; omega
                · intro v' w7 hown7 hg7 hnil7 hloc7
                  have gl := o2.lt gm rfl
                  have e7 : flat (L ++ M.take (k + 1)) = flat (L ++ M.take k) ++ [.int .i64 M[k].1, .int .i64 M[k].2] := by
                    rw [List.take_succ_eq_append_getElem hlt, ← List.append_assoc, flat_append]; rfl
                  have n1 : w7.ownsRow w4.heap.size 51 2 v' (L.length + (k + 1)) (flat (L ++ M.take (k + 1))) := by rw [e7]; exact hown7
                  have n2 : w7.ownsRow w5.heap.size 51 2 (.slice (some ⟨gm, 0, none⟩) M.length capm) M.length (flat M) := (o2.alloc _).kept hg7 (Or.inr (fun e => o3 (by omega) e.symm))
                  have n3 : v'.ownBlock ≠ some gm := by
                    rcases hloc7 with e | e
                    · rw [e]; exact o3 (by omega)
                    · rw [e]; intro e'; simp at e'; omega
                  have n4 : Below w4.heap.size w4 w7 := (o4.alloc o4.size _).grown hg7 (by have := o4.size; simp; omega) (fun b hb => (o1.lt b hb).1)
                  clear e7 hown7 hg7 hloc7 hnil7
                  have N : Hid (w7.ownsRow w4.heap.size 51 2 v' (L.length + (k + 1)) (flat (L ++ M.take (k + 1))) ∧ w7.ownsRow w5.heap.size 51 2 (.slice (some ⟨gm, 0, none⟩) M.length capm) M.length (flat M) ∧ (0 < M.length → v'.ownBlock ≠ some gm) ∧ Below w4.heap.size w4 w7) := ⟨n1, n2, fun _ => n3, n4⟩
                  clear n1 n2 n3 n4
                  go_wp2
                  go_roundw
                  case rel => exact ⟨k + 1, by go_num, by omega, N⟩
                  case measure => simp [intOf]; omega
              · obtain rfl : k = M.length := by omega
                rw [List.take_of_length_le (Nat.le_refl _), hend.out] at o1
                have hlen : L.length + M.length = (Acre.endsOf (a1, a2) (b1, b2) (c1, c2) (d1, d2)).length := by rw [← hend.out, List.length_append]
                rw [hlen] at o1
                obtain ⟨P, hP⟩ : ∃ P, Acre.endsOf (a1, a2) (b1, b2) (c1, c2) (d1, d2) = P := ⟨_, rfl⟩
                have hm' := hm.out
                rw [hP] at o1 hm' hlen
                have HM : Hid _ := hm'
                have hPL : P.length ≤ 4 := by omega
                clear hlen hm' hP hend hm hr
                have m7 := m4.later o4
                have q7 := below_call o4 q4
                clear m4 q4
                obtain ⟨⟨_, _, _, _, _, _, _, _, _, _, _, _, r0, r1, s0, s1, f0, f1, g0, g1⟩, _, z0, z1⟩ := id m7
                obtain ⟨gl, g, cap, rfl, hgl⟩ := row_form o1
                by_cases hn0 : P.length = 0
                · have hP0 : P = [] := List.length_eq_zero_iff.1 hn0
                  rw [hn0]
                  go_wp2
                  go_region
                  go_wp2
                  refine bodyPost_ret (v := resV (0, (0, 0), (0, 0))) ?_ rfl ⟨?_, ?_⟩
                  · simp [results, Try.results16, go_sem, resV, r0, r1, s0, s1]
                  · rw [HM.out, hP0]; rfl
                  · exact ((((q7.setCell (by dsimp only; omega) _).setCell (by dsimp only; omega) _).setCell (by dsimp only; omega) _).setCell (by dsimp only; omega) _).drew
                · obtain rfl := hgl (by omega)
                  have hn0' : ((P.length : Int) == 0) = false := beq_eq_false_iff_ne.2 (by omega)
                  obtain ⟨y0, y1⟩ := row_cells o1 0 (by omega)
                  have y0' : wr.cell? ⟨g, 0, none⟩ = some (.int .i64 P[0].1) := by simpa using y0
                  have y1' : wr.cell? ⟨g, 1, none⟩ = some (.int .i64 P[0].2) := by simpa using y1
                  clear y0 y1
                  go_wp2_with fail
                  go_loopw [21] (fun i w2 => ∃ k : Nat, i = .int .i64 k ∧ k ≤ P.length ∧ Hid (∀ j (h : j < P.length), j < k → P[j] = P[0]) ∧ Below wr.heap.size wr w2) (fun i _ => P.length - (intOf i).toNat)
                  case atStart => exact ⟨0, rfl, Nat.zero_le _, fun j _ h => absurd h (by omega), Below.refl _ _⟩
                  case round =>
                    obtain ⟨k, rfl, hk2, ha, hw2⟩ := hrel
                    by_cases hlt2 : k < P.length
                    · obtain ⟨x0, x1⟩ := row_cells o1 k hlt2
                      rename_i w2
                      have x02 := cell_later hw2 x0
                      have x12 := cell_later hw2 x1
                      have y02 := cell_later hw2 y0'
                      have y12 := cell_later hw2 y1'
                      clear x0 x1
                      have hpos : (0 : Int) < (P.length : Int) := by omega
                      have hne := neq51
                      by_cases hq : P[k] = P[0]
                      · have hq1 : (P[k].1 == P[0].1 && P[k].2 == P[0].2) = true := by rw [hq]; simp
                        have Hq : Hid _ := hq
                        clear hq
                        go_wp2_with fail
                        go_quiet (fail)
                        go_wp2_with fail
                        go_roundw
                        case rel =>
                          exact ⟨k + 1, by go_num, by omega, fun j hj hjk => by
                            rcases Nat.lt_succ_iff_lt_or_eq.1 hjk with h | h
                            · exact ha.out j hj h
                            · subst h; exact Hq.out, below_drewN hw2 _⟩
                        case measure => simp [intOf]; omega
                      · have hq1 : (P[k].1 == P[0].1 && P[k].2 == P[0].2) = false := by
                          cases hb : (P[k].1 == P[0].1 && P[k].2 == P[0].2) with
                          | false => rfl
                          | true => simp at hb; exact absurd (Prod.ext hb.1 hb.2) hq
                        have HT : Hid _ := tell_two (by omega) hlt2 hq
                        clear hq
                        have m8 := m7.later hw2
                        have q8 := below_call hw2 q7
                        obtain ⟨⟨_, _, _, _, _, _, _, _, _, _, _, _, r08, r18, s08, s18, f08, f18, g08, g18⟩, _, z08, z18⟩ := id m8
                        go_wp2_with fail
                        go_quiet (fail)
                        go_wp2_with fail
                        go_region
                        go_wp2
                        refine bodyPost_ret (v := resV (2, (0, 0), (0, 0))) ?_ rfl ⟨?_, ?_⟩
                        · simp [results, Try.results16, go_sem, resV, r08, r18, s08, s18]
                        · rw [HM.out, HT.out]
                        · exact ((((below_drewN q8 _).setCell (by dsimp only; omega) _).setCell (by dsimp only; omega) _).setCell (by dsimp only; omega) _).setCell (by dsimp only; omega) _
                    · have HT : Hid _ := tell_all (by omega) (fun j hj => ha.out j hj (by omega))
                      have y02 := cell_later hw2 y0'
                      have y12 := cell_later hw2 y1'
                      have hpos : (0 : Int) < (P.length : Int) := by omega
                      have m8 := m7.later hw2
                      have q8 := below_call hw2 q7
                      obtain ⟨⟨_, _, _, _, _, _, _, _, _, _, _, _, r08, r18, s08, s18, f08, f18, g08, g18⟩, _, _, _⟩ := id m8
                      have lg := (o1.lt g rfl).1
                      go_wp2_with fail
                      go_region
                      go_wp2
                      refine bodyPost_ret (v := resV (1, (P[0].1, 1), (P[0].2, 1))) ?_ rfl ⟨?_, ?_⟩
                      · simp [results, Try.results16, go_sem, resV, r08, r18, s08, s18]
                      · rw [HM.out, HT.out]
                      · exact ((((q8.setCell (by dsimp only; omega) _).setCell (by dsimp only; omega) _).setCell (by dsimp only; omega) _).setCell (by dsimp only; omega) _).drew
          · have h0b : ((b1 - a1) * (d2 - c2) - (b2 - a2) * (d1 - c1) != 0) = true := by rw [bne_iff_ne]; exact h0
            have ht0 : Hid ((b1 - a1) * (d2 - c2) - (b2 - a2) * (d1 - c1) ≠ 0) := h0
            have hm : Hid _ := (meet_across HG.out h0).trans (Acre.across_ref (a1, a2) (b1, b2) (c1, c2) (d1, d2) h0 _ _ rfl rfl)
            clear h0 HG
            have t3 := Acre.mul_bd (c1 - a1) (d2 - c2) 26 26 (by omega) (by omega)
            have t4 := Acre.mul_bd (c2 - a2) (d1 - c1) 26 26 (by omega) (by omega)
            have t5 := Acre.mul_bd a1 ((b1 - a1) * (d2 - c2) - (b2 - a2) * (d1 - c1)) 13 1352 h1 (by omega)
            have t6 := Acre.mul_bd a2 ((b1 - a1) * (d2 - c2) - (b2 - a2) * (d1 - c1)) 13 1352 h2 (by omega)
            have t7 := Acre.mul_bd ((c1 - a1) * (d2 - c2) - (c2 - a2) * (d1 - c1)) (b1 - a1) 1352 26 (by omega) (by omega)
            have t8 := Acre.mul_bd ((c1 - a1) * (d2 - c2) - (c2 - a2) * (d1 - c1)) (b2 - a2) 1352 26 (by omega) (by omega)
            obtain ⟨x, hx⟩ : ∃ x, Acre.low (a1 * ((b1 - a1) * (d2 - c2) - (b2 - a2) * (d1 - c1)) + ((c1 - a1) * (d2 - c2) - (c2 - a2) * (d1 - c1)) * (b1 - a1)) ((b1 - a1) * (d2 - c2) - (b2 - a2) * (d1 - c1)) = x := ⟨_, rfl⟩
            obtain ⟨y, hy⟩ : ∃ y, Acre.low (a2 * ((b1 - a1) * (d2 - c2) - (b2 - a2) * (d1 - c1)) + ((c1 - a1) * (d2 - c2) - (c2 - a2) * (d1 - c1)) * (b2 - a2)) ((b1 - a1) * (d2 - c2) - (b2 - a2) * (d1 - c1)) = y := ⟨_, rfl⟩
            have lx := Acre.low_bd (a1 * ((b1 - a1) * (d2 - c2) - (b2 - a2) * (d1 - c1)) + ((c1 - a1) * (d2 - c2) - (c2 - a2) * (d1 - c1)) * (b1 - a1)) ((b1 - a1) * (d2 - c2) - (b2 - a2) * (d1 - c1))
            have ly := Acre.low_bd (a2 * ((b1 - a1) * (d2 - c2) - (b2 - a2) * (d1 - c1)) + ((c1 - a1) * (d2 - c2) - (c2 - a2) * (d1 - c1)) * (b2 - a2)) ((b1 - a1) * (d2 - c2) - (b2 - a2) * (d1 - c1))
            have px := (Acre.low_spec (a1 * ((b1 - a1) * (d2 - c2) - (b2 - a2) * (d1 - c1)) + ((c1 - a1) * (d2 - c2) - (c2 - a2) * (d1 - c1)) * (b1 - a1)) ((b1 - a1) * (d2 - c2) - (b2 - a2) * (d1 - c1)) ht0.out).1
            have py := (Acre.low_spec (a2 * ((b1 - a1) * (d2 - c2) - (b2 - a2) * (d1 - c1)) + ((c1 - a1) * (d2 - c2) - (c2 - a2) * (d1 - c1)) * (b2 - a2)) ((b1 - a1) * (d2 - c2) - (b2 - a2) * (d1 - c1)) ht0.out).1
            rw [hx] at lx px
            rw [hy] at ly py
            have fx : Fr x.1 x.2 := by constructor <;> omega
            have fy : Fr y.1 y.2 := by constructor <;> omega
            clear lx ly
            have HX : Hid _ := hx
            have HY : Hid _ := hy
            clear hx hy
            go_wp2_with fail
            refine (of_any _ _ _ (by omega) (by omega) ht0.out).mono ?_
            rintro e w5 ⟨rfl, hb5⟩
            rw [HX.out]
            have m5 := m4.later hb5
            have q5 := below_call hb5 q4
            obtain ⟨⟨_, _, _, _, e05, e15, e25, e35, k05, k15, k25, k35, _, _, _, _, _, _, _, _⟩, _, _, _⟩ := id m5
            go_wp2_with fail
            refine (of_any _ _ _ (by omega) (by omega) ht0.out).mono ?_
            rintro e w6 ⟨rfl, hb6⟩
            rw [HY.out]
            have m6 := (m5.later (below1 _ _)).later hb6
            have q6 := below_call hb6 (below_call (below1 _ _) q5)
            have X06 := cell_later hb6 (a := ⟨w5.heap.size, 0, none⟩) (v := .int .i64 x.1) (by simp [go_sem])
            have X16 := cell_later hb6 (a := ⟨w5.heap.size, 1, none⟩) (v := .int .i64 x.2) (by simp [go_sem])
            have xl : w5.heap.size < w6.heap.size := World.block_lt_of_cell? _ _ X06
            clear e05 e15 e25 e35 k05 k15 k25 k35 e0 e1 e2 e3 k0 k1 k2 k3 r0 r1 s0 s1 f0 f1 g0 g1 z0 z1
            obtain ⟨⟨_, _, _, _, e06, e16, e26, e36, k06, k16, k26, k36, _, _, _, _, _, _, _, _⟩, _, _, _⟩ := id m6
            go_wp2_with fail
            refine (ron_any _ _ _ _ _ _ _ _ _ h1 h2 h3 h4 fx fy (by omega) (by omega)).mono ?_
            rintro e w7 ⟨rfl, hb7⟩
            have m7 := (m6.later (below1 _ _)).later hb7
            have q7 := below_call hb7 (below_call (below1 _ _) q6)
            have X07 := cell_later (below_call hb7 (below1 _ _)) X06
            have X17 := cell_later (below_call hb7 (below1 _ _)) X16
            have Y07 := cell_later hb7 (a := ⟨w6.heap.size, 0, none⟩) (v := .int .i64 y.1) (by simp [go_sem])
            have Y17 := cell_later hb7 (a := ⟨w6.heap.size, 1, none⟩) (v := .int .i64 y.2) (by simp [go_sem])
            clear e06 e16 e26 e36 k06 k16 k26 k36 X06 X16
            obtain ⟨⟨_, _, _, _, _, _, _, _, k07, k17, k27, k37, _, _, _, _, _, _, _, _⟩, _, _, _⟩ := id m7
            go_wp2_with fail
            refine (ron_any _ _ _ _ _ _ _ _ _ h5 h6 h7 h8 fx fy (by omega) (by omega)).mono ?_
            rintro e w8 ⟨rfl, hb8⟩
            have m8 := m7.later hb8
            have q8 := below_call hb8 q7
            have X08 := cell_later hb8 X07
            have X18 := cell_later hb8 X17
            have Y08 := cell_later hb8 Y07
            have Y18 := cell_later hb8 Y17
            clear k07 k17 k27 k37 X07 X17 Y07 Y17
            have hm' := hm.out
            unfold Acre.turn Acre.crossX Acre.crossY Acre.share at hm'
            dsimp only at hm'
            rw [HX.out, HY.out] at hm'
            have HM : Hid _ := hm'
            clear hm' hm
            obtain ⟨⟨_, _, _, _, _, _, _, _, _, _, _, _, r08, r18, s08, s18, f08, f18, g08, g18⟩, _, z08, z18⟩ := id m8
            cases hE : Acre.onE a1 a2 b1 b2 x.1 x.2 y.1 y.2
            · have HE : Hid _ := hE
              clear hE
              go_wp2
              go_region
              go_wp2
              refine bodyPost_ret (v := resV (0, (0, 0), (0, 0))) ?_ rfl ⟨?_, ?_⟩
              · simp [results, Try.results16, go_sem, resV, r08, r18, s08, s18]
              · rw [HM.out, HE.out]; rfl
              · exact ((((q8.setCell (by dsimp only; omega) _).setCell (by dsimp only; omega) _).setCell (by dsimp only; omega) _).setCell (by dsimp only; omega) _).drew
            · have HE : Hid _ := hE
              clear hE
              cases hF : Acre.onE c1 c2 d1 d2 x.1 x.2 y.1 y.2
              · have HF : Hid _ := hF
                clear hF
                go_wp2
                go_region
                go_wp2
                refine bodyPost_ret (v := resV (0, (0, 0), (0, 0))) ?_ rfl ⟨?_, ?_⟩
                · simp [results, Try.results16, go_sem, resV, r08, r18, s08, s18]
                · rw [HM.out, HE.out, HF.out]; rfl
                · exact ((((q8.setCell (by dsimp only; omega) _).setCell (by dsimp only; omega) _).setCell (by dsimp only; omega) _).setCell (by dsimp only; omega) _).drew
              · have HF : Hid _ := hF
                clear hF
                go_wp2
                go_region
                go_wp2
                refine bodyPost_ret (v := resV (1, x, y)) ?_ rfl ⟨?_, ?_⟩
                · simp [results, Try.results16, go_sem, resV, r08, r18, s08, s18]
                · rw [HM.out, HE.out, HF.out]; rfl
                · exact ((((q8.setCell (by dsimp only; omega) _).setCell (by dsimp only; omega) _).setCell (by dsimp only; omega) _).setCell (by dsimp only; omega) _).drew

end Go.Proofs.Ytkjlkbgdkdcboaa
