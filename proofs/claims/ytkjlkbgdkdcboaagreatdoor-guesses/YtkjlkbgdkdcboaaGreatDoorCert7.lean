import Derived.Test.YtkjlkbgdkdcboaaGreatDoorC6
import Derived.BigRegion

set_option linter.unusedSimpArgs false
set_option linter.unusedVariables false

set_option linter.unusedSimpArgs false
set_option linter.unusedVariables false
namespace Go.Proofs.YtkjlkbgdkdcboaaGreatDoor
open Go.RowKit Go.Maps
attribute [local go_sem ↓] Go.wp_at_zero Go.wp_at_succ
set_option maxRecDepth 100000 in
set_option maxHeartbeats 8000000 in
theorem piece_any (E : List Acre.Ed) (u : Value) (base : Nat) (d : Dr) (w : World) (hE : w.ownsRow base 42 4 u E.length (flatE E)) (hEl : E.length ≤ 24) (h1 : 0 ≤ d.lo) (h2 : 0 ≤ d.hi) :
    Calls Tryz.prog 89 #[drV d, u] w fun e w' => PcPost E d w e w' := by
  have hmf : ∀ (fn : Fn) (first cap : Array Value) (w : World), (Instr.makeFunc fn first cap).run Tryz.prog w = .ok (.func fn first cap) w := fun _ _ _ _ => rfl
  obtain ⟨ga, gb, gcap, rfl, hga, hcap⟩ := row_form hE
  obtain ⟨⟨f1, f2⟩, ⟨t1, t2⟩, lo, hi, y1, y2, y3, y4⟩ := d
  obtain ⟨R, hR⟩ : ∃ R, pieceC E ⟨(f1, f2), (t1, t2), lo, hi, y1, y2, y3, y4⟩ = R := ⟨_, rfl⟩
  have HR := hide hR
  clear hR
  have hP : PIS w (((w.alloc (.cells #[.int .i64 f1, .int .i64 f2, .int .i64 t1, .int .i64 t2, .int .i64 lo, .int .i64 hi, .int .i64 y1, .int .i64 y2, .int .i64 y3, .int .i64 y4] 190)).alloc (.cells #[.slice ga E.length gcap] 46)).alloc (.cells #[.int .i64 0, .int .i64 0, .int .i64 0, .int .i64 0, .int .i64 0, .int .i64 0, .int .i64 0, .int .i64 0, .int .i64 0, .int .i64 0, .int .i64 0, .int .i64 0] 44)) [.int .i64 f1, .int .i64 f2, .int .i64 t1, .int .i64 t2, .int .i64 lo, .int .i64 hi, .int .i64 y1, .int .i64 y2, .int .i64 y3, .int .i64 y4] (.slice ga E.length gcap) [.int .i64 0, .int .i64 0, .int .i64 0, .int .i64 0, .int .i64 0, .int .i64 0, .int .i64 0, .int .i64 0, .int .i64 0, .int .i64 0, .int .i64 0, .int .i64 0] := by
    refine ⟨((Box.new w [.int .i64 f1, .int .i64 f2, .int .i64 t1, .int .i64 t2, .int .i64 lo, .int .i64 hi, .int .i64 y1, .int .i64 y2, .int .i64 y3, .int .i64 y4] 190).later (by simp) (below1 _ _)).later (by simp) (below1 _ _), ?_, ?_, below3 _ _ _ _⟩
    · have := (Box.new (w.alloc (.cells #[.int .i64 f1, .int .i64 f2, .int .i64 t1, .int .i64 t2, .int .i64 lo, .int .i64 hi, .int .i64 y1, .int .i64 y2, .int .i64 y3, .int .i64 y4] 190)) [.slice ga E.length gcap] 46).later (by simp) (below1 _ (.cells #[.int .i64 0, .int .i64 0, .int .i64 0, .int .i64 0, .int .i64 0, .int .i64 0, .int .i64 0, .int .i64 0, .int .i64 0, .int .i64 0, .int .i64 0, .int .i64 0] 44))
      simpa using this
    · have := Box.new ((w.alloc (.cells #[.int .i64 f1, .int .i64 f2, .int .i64 t1, .int .i64 t2, .int .i64 lo, .int .i64 hi, .int .i64 y1, .int .i64 y2, .int .i64 y3, .int .i64 y4] 190)).alloc (.cells #[.slice ga E.length gcap] 46)) [.int .i64 0, .int .i64 0, .int .i64 0, .int .i64 0, .int .i64 0, .int .i64 0, .int .i64 0, .int .i64 0, .int .i64 0, .int .i64 0, .int .i64 0, .int .i64 0] 44
      simpa using this
  unfold drV drL
  dsimp only at h1 h2 ⊢
  go_enter Tryz.func89, Tryz.ntmps89
  go_wp2_with fail
  generalize ((w.alloc (.cells #[.int .i64 f1, .int .i64 f2, .int .i64 t1, .int .i64 t2, .int .i64 lo, .int .i64 hi, .int .i64 y1, .int .i64 y2, .int .i64 y3, .int .i64 y4] 190)).alloc (.cells #[.slice ga E.length gcap] 46)).alloc (.cells #[.int .i64 0, .int .i64 0, .int .i64 0, .int .i64 0, .int .i64 0, .int .i64 0, .int .i64 0, .int .i64 0, .int .i64 0, .int .i64 0, .int .i64 0, .int .i64 0] 44) = V0 at *
  cases q1 : within (f1, f2)
  · have hno : pieceC E ⟨(f1, f2), (t1, t2), lo, hi, y1, y2, y3, y4⟩ = none := by unfold pieceC; rw [if_neg (by simp [q1])]
    have hP' := hP.drew (by simp) (by simp)
    have c0 := hP.bd.c 0 _ rfl
    have c1 := hP.bd.c 1 _ rfl
    have c6 := hP.bd.c 6 _ rfl
    have Hno := hide hno
    clear hno HR
    go_region_with (first
      | (go_at_call 134; refine (isWithin_any _ _ _).mono ?_; rintro e w1 ⟨rfl, hb1⟩; rw [q1]; have hQ := hP'.later (by simp) (by simp) hb1; have k6 := hQ.bd.c 6 _ rfl)
      | (go_at_call 88; refine (need_no _ _).mono ?_; rintro e w2 ⟨rfl, rfl⟩; refine thrown (show _ ∧ PcPost _ _ _ _ _ from ⟨rfl, PcPost.no hQ.bel Hno.out ⟨_, rfl⟩⟩) w ?_)
      | go_in)
    all_goals exact trivial
  have c0 := hP.bd.c 0 _ rfl
  have c1 := hP.bd.c 1 _ rfl
  have c6 := hP.bd.c 6 _ rfl
  have hP' := hP.drew (by simp) (by simp)
  go_region_held3 (fun W => W.cell? ⟨w.heap.size, 0, none⟩ = some (.int .i64 f1) ∧ W.cell? ⟨w.heap.size, 1, none⟩ = some (.int .i64 f2) ∧ W.cell? ⟨w.heap.size, 6, none⟩ = some (.int .i64 y1) ∧ Hid (PIS w W [.int .i64 f1, .int .i64 f2, .int .i64 t1, .int .i64 t2, .int .i64 lo, .int .i64 hi, .int .i64 y1, .int .i64 y2, .int .i64 y3, .int .i64 y4] (.slice ga E.length gcap) [.int .i64 0, .int .i64 0, .int .i64 0, .int .i64 0, .int .i64 0, .int .i64 0, .int .i64 0, .int .i64 0, .int .i64 0, .int .i64 0, .int .i64 0, .int .i64 0]))
    ((first
      | exact ⟨c0, c1, c6, hide hP'⟩
      | exact ⟨hQ.out.bd.c 0 _ rfl, hQ.out.bd.c 1 _ rfl, hQ.out.bd.c 6 _ rfl, hQ⟩))
    (first
      | (go_at_call 134; refine (isWithin_any _ _ _).mono ?_; rintro e w1 ⟨rfl, hb1⟩; rw [q1]; have hQ := hide (hP'.later (by simp) (by simp) hb1))
      | (go_at_call 88; refine (need_yes _ _).mono ?_; rintro e V1 ⟨rfl, rfl⟩))
  have hP1 := hQ.out
  clear hQ hP' hb1 hP c0 c1 c6
  go_wp2_with fail
  cases q2 : within (t1, t2)
  · have hno : pieceC E ⟨(f1, f2), (t1, t2), lo, hi, y1, y2, y3, y4⟩ = none := by unfold pieceC; rw [if_neg (by simp [q2])]
    have hP' := hP1.drew (by simp) (by simp)
    have c2 := hP1.bd.c 2 _ rfl
    have c3 := hP1.bd.c 3 _ rfl
    have c7 := hP1.bd.c 7 _ rfl
    have Hno := hide hno
    clear hno HR
    go_region_with (first
      | (go_at_call 134; refine (isWithin_any _ _ _).mono ?_; rintro e w1 ⟨rfl, hb1⟩; rw [q2]; have hQ := hP'.later (by simp) (by simp) hb1; have k7 := hQ.bd.c 7 _ rfl)
      | (go_at_call 88; refine (need_no _ _).mono ?_; rintro e w2 ⟨rfl, rfl⟩; refine thrown (show _ ∧ PcPost _ _ _ _ _ from ⟨rfl, PcPost.no hQ.bel Hno.out ⟨_, rfl⟩⟩) w ?_)
      | go_in)
    all_goals exact trivial
  have c2 := hP1.bd.c 2 _ rfl
  have c3 := hP1.bd.c 3 _ rfl
  have c7 := hP1.bd.c 7 _ rfl
  have hP' := hP1.drew (by simp) (by simp)
  go_region_held3 (fun W => W.cell? ⟨w.heap.size, 2, none⟩ = some (.int .i64 t1) ∧ W.cell? ⟨w.heap.size, 3, none⟩ = some (.int .i64 t2) ∧ W.cell? ⟨w.heap.size, 7, none⟩ = some (.int .i64 y2) ∧ Hid (PIS w W [.int .i64 f1, .int .i64 f2, .int .i64 t1, .int .i64 t2, .int .i64 lo, .int .i64 hi, .int .i64 y1, .int .i64 y2, .int .i64 y3, .int .i64 y4] (.slice ga E.length gcap) [.int .i64 0, .int .i64 0, .int .i64 0, .int .i64 0, .int .i64 0, .int .i64 0, .int .i64 0, .int .i64 0, .int .i64 0, .int .i64 0, .int .i64 0, .int .i64 0]))
    ((first
      | exact ⟨c2, c3, c7, hide hP'⟩
      | exact ⟨hQ.out.bd.c 2 _ rfl, hQ.out.bd.c 3 _ rfl, hQ.out.bd.c 7 _ rfl, hQ⟩))
    (first
      | (go_at_call 134; refine (isWithin_any _ _ _).mono ?_; rintro e w1 ⟨rfl, hb1⟩; rw [q2]; have hQ := hide (hP'.later (by simp) (by simp) hb1))
      | (go_at_call 88; refine (need_yes _ _).mono ?_; rintro e V2 ⟨rfl, rfl⟩))
  have hP2 := hQ.out
  clear hQ hP' hb1 hP1 c2 c3 c7
  go_wp2_with fail
  have hs1 := within_sm q1
  have hs2 := within_sm q2
  obtain ⟨O, hO⟩ : ∃ O, Acre.ordF (f1, f2) (t1, t2) = O := ⟨_, rfl⟩
  have HO := hide hO
  clear hO
  by_cases q3 : O < 0
  rotate_left
  · have hno : pieceC E ⟨(f1, f2), (t1, t2), lo, hi, y1, y2, y3, y4⟩ = none := by unfold pieceC; rw [if_neg (by rw [HO.out]; simp [q3])]
    have q3d : decide (O < 0) = false := decide_eq_false q3
    have hP' := hP2.drew (by simp) (by simp)
    have c0 := hP2.bd.c 0 _ rfl
    have c1 := hP2.bd.c 1 _ rfl
    have c2 := hP2.bd.c 2 _ rfl
    have c3 := hP2.bd.c 3 _ rfl
    have c6 := hP2.bd.c 6 _ rfl
    have Hno := hide hno
    clear hno HR
    go_region_with (first
      | (go_at_call 107; refine (order_any (f1, f2) (t1, t2) _ hs1 hs2).mono ?_; rintro e w1 ⟨rfl, hb1⟩; rw [HO.out]; have hQ := hP'.later (by simp) (by simp) hb1; have k6 := hQ.bd.c 6 _ rfl)
      | (go_at_call 88; refine (need_no _ _).mono ?_; rintro e w2 ⟨rfl, rfl⟩; refine thrown (show _ ∧ PcPost _ _ _ _ _ from ⟨rfl, PcPost.no hQ.bel Hno.out ⟨_, rfl⟩⟩) w ?_)
      | go_in)
    all_goals exact trivial
  have c0 := hP2.bd.c 0 _ rfl
  have c1 := hP2.bd.c 1 _ rfl
  have c2 := hP2.bd.c 2 _ rfl
  have c3 := hP2.bd.c 3 _ rfl
  have c6 := hP2.bd.c 6 _ rfl
  have hP' := hP2.drew (by simp) (by simp)
  go_region_held3 (fun W => W.cell? ⟨w.heap.size, 0, none⟩ = some (.int .i64 f1) ∧ W.cell? ⟨w.heap.size, 1, none⟩ = some (.int .i64 f2) ∧ W.cell? ⟨w.heap.size, 2, none⟩ = some (.int .i64 t1) ∧ W.cell? ⟨w.heap.size, 3, none⟩ = some (.int .i64 t2) ∧ W.cell? ⟨w.heap.size, 6, none⟩ = some (.int .i64 y1) ∧ Hid (PIS w W [.int .i64 f1, .int .i64 f2, .int .i64 t1, .int .i64 t2, .int .i64 lo, .int .i64 hi, .int .i64 y1, .int .i64 y2, .int .i64 y3, .int .i64 y4] (.slice ga E.length gcap) [.int .i64 0, .int .i64 0, .int .i64 0, .int .i64 0, .int .i64 0, .int .i64 0, .int .i64 0, .int .i64 0, .int .i64 0, .int .i64 0, .int .i64 0, .int .i64 0]))
    ((first
      | exact ⟨c0, c1, c2, c3, c6, hide hP'⟩
      | exact ⟨hQ.out.bd.c 0 _ rfl, hQ.out.bd.c 1 _ rfl, hQ.out.bd.c 2 _ rfl, hQ.out.bd.c 3 _ rfl, hQ.out.bd.c 6 _ rfl, hQ⟩))
    (first
      | (go_at_call 107; refine (order_any (f1, f2) (t1, t2) _ hs1 hs2).mono ?_; rintro e w1 ⟨rfl, hb1⟩; rw [HO.out]; have hQ := hide (hP'.later (by simp) (by simp) hb1))
      | (go_at_call 88; refine (need_yes _ _).mono ?_; rintro e V3 ⟨rfl, rfl⟩))
  have hP3 := hQ.out
  clear hQ hP' hb1 hP2 c0 c1 c2 c3 c6
  go_wp2_with fail
  cases q4 : isL E lo
  · have hno : pieceC E ⟨(f1, f2), (t1, t2), lo, hi, y1, y2, y3, y4⟩ = none := by unfold pieceC; rw [if_neg (by simp [q4])]
    have hP' := hP3.drew (by simp) (by simp)
    have c4 := hP3.bd.c 4 _ rfl
    have c8 := hP3.bd.c 8 _ rfl
    have Hno := hide hno
    clear hno HR
    go_region_with (first
      | (go_at_call 132; refine (isLine_any E _ base (w.heap.size + 1) lo _ (row_call hE hP'.bel) (hP'.be.c 0 _ rfl) h1 hEl).mono ?_; rintro e w1 ⟨rfl, hb1⟩; rw [q4]; have hQ := hP'.later (by simp) (by simp) hb1; have k8 := hQ.bd.c 8 _ rfl)
      | (go_at_call 88; refine (need_no _ _).mono ?_; rintro e w2 ⟨rfl, rfl⟩; refine thrown (show _ ∧ PcPost _ _ _ _ _ from ⟨rfl, PcPost.no hQ.bel Hno.out ⟨_, rfl⟩⟩) w ?_)
      | go_in)
    all_goals exact trivial
  have c4 := hP3.bd.c 4 _ rfl
  have c8 := hP3.bd.c 8 _ rfl
  have hP' := hP3.drew (by simp) (by simp)
  go_region_held3 (fun W => W.cell? ⟨w.heap.size, 4, none⟩ = some (.int .i64 lo) ∧ W.cell? ⟨w.heap.size, 8, none⟩ = some (.int .i64 y3) ∧ Hid (PIS w W [.int .i64 f1, .int .i64 f2, .int .i64 t1, .int .i64 t2, .int .i64 lo, .int .i64 hi, .int .i64 y1, .int .i64 y2, .int .i64 y3, .int .i64 y4] (.slice ga E.length gcap) [.int .i64 0, .int .i64 0, .int .i64 0, .int .i64 0, .int .i64 0, .int .i64 0, .int .i64 0, .int .i64 0, .int .i64 0, .int .i64 0, .int .i64 0, .int .i64 0]))
    ((first
      | exact ⟨c4, c8, hide hP'⟩
      | exact ⟨hQ.out.bd.c 4 _ rfl, hQ.out.bd.c 8 _ rfl, hQ⟩))
    (first
      | (go_at_call 132; refine (isLine_any E _ base (w.heap.size + 1) lo _ (row_call hE hP'.bel) (hP'.be.c 0 _ rfl) h1 hEl).mono ?_; rintro e w1 ⟨rfl, hb1⟩; rw [q4]; have hQ := hide (hP'.later (by simp) (by simp) hb1))
      | (go_at_call 88; refine (need_yes _ _).mono ?_; rintro e V4 ⟨rfl, rfl⟩))
  have hP4 := hQ.out
  clear hQ hP' hb1 hP3 c4 c8
  go_wp2_with fail
  cases q5 : isL E hi
  · have hno : pieceC E ⟨(f1, f2), (t1, t2), lo, hi, y1, y2, y3, y4⟩ = none := by unfold pieceC; rw [if_neg (by simp [q5])]
    have hP' := hP4.drew (by simp) (by simp)
    have c5 := hP4.bd.c 5 _ rfl
    have c9 := hP4.bd.c 9 _ rfl
    have Hno := hide hno
    clear hno HR
    go_region_with (first
      | (go_at_call 132; refine (isLine_any E _ base (w.heap.size + 1) hi _ (row_call hE hP'.bel) (hP'.be.c 0 _ rfl) h2 hEl).mono ?_; rintro e w1 ⟨rfl, hb1⟩; rw [q5]; have hQ := hP'.later (by simp) (by simp) hb1; have k9 := hQ.bd.c 9 _ rfl)
      | (go_at_call 88; refine (need_no _ _).mono ?_; rintro e w2 ⟨rfl, rfl⟩; refine thrown (show _ ∧ PcPost _ _ _ _ _ from ⟨rfl, PcPost.no hQ.bel Hno.out ⟨_, rfl⟩⟩) w ?_)
      | go_in)
    all_goals exact trivial
  have c5 := hP4.bd.c 5 _ rfl
  have c9 := hP4.bd.c 9 _ rfl
  have hP' := hP4.drew (by simp) (by simp)
  go_region_held3 (fun W => W.cell? ⟨w.heap.size, 5, none⟩ = some (.int .i64 hi) ∧ W.cell? ⟨w.heap.size, 9, none⟩ = some (.int .i64 y4) ∧ Hid (PIS w W [.int .i64 f1, .int .i64 f2, .int .i64 t1, .int .i64 t2, .int .i64 lo, .int .i64 hi, .int .i64 y1, .int .i64 y2, .int .i64 y3, .int .i64 y4] (.slice ga E.length gcap) [.int .i64 0, .int .i64 0, .int .i64 0, .int .i64 0, .int .i64 0, .int .i64 0, .int .i64 0, .int .i64 0, .int .i64 0, .int .i64 0, .int .i64 0, .int .i64 0]))
    ((first
      | exact ⟨c5, c9, hide hP'⟩
      | exact ⟨hQ.out.bd.c 5 _ rfl, hQ.out.bd.c 9 _ rfl, hQ⟩))
    (first
      | (go_at_call 132; refine (isLine_any E _ base (w.heap.size + 1) hi _ (row_call hE hP'.bel) (hP'.be.c 0 _ rfl) h2 hEl).mono ?_; rintro e w1 ⟨rfl, hb1⟩; rw [q5]; have hQ := hide (hP'.later (by simp) (by simp) hb1))
      | (go_at_call 88; refine (need_yes _ _).mono ?_; rintro e V5 ⟨rfl, rfl⟩))
  have hP5 := hQ.out
  clear hQ hP' hb1 hP4 c5 c9
  go_wp2_with fail
  have hlo : lo < E.length := by unfold isL at q4; simp at q4; exact q4.1
  have hhi : hi < E.length := by unfold isL at q5; simp at q5; exact q5.1
  obtain ⟨k, rfl⟩ : ∃ k : Nat, lo = k := ⟨lo.toNat, by omega⟩
  obtain ⟨j, rfl⟩ : ∃ j : Nat, hi = j := ⟨hi.toNat, by omega⟩
  have hk : k < E.length := by omega
  have hj : j < E.length := by omega
  obtain rfl := hga (by omega)
  have hE5 := row_call hE hP5.bel
  obtain ⟨x0, x1, x2, x3⟩ := rowE_cells hE5 k hk
  obtain ⟨z0, z1, z2, z3⟩ := rowE_cells hE5 j hj
  have hgb := (hE.lt gb rfl).2
  have hRs : R = some (((f1, f2), (t1, t2)), (E[k], E[j])) := by
    rw [← HR.out]
    unfold pieceC
    rw [if_pos ⟨q1, q2, by show Acre.ordF (f1, f2) (t1, t2) < 0; rw [HO.out]; exact q3, q4, q5⟩]
    simp [Acre.gd, hk, hj]
  have HS := hide (HR.out.trans hRs)
  obtain ⟨⟨⟨a0, a1⟩, ⟨a2, a3⟩⟩, hEk⟩ : ∃ e, E[k] = e := ⟨_, rfl⟩
  obtain ⟨⟨⟨b0, b1⟩, ⟨b2, b3⟩⟩, hEj⟩ : ∃ e, E[j] = e := ⟨_, rfl⟩
  rw [hEk, hEj] at HS
  rw [hEk] at x0 x1 x2 x3
  rw [hEj] at z0 z1 z2 z3
  dsimp only at x0 x1 x2 x3 z0 z1 z2 z3
  have hk2 : (k : Int) < (E.length : Int) := by omega
  have hj2 : (j : Int) < (E.length : Int) := by omega
  have c0 := hP5.bd.c 0 _ rfl
  have c1 := hP5.bd.c 1 _ rfl
  have c2 := hP5.bd.c 2 _ rfl
  have c3 := hP5.bd.c 3 _ rfl
  have c4 := hP5.bd.c 4 _ rfl
  have c5 := hP5.bd.c 5 _ rfl
  have d0 := hP5.be.c 0 _ rfl
  have r0 := hP5.bz.c 0 _ rfl
  have y0f := hP5.bz.f 0 (by simp)
  have r1 := hP5.bz.c 1 _ rfl
  have y1f := hP5.bz.f 1 (by simp)
  have r2 := hP5.bz.c 2 _ rfl
  have y2f := hP5.bz.f 2 (by simp)
  have r3 := hP5.bz.c 3 _ rfl
  have y3f := hP5.bz.f 3 (by simp)
  have r4 := hP5.bz.c 4 _ rfl
  have y4f := hP5.bz.f 4 (by simp)
  have r5 := hP5.bz.c 5 _ rfl
  have y5f := hP5.bz.f 5 (by simp)
  have r6 := hP5.bz.c 6 _ rfl
  have y6f := hP5.bz.f 6 (by simp)
  have r7 := hP5.bz.c 7 _ rfl
  have y7f := hP5.bz.f 7 (by simp)
  have r8 := hP5.bz.c 8 _ rfl
  have y8f := hP5.bz.f 8 (by simp)
  have r9 := hP5.bz.c 9 _ rfl
  have y9f := hP5.bz.f 9 (by simp)
  have r10 := hP5.bz.c 10 _ rfl
  have y10f := hP5.bz.f 10 (by simp)
  have r11 := hP5.bz.c 11 _ rfl
  have y11f := hP5.bz.f 11 (by simp)
  have hbel := hP5.bel
  clear HR hRs hEk hEj q1 q2 q3 q4 q5 hs1 hs2 HO hga hE hE5 hP5
  have hst : ∀ (V : World) (o : Nat) (v : Value), Below w.heap.size w V → Below w.heap.size w (V.setCell ⟨w.heap.size + 1 + 1, o, none⟩ v) := fun V o v hV => hV.setCell (p := ⟨w.heap.size + 1 + 1, o, none⟩) (by show w.heap.size ≤ w.heap.size + 1 + 1; omega) v
  have hfin := hide (Below.drew (hst _ 11 (.int .i64 b3) (hst _ 10 (.int .i64 b2) (hst _ 9 (.int .i64 b1) (hst _ 8 (.int .i64 b0) (hst _ 7 (.int .i64 a3) (hst _ 6 (.int .i64 a2) (hst _ 5 (.int .i64 a1) (hst _ 4 (.int .i64 a0) (hst _ 3 (.int .i64 t2) (hst _ 2 (.int .i64 t1) (hst _ 1 (.int .i64 f2) (hst _ 0 (.int .i64 f1) (hbel))))))))))))))
  clear hst hbel
  go_region
  go_wp2
  refine bodyPost_ret (v := pcV (((f1, f2), (t1, t2)), (((a0, a1), (a2, a3)), ((b0, b1), (b2, b3))))) ?_ rfl ?_
  · simp [results, Tryz.results89, go_sem, pcV, pcL, frL, edL, r0, r1, r2, r3, r4, r5, r6, r7, r8, r9, r10, r11]
  · exact ⟨hfin.out, .inr ⟨_, HS.out, rfl⟩⟩
end Go.Proofs.YtkjlkbgdkdcboaaGreatDoor
