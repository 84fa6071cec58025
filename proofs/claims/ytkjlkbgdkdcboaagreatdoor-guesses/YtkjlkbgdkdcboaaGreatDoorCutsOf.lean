import Derived.Test.YtkjlkbgdkdcboaaGreatDoorKsA
import Derived.Test.YtkjlkbgdkdcboaaGreatDoorSoA
import Derived.Test.YtkjlkbgdkdcboaaGreatDoorMB
import Derived.Test.YtkjlkbgdkdcboaaGreatDoorMC
import Derived.Test.YtkjlkbgdkdcboaaGreatDoorPE

set_option linter.unusedSimpArgs false
set_option linter.unusedVariables false

set_option linter.unusedSimpArgs false
set_option linter.unusedVariables false
namespace Go.Proofs.YtkjlkbgdkdcboaaGreatDoor
open Go.RowKit Go.Maps
attribute [local go_sem ↓] Go.wp_at_zero Go.wp_at_succ
theorem row_form {w : World} {base n size : Nat} {t : TypeId} {v : Value} {xs : List Value} (h : w.ownsRow base t size v n xs) : ∃ ga g cap, v = .slice ga n cap ∧ (0 < n → ga = some ⟨g, 0, none⟩) ∧ n ≤ cap := by
  rcases h.2 with ⟨rfl, rfl⟩ | ⟨g, cap, cur, rfl, _, _, h1, _⟩
  · exact ⟨none, 0, 0, rfl, by simp, Nat.le_refl _⟩
  · exact ⟨_, g, cap, rfl, fun _ => rfl, h1⟩
theorem rowF_cells {w : World} {base g cap : Nat} {t : TypeId} {ps : List Acre.Fc} (h : w.ownsRow base t 2 (.slice (some ⟨g, 0, none⟩) ps.length cap) ps.length (ps.flatMap frL)) (k : Nat) (hk : k < ps.length) :
    w.cell? ⟨g, k * 2, none⟩ = some (.int .i64 ps[k].1) ∧ w.cell? ⟨g, k * 2 + 1, none⟩ = some (.int .i64 ps[k].2) :=
  ⟨row_at (f := frL) (m := 2) (fun _ => rfl) h k 0 hk (by omega), row_at (f := frL) (m := 2) (fun _ => rfl) h k 1 hk (by omega)⟩
def setM (l : List Acre.Fc) : Acre.Fc → Option Value := fun x => if x ∈ l then some (.agg #[]) else none
theorem setM_snoc (l : List Acre.Fc) (x : Acre.Fc) : upd (setM l) x (.agg #[]) = setM (l ++ [x]) := by
  funext y
  unfold upd setM
  by_cases e : y = x <;> simp [e]
theorem setM_nil : setM [] = fun _ => none := by funext y; simp [setM]
theorem box_map {w : World} {b n : Nat} {l : List Value} {kt : TypeId} {D : DataW Value} (h : Box w b l) (hl : 0 < l.length) (hm : w.ownsMap Tryz.prog kt Raw b n D) : False := by
  obtain ⟨es, clock, hb, _⟩ := hm
  have := h.c 0 l[0] (by simp)
  simp [World.cell?, hb] at this
theorem mv_size {κ : Type} {w : World} {kt : TypeId} {key : κ → Lit} {ok : κ → Prop} {b n : Nat} {D : DataW Value} {m : κ → Option Value} (h : MV w kt key ok b n D m) : Maps.size D ≤ n := by
  obtain ⟨es, clock, _, _, hs, rfl⟩ := h.own
  simp only [Maps.size, length_sorted]
  simpa using hs
structure CtI (w wr : World) (l : List Acre.Fc) : Prop where
  mv : ∃ D, MV wr 38 kf WfF w.heap.size l.length D (setM l)
  bel : Below w.heap.size w wr
theorem CtI.start (w : World) : CtI w (w.alloc (.map #[] 0)) [] := ⟨⟨_, by rw [setM_nil]; exact MV.new (kt := 38) (key := kf) (ok := WfF) w⟩, below1 _ _⟩
theorem CtI.later {w wr w' : World} {l : List Acre.Fc} (h : CtI w wr l) (hb : Below wr.heap.size wr w') : CtI w w' l := by
  obtain ⟨D, hD⟩ := h.mv
  exact ⟨⟨D, hD.later hb⟩, below_call hb h.bel⟩
theorem CtI.put {w wr : World} {l : List Acre.Fc} (h : CtI w wr l) (x : Acre.Fc) (hx : WfF x) (hn : l.length ≤ 100000) : ∃ w', (Instr.mapUpdate 211 (.map (some w.heap.size)) (.agg #[.int .i64 x.1, .int .i64 x.2]) (.agg #[])).run Tryz.prog wr = .ok () w' ∧ CtI w w' (l ++ [x]) ∧ wr.grownBy w' (some w.heap.size) := by
  obtain ⟨D, hD⟩ := h.mv
  obtain ⟨w', h1, h2, h3⟩ := hD.update ktF Tryz.underlying211 (by unfold maxLen; omega) hx (.agg #[])
  rw [setM_snoc] at h2
  exact ⟨w', h1, ⟨⟨_, by rw [List.length_append]; exact h2⟩, h.bel.grown h3 h.bel.size (fun c hc => by cases hc; exact Nat.le_refl _)⟩, h3⟩
theorem ov_len : ∀ {E : List Acre.Ed} {i : Nat}, (Acre.cutI E i).length ≤ i + 1 := by
  intro E i
  unfold Acre.cutI
  have := List.length_filterMap_le (fun j => Acre.crossOf (Acre.gd E i) (Acre.gd E j)) (List.range i)
  simp at this ⊢
  omega
theorem cutI_len (E : List Acre.Ed) (k : Nat) (hk : k ≤ 24 := by omega) : ((List.range k).flatMap (Acre.cutI E)).length ≤ k * 25 := by
  induction k with
  | zero => simp
  | succ k ih =>
    have ih := ih (by omega)
    have := ov_len (E := E) (i := k)
    rw [List.range_succ, List.flatMap_append, List.length_append, List.flatMap_cons, List.flatMap_nil, List.append_nil]
    omega
theorem crossX_sm {a1 a2 b1 c1 c2 d1 d2 t : Int} (h1 : Sm a1) (h2 : Sm a2) (h3 : Sm b1) (h5 : Sm c1) (h6 : Sm c2) (h7 : Sm d1) (h8 : Sm d2) (ht : -1352 ≤ t ∧ t ≤ 1352) : (-100000 ≤ (Acre.crossX a1 a2 b1 c1 c2 d1 d2 t).1 ∧ (Acre.crossX a1 a2 b1 c1 c2 d1 d2 t).1 ≤ 100000) ∧ (-1352 ≤ (Acre.crossX a1 a2 b1 c1 c2 d1 d2 t).2 ∧ (Acre.crossX a1 a2 b1 c1 c2 d1 d2 t).2 ≤ 1352) := by
  have m1 := Acre.mul_bd (c1 - a1) (d2 - c2) 26 26 (by omega) (by omega)
  have m2 := Acre.mul_bd (c2 - a2) (d1 - c1) 26 26 (by omega) (by omega)
  have hs : -1352 ≤ Acre.share a1 a2 c1 c2 d1 d2 ∧ Acre.share a1 a2 c1 c2 d1 d2 ≤ 1352 := by unfold Acre.share; omega
  have m3 := Acre.mul_bd a1 t 13 1352 (by omega) (by omega)
  have m4 := Acre.mul_bd (Acre.share a1 a2 c1 c2 d1 d2) (b1 - a1) 1352 26 hs (by omega)
  have := Acre.low_bd (a1 * t + Acre.share a1 a2 c1 c2 d1 d2 * (b1 - a1)) t
  unfold Acre.crossX
  omega
theorem cutL_ok {E : List Acre.Ed} {more : List Acre.Fc} (hsm : ∀ e ∈ E, SmE e) (hmo : ∀ x ∈ more, Acre.Red x ∧ SmF x) : ∀ x ∈ Acre.cutL E more, Acre.Red x ∧ SmF x := by
  intro x hx
  unfold Acre.cutL at hx
  rcases List.mem_append.1 hx with h | h
  · exact hmo x h
  · obtain ⟨i, hi, hx⟩ := List.mem_flatMap.1 h
    have he := hsm _ (Acre.gd_mem (List.mem_range.1 hi))
    unfold Acre.cutI at hx
    rcases List.mem_cons.1 hx with rfl | hx
    · refine ⟨Acre.one_red _, ⟨?_, ?_⟩⟩
      · have := he.1.1; dsimp only; omega
      · dsimp only; omega
    · obtain ⟨j, hj, hx⟩ := List.mem_filterMap.1 hx
      have hf := hsm _ (Acre.gd_mem (E := E) (n := j) (by have := List.mem_range.1 hi; have := List.mem_range.1 hj; omega))
      refine ⟨(Acre.crossOf_lim hx).red, ?_⟩
      unfold Acre.crossOf at hx
      split at hx
      · simp at hx
      · split at hx
        · simp only [Option.some.injEq] at hx
          have t1 := Acre.mul_bd ((Acre.gd E i).2.1 - (Acre.gd E i).1.1) ((Acre.gd E j).2.2 - (Acre.gd E j).1.2) 26 26 (by have := he.1.1; have := he.2.1; omega) (by have := hf.1.2; have := hf.2.2; omega)
          have t2 := Acre.mul_bd ((Acre.gd E i).2.2 - (Acre.gd E i).1.2) ((Acre.gd E j).2.1 - (Acre.gd E j).1.1) 26 26 (by have := he.1.2; have := he.2.2; omega) (by have := hf.1.1; have := hf.2.1; omega)
          have := crossX_sm (t := Acre.turn (Acre.gd E i).1 (Acre.gd E i).2 (Acre.gd E j).1 (Acre.gd E j).2) he.1.1 he.1.2 he.2.1 hf.1.1 hf.1.2 hf.2.1 hf.2.2 (by unfold Acre.turn; omega)
          rw [hx] at this
          exact ⟨by omega, by omega⟩
        · simp at hx
set_option maxRecDepth 100000 in
set_option maxHeartbeats 4000000 in
theorem cutsOf_any (E : List Acre.Ed) (u : Value) (base : Nat) (more : List Acre.Fc) (mv : Value) (base2 : Nat) (w : World) (hE : w.ownsRow base 42 4 u E.length (flatE E)) (hm : w.ownsRow base2 38 2 mv more.length (more.flatMap frL))
    (hsm : ∀ e ∈ E, SmE e) (hEl : E.length ≤ 24) (hml : more.length ≤ 8000) (hmo : ∀ x ∈ more, Acre.Red x ∧ SmF x) :
    Calls Tryz.prog 57 #[u, mv] w fun e w' => ∃ v, e = .returned v ∧ w'.ownsRow w.heap.size 38 2 v (Acre.cutsP E more).length ((Acre.cutsP E more).flatMap frL) ∧ Below w.heap.size w w' := by
  have hmm := @run_makeMap Tryz.prog
  obtain ⟨ga, gb, gcap, rfl, hga, hcap⟩ := row_form hE
  obtain ⟨ha, hb, hcp, rfl, hha, _⟩ := row_form hm
  go_enter Tryz.func57, Tryz.ntmps57
  go_wp2
  go_loopw [18] (fun i wr => ∃ k : Nat, i = .int .i64 k ∧ k ≤ more.length ∧ Hid (CtI w wr (more.take k))) (fun i _ => more.length - (intOf i).toNat)
  case atStart =>
    exact ⟨0, rfl, Nat.zero_le _, CtI.start w⟩
  case round =>
    obtain ⟨k, rfl, hk, hr⟩ := hrel
    by_cases hlt : k < more.length
    · obtain rfl := hha (by omega)
      obtain ⟨x0, x1⟩ := rowF_cells hm k hlt
      have hI := hr.out
      have y0 := cell_later hI.bel x0
      have y1 := cell_later hI.bel x1
      have hx := (hmo _ (List.getElem_mem hlt)).2.wf
      have htk : more.take (k + 1) = more.take k ++ [more[k]] := List.take_succ_eq_append_getElem hlt
      have Htk : Hid _ := htk
      have hlk : (more.take k).length ≤ 100000 := by rw [List.length_take]; omega
      clear htk x0 x1 hr
      generalize more[k] = x at *
      obtain ⟨x1, x2⟩ := x
      dsimp only at y0 y1
      have hI2 := hI.later (below1 wr (.cells #[.int .i64 x1, .int .i64 x2] 38))
      have bX := Box.new wr [.int .i64 x1, .int .i64 x2] 38
      go_upto_region 5 with fail
      clear y0 y1 hI
      generalize wr.alloc (.cells #[.int .i64 x1, .int .i64 x2] 38) = WP at *
      obtain ⟨w', hu, hI3, hg⟩ := hI2.put (x1, x2) hx hlk
      have c0 := bX.c 0 _ rfl
      have c1 := bX.c 1 _ rfl
      rw [← Htk.out] at hI3
      have HI : Hid _ := hI3
      clear hI2 hI3 hg bX
      go_wp2
      go_roundw
      case rel => exact ⟨k + 1, by go_num, by omega, HI⟩
      case measure => simp [intOf]; omega
    · obtain rfl : k = more.length := by omega
      have hI := hr.out
      rw [List.take_of_length_le (Nat.le_refl _)] at hI
      have HI : Hid _ := hI
      clear hI hr hha hm
      go_wp2
      go_loopw [28] (fun i wr => ∃ k : Nat, i = .int .i64 k ∧ k ≤ E.length ∧ Hid (CtI w wr (more ++ (List.range k).flatMap (Acre.cutI E)))) (fun i _ => E.length - (intOf i).toNat)
      case atStart => exact ⟨0, rfl, Nat.zero_le _, by show Hid _; simpa using HI⟩
      case round =>
        clear HI
        obtain ⟨k, rfl, hk, hr⟩ := hrel
        by_cases hlt : k < E.length
        · obtain rfl := hga (by omega)
          obtain ⟨x0, x1, x2, x3⟩ := rowE_cells hE k hlt
          have hI := hr.out
          have y0 := cell_later hI.bel x0
          have y1 := cell_later hI.bel x1
          have y2 := cell_later hI.bel x2
          have y3 := cell_later hI.bel x3
          have hse := hsm E[k] (List.getElem_mem hlt)
          have hgd : Acre.gd E k = E[k] := by unfold Acre.gd; simp [hlt]
          obtain ⟨l0, hl0⟩ : ∃ l0, more ++ (List.range k).flatMap (Acre.cutI E) = l0 := ⟨_, rfl⟩
          have hlen0 : l0.length ≤ 9000 := by
            rw [← hl0, List.length_append]
            have := cutI_len E k
            have : k * 25 ≤ 24 * 25 := by omega
            omega
          have hstep : more ++ (List.range (k + 1)).flatMap (Acre.cutI E) = l0 ++ Acre.cutI E k := by
            rw [List.range_succ, List.flatMap_append, ← List.append_assoc, hl0]; simp
          rw [hl0] at hI
          have Hst : Hid _ := hstep
          clear hstep hl0 x0 x1 x2 x3 hr
          obtain ⟨⟨⟨e0, e1⟩, ⟨e2, e3⟩⟩, he⟩ : ∃ e, E[k] = e := ⟨_, rfl⟩
          rw [he] at y0 y1 y2 y3 hse hgd
          dsimp only at y0 y1 y2 y3
          have hI2 := hI.later (below1 wr (.cells #[.int .i64 e0, .int .i64 e1, .int .i64 e2, .int .i64 e3] 42))
          have bE := Box.new wr [.int .i64 e0, .int .i64 e1, .int .i64 e2, .int .i64 e3] 42
          go_upto_region 10 with fail
          clear y0 y1 y2 y3 hI he
          generalize wr.alloc (.cells #[.int .i64 e0, .int .i64 e1, .int .i64 e2, .int .i64 e3] 42) = WP at *
          generalize wr.heap.size = B at *
          obtain ⟨w1, hu, hI3, hg1⟩ := hI2.put (e0, 1) (SmF.wf ⟨⟨by have := hse.1.1; dsimp only at this ⊢; omega, by have := hse.1.1; dsimp only at this ⊢; omega⟩, ⟨by show (-100000000 : Int) ≤ 1; omega, by show (1 : Int) ≤ 100000000; omega⟩⟩) (by omega)
          have hlw := hI2.bel.size
          obtain ⟨D2, hD2⟩ := hI2.mv
          have hneB : B ≠ w.heap.size := fun e => by rw [e] at bE; exact box_map bE (by simp) hD2.own
          have bE2 := bE.kept (by simp) hg1 (fun e => hneB (by simpa using e.symm))
          have c0 := bE.c 0 _ rfl
          have H3 : Hid _ := hI3
          have HE2 : Hid _ := bE2
          have hne : ¬ E = [] := fun e => by rw [e] at hlt; simp at hlt
          clear hD2 D2 hI2 hI3 bE2 hg1 bE
          go_wp2
          obtain ⟨⟨q1, q2⟩, ⟨q3, q4⟩⟩ := id hse
          dsimp only at q1 q2 q3 q4
          go_loopw [43] (fun j w2 => ∃ q : Nat, j = .int .i64 q ∧ q ≤ k ∧ Hid (CtI w w2 (l0 ++ [(e0, 1)] ++ (List.range q).filterMap (fun j => Acre.crossOf (Acre.gd E k) (Acre.gd E j))) ∧ Box w2 B [.int .i64 e0, .int .i64 e1, .int .i64 e2, .int .i64 e3])) (fun j _ => k - (intOf j).toNat)
          case atStart => exact ⟨0, rfl, Nat.zero_le _, by simpa using H3.out, HE2.out⟩
          case round =>
            clear H3 HE2 c0 hu
            obtain ⟨q, rfl, hq, hr2⟩ := hrel
            by_cases hql : q < k
            · obtain ⟨hI, bE⟩ := hr2.out
              obtain ⟨x0, x1, x2, x3⟩ := rowE_cells hE q (by omega)
              have y0 := cell_later hI.bel x0
              have y1 := cell_later hI.bel x1
              have y2 := cell_later hI.bel x2
              have y3 := cell_later hI.bel x3
              have hsf := hsm E[q] (List.getElem_mem (by omega))
              have hgq : Acre.gd E q = E[q] := by unfold Acre.gd; simp [show q < E.length by omega]
              obtain ⟨l1, hl1⟩ : ∃ l1, l0 ++ [(e0, 1)] ++ (List.range q).filterMap (fun j => Acre.crossOf (Acre.gd E k) (Acre.gd E j)) = l1 := ⟨_, rfl⟩
              have hlen1 : l1.length ≤ 10000 := by
                rw [← hl1, List.length_append, List.length_append]
                have := List.length_filterMap_le (fun j => Acre.crossOf (Acre.gd E k) (Acre.gd E j)) (List.range q)
                simp at this ⊢
                omega
              have hstep : l0 ++ [(e0, 1)] ++ (List.range (q + 1)).filterMap (fun j => Acre.crossOf (Acre.gd E k) (Acre.gd E j)) = l1 ++ (match Acre.crossOf (Acre.gd E k) (Acre.gd E q) with | some x => [x] | none => []) := by
                rw [List.range_succ, List.filterMap_append, ← List.append_assoc, hl1]
                congr 1
                cases h : Acre.crossOf (Acre.gd E k) (Acre.gd E q) <;> simp [h]
              rw [hl1] at hI
              obtain ⟨⟨⟨f0, f1⟩, ⟨f2, f3⟩⟩, hf⟩ : ∃ e, E[q] = e := ⟨_, rfl⟩
              rw [hf] at y0 y1 y2 y3 hsf hgq
              dsimp only at y0 y1 y2 y3
              rw [hgd, hgq] at hstep
              have Hs2 : Hid _ := hstep
              clear hstep hl1 x0 x1 x2 x3 hr2 hf hgq
              obtain ⟨⟨p1, p2⟩, ⟨p3, p4⟩⟩ := id hsf
              dsimp only at p1 p2 p3 p4
              have HSe : Hid _ := hse
              have HSf : Hid _ := hsf
              have qA := below1 wr (.cells #[.int .i64 f0, .int .i64 f1, .int .i64 f2, .int .i64 f3] 42)
              have hI2 := hI.later qA
              have bF := Box.new wr [.int .i64 f0, .int .i64 f1, .int .i64 f2, .int .i64 f3] 42
              have bE2 := bE.later (by simp) qA
              go_upto_region 14 with fail
              clear y0 y1 y2 y3 hI bE qA
              generalize wr.alloc (.cells #[.int .i64 f0, .int .i64 f1, .int .i64 f2, .int .i64 f3] 42) = WQ at *
              generalize wr.heap.size = C at *
              have c0 := bE2.c 0 _ rfl
              have c1 := bE2.c 1 _ rfl
              have c2 := bE2.c 2 _ rfl
              have c3 := bE2.c 3 _ rfl
              have d0 := bF.c 0 _ rfl
              have d1 := bF.c 1 _ rfl
              have d2 := bF.c 2 _ rfl
              have d3 := bF.c 3 _ rfl
              have t1 := Acre.mul_bd (e2 - e0) (f3 - f1) 26 26 (by omega) (by omega)
              have t2 := Acre.mul_bd (e3 - e1) (f2 - f0) 26 26 (by omega) (by omega)
              go_region_held3 (fun w' => w'.cell? ⟨B, 0, none⟩ = some (.int .i64 e0) ∧ w'.cell? ⟨B, 1, none⟩ = some (.int .i64 e1) ∧ w'.cell? ⟨B, 2, none⟩ = some (.int .i64 e2) ∧ w'.cell? ⟨B, 3, none⟩ = some (.int .i64 e3) ∧ w'.cell? ⟨C, 0, none⟩ = some (.int .i64 f0) ∧ w'.cell? ⟨C, 1, none⟩ = some (.int .i64 f1) ∧ w'.cell? ⟨C, 2, none⟩ = some (.int .i64 f2) ∧ w'.cell? ⟨C, 3, none⟩ = some (.int .i64 f3) ∧ Below WQ.heap.size WQ w')
                ((go_split_ands; refine ⟨?_, ?_, ?_, ?_, ?_, ?_, ?_, ?_, ?_⟩ <;> first | assumption | exact Below.drew (Below.refl _ _) | exact cell_later (by assumption) (by assumption) | exact below_call (by assumption) (by assumption)))
                (first | (go_at_call 102; refine (along_any _ _ _ _ _ ?_ ?_).mono ?_; omega; omega; rintro e w' ⟨rfl, hb⟩) | (go_at_call 101; refine (cross_any _ _ _ _ _ ?_ ?_).mono ?_; omega; omega; rintro e w' ⟨rfl, hb⟩))
              go_split_ands
              have hW' : Below WQ.heap.size WQ w' := by assumption
              have hI3 := hI2.later hW'
              have bE3 := bE2.later (by simp) hW'
              have bF3 := bF.later (by simp) hW'
              clear c0 c1 c2 c3 d0 d1 d2 d3 hI2 bE2 bF hW'
              generalize hT : (e2 - e0) * (f3 - f1) - (e3 - e1) * (f2 - f0) = T at *
              have hTb : -1352 ≤ T ∧ T ≤ 1352 := by omega
              have hTu : Acre.turn (e0, e1) (e2, e3) (f0, f1) (f2, f3) = T := hT
              have HT : Hid _ := hTu
              have HB : Hid _ := bE3
              have HI3 : Hid _ := hI3
              clear hT hTu
              by_cases h0 : T = 0
              · have hnone : Acre.crossOf ((e0, e1), (e2, e3)) ((f0, f1), (f2, f3)) = none := by unfold Acre.crossOf; rw [if_pos (by rw [HT.out]; exact h0)]
                have HN : Hid (CtI w w' (l0 ++ [(e0, 1)] ++ (List.range (q + 1)).filterMap (fun j => Acre.crossOf (Acre.gd E k) (Acre.gd E j))) ∧ Box w' B [.int .i64 e0, .int .i64 e1, .int .i64 e2, .int .i64 e3]) := by
                  refine ⟨?_, bE3⟩
                  have := Hs2.out
                  rw [hnone] at this
                  rw [hgd, this, List.append_nil]
                  exact hI3
                subst h0
                clear hnone hI3 bE3 bF3
                go_wp2
                go_roundw
                case rel => exact ⟨q + 1, by go_num, by omega, HN⟩
                case measure => simp [intOf]; omega
              · have c0 := bE3.c 0 _ rfl
                have c1 := bE3.c 1 _ rfl
                have c2 := bE3.c 2 _ rfl
                have c3 := bE3.c 3 _ rfl
                have d0 := bF3.c 0 _ rfl
                have d1 := bF3.c 1 _ rfl
                have d2 := bF3.c 2 _ rfl
                have d3 := bF3.c 3 _ rfl
                have hT0 : (T == 0) = false := by simpa using h0
                obtain ⟨⟨q1, q2⟩, ⟨q3, q4⟩⟩ := id HSe.out
                obtain ⟨⟨p1, p2⟩, ⟨p3, p4⟩⟩ := id HSf.out
                go_wp2_with fail
                refine (crossing_any e0 e1 e2 e3 f0 f1 f2 f3 T _ q1 q2 q3 q4 p1 p2 p3 p4 hTb h0).mono ?_
                rintro e w4 ⟨rfl, hb4⟩
                have hX := crossX_sm (t := T) q1 q2 q3 p1 p2 p3 p4 hTb
                have hcr : Acre.crossOf ((e0, e1), (e2, e3)) ((f0, f1), (f2, f3)) = if Acre.btw (Acre.crossX e0 e1 e2 f0 f1 f2 f3 T).1 (Acre.crossX e0 e1 e2 f0 f1 f2 f3 T).2 (-12) 12 = true then some (Acre.crossX e0 e1 e2 f0 f1 f2 f3 T) else none := by
                  unfold Acre.crossOf
                  rw [HT.out, if_neg h0]
                generalize Acre.crossX e0 e1 e2 f0 f1 f2 f3 T = X at *
                generalize Acre.crossY e0 e1 e3 f0 f1 f2 f3 T = Y at *
                obtain ⟨x1, x2⟩ := X
                obtain ⟨y1, y2⟩ := Y
                dsimp only at hX hcr
                have hI4 := (hI3.later hb4).later (below2 w4 (.cells #[.int .i64 x1, .int .i64 x2] 38) (.cells #[.int .i64 y1, .int .i64 y2] 38))
                have bE4 := (bE3.later (by simp) hb4).later (by simp) (below2 w4 (.cells #[.int .i64 x1, .int .i64 x2] 38) (.cells #[.int .i64 y1, .int .i64 y2] 38))
                have bX4 := (Box.new w4 [.int .i64 x1, .int .i64 x2] 38).later (by simp) (below1 _ (.cells #[.int .i64 y1, .int .i64 y2] 38))
                unfold crV
                go_upto_region 17 with fail
                clear c0 c1 c2 c3 d0 d1 d2 d3 hI3 bE3 bF3 HI3 HB hb4
                generalize (w4.alloc (.cells #[.int .i64 x1, .int .i64 x2] 38)).alloc (.cells #[.int .i64 y1, .int .i64 y2] 38) = W5 at *
                generalize w4.heap.size = X4 at *
                have z0 := bX4.c 0 _ rfl
                have z1 := bX4.c 1 _ rfl
                go_wp2_with fail
                refine (between_any x1 x2 (-12) 12 _ (by omega) (by omega) (by omega)).mono ?_
                rintro e w6 ⟨rfl, hb6⟩
                have hI6 := hI4.later hb6
                have bE6 := bE4.later (by simp) hb6
                have bX6 := bX4.later (by simp) hb6
                clear hI4 bE4 bX4 z0 z1 hb6
                cases hB : Acre.btw x1 x2 (-12) 12
                · have HN : Hid (CtI w w6 (l0 ++ [(e0, 1)] ++ (List.range (q + 1)).filterMap (fun j => Acre.crossOf (Acre.gd E k) (Acre.gd E j))) ∧ Box w6 B [.int .i64 e0, .int .i64 e1, .int .i64 e2, .int .i64 e3]) := by
                    refine ⟨?_, bE6⟩
                    have := Hs2.out
                    rw [hcr, hB] at this
                    rw [hgd, this]
                    simpa using hI6
                  clear hcr hI6 bE6 bX6
                  go_wp2
                  go_roundw
                  case rel => exact ⟨q + 1, by go_num, by omega, HN⟩
                  case measure => simp [intOf]; omega
                · obtain ⟨w7, hu7, hI7, hg7⟩ := hI6.put (x1, x2) (SmF.wf ⟨⟨by dsimp only; omega, by dsimp only; omega⟩, ⟨by dsimp only; omega, by dsimp only; omega⟩⟩) (by omega)
                  have bE7 := bE6.kept (by simp) hg7 (fun e => hneB (by simpa using e.symm))
                  have z0 := bX6.c 0 _ rfl
                  have z1 := bX6.c 1 _ rfl
                  have HN : Hid (CtI w w7 (l0 ++ [(e0, 1)] ++ (List.range (q + 1)).filterMap (fun j => Acre.crossOf (Acre.gd E k) (Acre.gd E j))) ∧ Box w7 B [.int .i64 e0, .int .i64 e1, .int .i64 e2, .int .i64 e3]) := by
                    refine ⟨?_, bE7⟩
                    have := Hs2.out
                    rw [hcr, hB] at this
                    rw [hgd, this]
                    simpa using hI7
                  clear hcr hI6 bE6 bX6 hI7 bE7 hg7
                  go_wp2
                  go_roundw
                  case rel => exact ⟨q + 1, by go_num, by omega, HN⟩
                  case measure => simp [intOf]; omega
            · obtain rfl : q = k := by omega
              obtain ⟨hI, bE⟩ := hr2.out
              have HN : Hid (CtI w wr (more ++ (List.range (q + 1)).flatMap (Acre.cutI E))) := by
                show CtI w wr _
                rw [Hst.out]
                unfold Acre.cutI
                rw [hgd] at hI ⊢
                simpa using hI
              clear hI bE hr2
              go_wp2
              go_roundw
              case rel => exact ⟨q + 1, by go_num, by omega, HN⟩
              case measure => simp [intOf]; omega
        · obtain rfl : k = E.length := by omega
          have hI := hr.out
          obtain ⟨D, hD⟩ := hI.mv
          have hbel := hI.bel
          have hsz := mv_size hD
          have hlen : (Acre.cutL E more).length ≤ 10000 := by
            unfold Acre.cutL
            rw [List.length_append]
            have := cutI_len E E.length hEl
            omega
          have hl : ∀ x ∈ Acre.cutL E more, Acre.Red x ∧ SmF x := cutL_ok hsm hmo
          have hDD : ∀ x, WfF x → (Maps.has D (kf x) = true ↔ x ∈ Acre.cutL E more) := fun x hx => by
            rw [hD.has x hx]
            unfold setM Acre.cutL
            split <;> simp_all
          have hown : (wr.alloc (.cells #[.map (some w.heap.size)] 211)).ownsMap Tryz.prog 38 Raw w.heap.size (more ++ (List.range E.length).flatMap (Acre.cutI E)).length D := (hD.later (below1 _ _)).own
          have hseq := keys128_stops Fence.wide 10 trivial rfl (by omega) Raw (fun v => v) (fun v y _ => ⟨v, rfl⟩) wr.heap.size w.heap.size _ D (wr.alloc (.cells #[.map (some w.heap.size)] 211)) (by simp) (by simp) hown
          have hbig : Maps.size D ≤ 1000000 := by
            have : (more ++ (List.range E.length).flatMap (Acre.cutI E)).length ≤ 10000 := hlen
            omega
          have HS := hide (sorted_in 151 _ (enters_of Tryz.func151 (by kernel_rfl) rfl) D _ _ hbig _ hseq (Acre.cutL E more) (by omega) hl hDD)
          clear hseq hown hDD hl hsz hD hI hr hlen hbig
          go_wp2_with fail
          refine (callsIn_wide.1 (mapsKeys108_in Fence.wide 3 trivial rfl w.heap.size _)).mono ?_
          rintro e w2 ⟨rfl, rfl⟩
          go_wp2_with fail
          refine Calls.mono HS.out ?_
          rintro e w3 ⟨v, rfl, hrow, hb3⟩
          have HR : Hid _ := hrow
          clear hrow
          go_wp2
          go_ret
          exact ⟨v, rfl, row_base HR.out (by have := hbel.size; simp; omega), below_call hb3 (below_call (below1 _ _) hbel)⟩
end Go.Proofs.YtkjlkbgdkdcboaaGreatDoor
