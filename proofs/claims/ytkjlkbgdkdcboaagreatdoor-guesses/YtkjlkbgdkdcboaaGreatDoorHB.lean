import Derived.Test.YtkjlkbgdkdcboaaGreatDoorHA

set_option linter.unusedSimpArgs false
set_option linter.unusedVariables false

set_option linter.unusedSimpArgs false
set_option linter.unusedVariables false
namespace Go.Proofs.YtkjlkbgdkdcboaaGreatDoor
open Go.RowKit Go.Maps Fl
attribute [local go_sem ↓] Go.wp_at_zero Go.wp_at_succ
structure UpI (W wr : World) (hb base g cap n j : Nat) (X Y : Nat → Nat × Nat) : Prop where
  hs : HS wr hb base g cap n Y
  ui : Hq.UI (kX Y) j n
  mx : Mx n X Y
  kp : Kp base hb g W wr
set_option maxRecDepth 100000 in
set_option maxHeartbeats 1000000 in
theorem up_any (hb base g cap n : Nat) (X : Nat → Nat × Nat) (W : World) (h : HS W hb base g cap (n + 1) X) (hf : ∀ t, t < n + 1 → Fi (X t).1) (hN : n ≤ 1000000) (hfr : Hq.From (kX X) 0 n) :
    Calls Tryz.prog 82 #[.iface 115 (.pointer (some ⟨hb, 0, none⟩)), .int .i64 n] W fun e w' => ∃ Y, e = .returned (.tuple #[]) ∧ HS w' hb base g cap (n + 1) Y ∧ Hq.From (kX Y) 0 (n + 1) ∧ Mx (n + 1) X Y ∧ Kp base hb g W w' := by
  have H0 : Hid (UpI W W hb base g cap (n + 1) n X X) := hide ⟨h, Hq.UI.start hfr, Mx.refl _ X, Kp.refl base W⟩
  have Hf := hide hf
  clear h hf hfr
  go_enter Tryz.func82, Tryz.ntmps82
  go_wp2
  go_loopw [1] (fun v wr => ∃ j Y, v = .int .i64 (j : Nat) ∧ Hid (UpI W wr hb base g cap (n + 1) j X Y)) (fun v _ => (intOf v).toNat)
  case atStart => exact ⟨n, X, rfl, H0.out⟩
  case round =>
    obtain ⟨j, Y, rfl, hr⟩ := hrel
    have HS1 := hide hr.out.hs
    have HUI := hide hr.out.ui
    have HX := hide hr.out.mx
    have HK := hide hr.out.kp
    have HfY := hide (hr.out.mx.fi (Nat.le_refl _) Hf.out)
    have slot := HS1.out.slot
    have hm := mLess slot
    have Hj := hide hr.out.ui.lt
    clear hr
    by_cases hj0 : j = 0
    · subst hj0
      have HD := hide (HUI.out.done (.inl rfl))
      clear hm slot
      go_wp2
      go_end0
      exact ⟨Y, rfl, HS1.out, HD.out, HX.out, HK.out⟩
    · obtain ⟨p, hp⟩ : ∃ p : Nat, p = (j - 1) / 2 := ⟨_, rfl⟩
      have hlt := Hj.out
      have q1 : wrap64 ((j : Int) - 1) = (j : Int) - 1 := by rw [← IntWalk.i64_left, IntWalk.i64_in _ (by omega)]
      have q2 : ((j : Int) - 1).tdiv 2 = (p : Int) := by
        rw [show (j : Int) - 1 = ((j - 1 : Nat) : Int) by omega, show (2 : Int) = ((2 : Nat) : Int) from rfl, ← Int.ofNat_tdiv, hp]
      have q3 : wrap64 (p : Int) = (p : Int) := by rw [← IntWalk.i64_left, IntWalk.i64_in _ (by omega)]
      have d1 : ((p : Int) == (j : Int)) = false := by simp; omega
      have d2 : (p == j) = false := by simp; omega
      have Hp := hide hp
      have Hlt := hide hlt
      have Hj0 := hide hj0
      clear hp hlt hj0
      go_wp2_with fail
      refine (lessH HS1.out (i := j) (j := p) Hlt.out (by have := Hp.out; have := Hlt.out; omega) HfY.out).mono ?_
      rintro e w2 ⟨rfl, ha2, hk2⟩
      have HA2 := hide ha2
      have HK2 := hide (HK.out.trans hk2)
      clear hm slot ha2 hk2
      by_cases b2 : V (Y j).1 < V (Y p).1
      · rw [decide_eq_true b2]
        have HD2 := hide (HUI.out.swap (by have := Hj0.out; omega) (by rw [← Hp.out]; exact b2))
        have slot3 := HA2.out.slot
        have hm3 := mSwap slot3
        clear b2 HUI
        go_wp2_with fail
        refine (swapH HA2.out (i := p) (j := j) (by have := Hp.out; have := Hlt.out; omega) Hlt.out).mono ?_
        rintro e w3 ⟨rfl, hs3, hk3⟩
        have HN : Hid (UpI W w3 hb base g cap (n + 1) p X (Hq.swf Y p j)) := hide ⟨hs3, by rw [kX_swf, Hp.out]; exact HD2.out, HX.out.swap (by have := Hp.out; have := Hlt.out; omega) Hlt.out, HK2.out.trans hk3⟩
        clear hm3 slot3 hs3 hk3 HD2
        go_wp2
        go_roundw
        case rel => exact ⟨p, Hq.swf Y p j, rfl, HN.out⟩
        case measure => simp [intOf]; have := Hp.out; have := Hj0.out; omega
      · rw [decide_eq_false b2]
        have HD2 := hide (HUI.out.done (.inr (by rw [← Hp.out]; show V (Y p).1 ≤ V (Y j).1; grind)))
        clear b2 HUI
        go_wp2
        go_end0
        exact ⟨Y, rfl, HA2.out, HD2.out, HX.out, HK2.out⟩
structure InI (W wr : World) (hb base g cap n i : Nat) (X Y : Nat → Nat × Nat) : Prop where
  hs : HS wr hb base g cap n Y
  fr : Hq.From (kX Y) i n
  mx : Mx n X Y
  kp : Kp base hb g W wr
theorem Mx.trans {n : Nat} {X Y Z : Nat → Nat × Nat} (h : Mx n X Y) (h' : Mx n Y Z) : Mx n X Z := ⟨fun t ht => by
  obtain ⟨s, s1, s2⟩ := h'.mem t ht
  obtain ⟨r, r1, r2⟩ := h.mem s s1
  exact ⟨r, r1, by rw [s2, r2]⟩, fun t ht => by rw [h'.out t ht, h.out t ht]⟩
set_option maxRecDepth 100000 in
set_option maxHeartbeats 1000000 in
theorem init_any (hb base g cap n : Nat) (X : Nat → Nat × Nat) (W : World) (h : HS W hb base g cap n X) (hf : ∀ t, t < n → Fi (X t).1) (hN : n ≤ 1000000) :
    Calls Tryz.prog 41 #[.iface 115 (.pointer (some ⟨hb, 0, none⟩))] W fun e w' => ∃ Y, e = .returned (.tuple #[]) ∧ HS w' hb base g cap n Y ∧ Hq.From (kX Y) 0 n ∧ Mx n X Y ∧ Kp base hb g W w' := by
  have slot := h.slot
  have hm := mLen slot
  have H0 : Hid (InI W W hb base g cap n (n / 2) X X) := hide ⟨h, fun j h1 h2 h3 => by omega, Mx.refl _ X, Kp.refl base W⟩
  have Hf := hide hf
  obtain ⟨q, hq⟩ : ∃ q : Nat, q = n / 2 := ⟨_, rfl⟩
  have q1 : ((n : Int)).tdiv 2 = (q : Int) := by rw [show (2 : Int) = ((2 : Nat) : Int) from rfl, ← Int.ofNat_tdiv, hq]
  have q2 : wrap64 (q : Int) = (q : Int) := by rw [← IntWalk.i64_left, IntWalk.i64_in _ (by omega)]
  have q3 : wrap64 ((q : Int) - 1) = (q : Int) - 1 := by rw [← IntWalk.i64_left, IntWalk.i64_in _ (by omega)]
  rw [← hq] at H0
  have Hq := hide hq
  clear h hf hq
  go_enter Tryz.func41, Tryz.ntmps41
  go_wp2_with (go_at_call 220; refine (len_any _ _ _ _).mono ?_; rintro e w9 ⟨rfl, hw9⟩; rw [hw9]; clear hw9)
  go_loopw [3] (fun v wr => ∃ i : Nat, ∃ Y, v = .int .i64 ((i : Int) - 1) ∧ i ≤ n ∧ Hid (InI W wr hb base g cap n i X Y)) (fun v _ => (intOf v + 1).toNat)
  case atStart => exact ⟨q, X, by simp [q2, q3], by have := Hq.out; omega, H0.out⟩
  case round =>
    obtain ⟨i, Y, rfl, hi, hr⟩ := hrel
    have HS1 := hide hr.out.hs
    have HFR := hide hr.out.fr
    have HX := hide hr.out.mx
    have HK := hide hr.out.kp
    have HfY := hide (hr.out.mx.fi (Nat.le_refl _) Hf.out)
    clear hr slot hm q1 q2 q3 Hq H0
    cases i with
    | zero =>
      go_wp2
      go_end0
      exact ⟨Y, rfl, HS1.out, HFR.out, HX.out, HK.out⟩
    | succ k =>
      have e : ((k + 1 : Nat) : Int) - 1 = (k : Int) := by omega
      rw [e]
      clear e
      have Hk := hide hi
      have q3 : wrap64 ((k : Int) - 1) = (k : Int) - 1 := by rw [← IntWalk.i64_left, IntWalk.i64_in _ (by omega)]
      clear hi
      go_wp2_with fail
      refine (down_any hb base g cap n n k Y _ HS1.out HfY.out (Nat.le_refl _) hN (by have := Hk.out; omega) HFR.out).mono ?_
      rintro e w2 ⟨Z, ⟨b, rfl⟩, z1, z2, z3, z4⟩
      have HN : Hid (InI W w2 hb base g cap n k X Z) := hide ⟨z1, z2, HX.out.trans z3, HK.out.trans z4⟩
      clear z1 z2 z3 z4
      go_wp2
      go_roundw
      case rel => exact ⟨k, Z, by simp [q3], by have := Hk.out; omega, HN.out⟩
      case measure => simp [intOf]; try omega
end Go.Proofs.YtkjlkbgdkdcboaaGreatDoor

set_option linter.unusedSimpArgs false
set_option linter.unusedVariables false
namespace Go.Proofs.YtkjlkbgdkdcboaaGreatDoor
open Go.RowKit Go.Maps Fl
attribute [local go_sem ↓] Go.wp_at_zero Go.wp_at_succ
attribute [local go_sem] run_store_complex
theorem rowX_take (X : Nat → Nat × Nat) (n : Nat) : (rowX X (n + 1)).take n = rowX X n := by
  unfold rowX
  rw [List.range_succ, List.map_append, List.take_left' (by simp)]
theorem row_less {w : World} {base g cap n : Nat} {X : Nat → Nat × Nat} (h : w.ownsRow base 120 1 (.slice (some ⟨g, 0, none⟩) (n + 1) cap) (n + 1) (rowX X (n + 1))) : w.ownsRow base 120 1 (.slice (some ⟨g, 0, none⟩) n cap) n (rowX X n) := by
  refine ⟨by rw [rowX_len]; omega, .inr ?_⟩
  rcases h.2 with ⟨h0, _⟩ | ⟨g', cap', cur, hv, hb, hbl, h1, h2, h3, h4⟩
  · cases h0
  · cases hv
    refine ⟨g, cap, cur, rfl, hb, hbl, by omega, h2, h3, ?_⟩
    rw [← rowX_take, ← h4, List.take_take]
    congr 1
    omega
theorem row_slot {w : World} {base size m n : Nat} {t : TypeId} {v u : Value} {xs : List Value} (h : w.ownsRow base t size v m xs) (hn : some n ≠ v.ownBlock) : (w.setCell ⟨n, 0, none⟩ u).ownsRow base t size v m xs := by
  refine h.kept (row := some n) ⟨rfl, rfl, rfl, by simp, fun k _ hk => heap_setCell_other w ⟨n, 0, none⟩ k u (fun e => hk (by simp [e]))⟩ (.inr ?_)
  intro e
  exact hn e.symm
theorem HS.cut {W : World} {hb base g cap n : Nat} {X : Nat → Nat × Nat} (h : HS W hb base g cap (n + 1) X) : HS (W.setCell ⟨hb, 0, none⟩ (.slice (some ⟨g, 0, none⟩) n cap)) hb base g cap n X := by
  have hs := h.slot
  exact ⟨by simp [go_sem, hs], by rw [frozen_set]; exact h.sf, row_slot (row_less h.row) (fun e => h.ne (Option.some.inj e).symm), h.lt, h.tag.set _⟩
theorem Kp.slot {W : World} {hb base g : Nat} (hl : base ≤ hb) (v : Value) : Kp base hb g W (W.setCell ⟨hb, 0, none⟩ v) := ⟨fun B w0 hB h => h.setCell (p := ⟨hb, 0, none⟩) (by show B ≤ hb; omega) v, Ot2.slot hb g W v⟩
set_option maxRecDepth 100000 in
set_option maxHeartbeats 1000000 in
theorem pop0_any (hb base g cap n : Nat) (X : Nat → Nat × Nat) (W : World) (h : HS W hb base g cap (n + 1) X) (hN : n ≤ 1000000) :
    Calls Tryz.prog 223 #[.pointer (some ⟨hb, 0, none⟩)] W fun e w' => e = .returned (.iface 120 (.complex .f64 (X n).1 (X n).2)) ∧ HS w' hb base g cap n X ∧ Kp base hb g W w' := by
  have slot := h.slot
  have sf := h.sf
  have cn := h.at (t := n) (by omega)
  have HC := hide h.cut
  have HT := hide h.tag
  have HLt := hide h.lt
  have hcap : n + 1 ≤ cap := by
    rcases h.row.2 with ⟨h0, _⟩ | ⟨g', cap', cur, hv, hb, hbl, h1, h2, h3, h4⟩
    · cases h0
    · cases hv; exact h1
  clear h
  generalize (X n).1 = a at *
  generalize (X n).2 = b at *
  have q1 : wrap64 (((n + 1 : Nat) : Int) - 1) = (n : Int) := by rw [← IntWalk.i64_left, IntWalk.i64_in _ (by omega)]; omega
  have q2 : ((n : Int) + 1 - 1) = (n : Int) := by omega
  go_enter Tryz.func223, Tryz.ntmps223
  go_wp2
  go_ret
  exact ⟨rfl, HC.out, Kp.slot HLt.out _⟩
theorem from_swap {f : Nat → Rat} {n : Nat} (h : Hq.From f 0 (n + 1)) : Hq.From (Hq.swf f 0 n) 1 n := fun j h1 h2 h3 => by
  rw [Hq.swf_o f (by omega) (by omega), Hq.swf_o f (by omega) (by omega)]
  exact h j h1 (by omega) (Nat.zero_le _)
set_option maxRecDepth 100000 in
set_option maxHeartbeats 1000000 in
theorem popH_any (hb base g cap n : Nat) (X : Nat → Nat × Nat) (W : World) (h : HS W hb base g cap (n + 1) X) (hf : ∀ t, t < n + 1 → Fi (X t).1) (hN : n + 1 ≤ 1000000) (hfr : Hq.From (kX X) 0 (n + 1)) :
    Calls Tryz.prog 75 #[.iface 115 (.pointer (some ⟨hb, 0, none⟩))] W fun e w' => ∃ Y, e = .returned (.iface 120 (.complex .f64 (X 0).1 (X 0).2)) ∧ HS w' hb base g cap n Y ∧ Hq.From (kX Y) 0 n ∧ (∀ t, t < n → ∃ s, s < n + 1 ∧ Y t = X s) ∧ Kp base hb g W w' := by
  have slot := h.slot
  have hm := mLen slot
  have hm2 := mSwap slot
  have HS1 := hide h
  have HF := hide hf
  have HR : Hid (Hq.From (kX (Hq.swf X 0 n)) 1 n) := hide (by rw [kX_swf]; exact from_swap hfr)
  have q1 : wrap64 (((n + 1 : Nat) : Int) - 1) = (n : Int) := by rw [← IntWalk.i64_left, IntWalk.i64_in _ (by omega)]; omega
  have q2 : ((n : Int) + 1 - 1) = (n : Int) := by omega
  have hlt := h.lt
  clear h hf hfr
  go_enter Tryz.func75, Tryz.ntmps75
  go_wp2_with (go_at_call 220; refine (len_any _ _ _ _).mono ?_; rintro e w9 ⟨rfl, hw9⟩; rw [hw9]; clear hw9)
  refine (swapH HS1.out (i := 0) (j := n) (by omega) (by omega)).mono ?_
  rintro e w1 ⟨rfl, ha1, hk1⟩
  have HA1 := hide ha1
  have HK1 := hide hk1
  clear ha1 hk1 hm hm2 slot
  go_wp2_with fail
  refine (down_any hb base g cap (n + 1) n 0 (Hq.swf X 0 n) _ HA1.out (fun t ht => by
    by_cases c1 : t = 0
    · rw [c1, Hq.swf_i]; exact HF.out n (by omega)
    · by_cases c2 : t = n
      · rw [c2, Hq.swf_j]; exact HF.out 0 (by omega)
      · rw [Hq.swf_o X c1 c2]; exact HF.out t ht) (by omega) hN (by omega) HR.out).mono ?_
  rintro e w2 ⟨Y, ⟨b, rfl⟩, z1, z2, z3, z4⟩
  have hY : Y n = X 0 := by rw [z3.out n (Nat.le_refl _), Hq.swf_j]
  have HZ1 := hide z1
  have HZ2 := hide z2
  have HZ3 := hide z3
  have HK2 := hide (HK1.out.trans z4)
  have HY := hide hY
  have hm := mPop hb w2
  clear z1 z2 z3 z4 hY HA1 HK1
  go_wp2_with fail
  refine (pop0_any hb base g cap n Y _ HZ1.out (by omega)).mono ?_
  rintro e w3 ⟨rfl, ha3, hk3⟩
  rw [HY.out]
  have HA3 := hide ha3
  have HK3 := hide (HK2.out.trans hk3)
  clear ha3 hk3 hm
  go_wp2
  go_ret
  refine ⟨Y, rfl, HA3.out, HZ2.out, fun t ht => ?_, HK3.out⟩
  obtain ⟨s, s1, s2⟩ := HZ3.out.mem t ht
  rw [s2]
  by_cases c1 : s = 0
  · rw [c1, Hq.swf_i]; exact ⟨n, by omega, rfl⟩
  · rw [Hq.swf_o X c1 (by omega)]; exact ⟨s, by omega, rfl⟩
theorem info120 : (Tryz.prog.info? 120).map (fun i => (i.zero, i.size, i.bytes)) = some (some (.complex .f64 0 0), 1, 16) := by kernel_rfl
theorem assert120 (a b : Nat) (w : World) : (Instr.typeAssert (.iface 120 (.complex .f64 a b)) 20 120 false).run Tryz.prog w = .ok (.complex .f64 a b) w := by kernel_rfl
def apX (X : Nat → Nat × Nat) (n : Nat) (p : Nat × Nat) : Nat → Nat × Nat := fun t => if t = n then p else X t
theorem rowX_app (X : Nat → Nat × Nat) (n : Nat) (p : Nat × Nat) : rowX (apX X n p) (n + 1) = rowX X n ++ [cpx p] := by
  unfold rowX
  rw [List.range_succ, List.map_append]
  congr 1
  · exact List.map_congr_left (fun t ht => by
      have := List.mem_range.1 ht
      unfold apX
      rw [if_neg (by omega)])
  · simp [apX]
set_option maxRecDepth 100000 in
set_option maxHeartbeats 1000000 in
theorem push0_any (hb base g cap n a b : Nat) (X : Nat → Nat × Nat) (W : World) (h : HS W hb base g cap n X) (hN : n ≤ 1000000) :
    Calls Tryz.prog 224 #[.pointer (some ⟨hb, 0, none⟩), .iface 120 (.complex .f64 a b)] W fun e w' => e = .returned (.tuple #[]) ∧ ∃ g' cap', HS w' hb base g' cap' (n + 1) (apX X n (a, b)) ∧ (g' = g ∨ W.heap.size ≤ g') ∧ Kp base hb g W w' := by
  obtain ⟨i0, hi, hz0, hz1, hz2⟩ := info_parts info120
  have slot := h.slot
  have sf := h.sf
  have hrow := h.row
  have hne := h.ne
  have hlt := h.lt
  have bx : Box W hb [.slice (some ⟨g, 0, none⟩) n cap] := ⟨fun k v hk => by
    match k, hk with
    | 0, hk => simp at hk; rw [← hk]; exact slot, fun k hk => by
    obtain rfl : k = 0 := by simpa using hk
    exact sf⟩
  have bx1 := (bx.later (by simp) (below1 W (.cells #[.complex .f64 a b] 120))).block (w' := (W.alloc (.cells #[.complex .f64 a b] 120)).drew) rfl
  have ca := (bx.later (by simp) (below1 W (.cells #[.complex .f64 a b] 120))).c 0 _ rfl
  have fa := (bx.later (by simp) (below1 W (.cells #[.complex .f64 a b] 120))).f 0 (by simp)
  have hgl := h.base_le
  have hgs := (hrow.lt g rfl).2
  have HRow := hide hrow
  have HTag := hide h.tag
  have has := assert120 a b
  clear h bx hrow
  go_enter Tryz.func224, Tryz.ntmps224
  go_wp2
  go_region_law
    ((refine step_append_lies _ (by rfl) _ _ _ (by rfl) base 120 i0 _ 1 16 Tryz.underlying112 hi hz0 hz1 hz2 rfl (by omega) (.slice (some ⟨g, 0, none⟩) n cap) n (rowX X n) (by rfl) ((HRow.out.alloc _).drew)
        ⟨W.heap.size, 0, none⟩ 1 1 [.complex .f64 a b] (by rfl) (by rfl) (World.news_of_block (cs := #[.complex .f64 a b]) (t := 120) (fr := (0, 0)) (heap_alloc_new W _)) (by simp [Value.oneCell'])
        (by omega) (by unfold maxLen; omega) (by omega) (by simp; omega) (W.heap.size + 1) (by simp) ?_; intro gg cap' w2 hown1 hgrow hat hlt'; have q2 := bx1.kept (by simp) hgrow (by intro e; have e2 : g = hb := Option.some.inj e; exact hne e2); have c0 := q2.c 0 _ rfl; have f0 := q2.f 0 (by simp)))
  all_goals
    go_end0
    have hT1 : Boxed (W.alloc (.cells #[.complex .f64 a b] 120)).drew hb 112 (.slice (some ⟨g, 0, none⟩) n cap) := HTag.out.alloc _
    have hT2 := hT1.kept hgrow (by intro e; have e2 : hb = g := Option.some.inj e; exact hne e2.symm)
    refine ⟨rfl, gg, cap', ⟨by simp [go_sem, c0], by rw [frozen_set]; exact f0, by rw [rowX_app]; exact row_slot hown1 (Boxed.not_row hT2 (by decide) hown1), hlt, hT2.set _⟩, ?_, ⟨fun B w0 hB hbel => ?_, ?_⟩⟩
    · rcases hat with e | e
      · exact .inl (Option.some.inj e).symm
      · exact .inr (by omega)
    · have h1 : Below B w0 (W.alloc (.cells #[.complex .f64 a b] 120)).drew := Below.drew (hbel.alloc (by omega) _)
      exact (h1.grown hgrow (by simp; omega) (fun c hc => by have e2 : g = c := Option.some.inj hc; omega)).setCell (p := ⟨hb, 0, none⟩) (by show B ≤ hb; omega) _
    · refine Ot2.more ⟨?_, fun k hk p1 p2 => ?_⟩ (Ot2.slot hb g _ _) (.inl rfl)
      · have := hgrow.size
        simp at this
        omega
      · have h1 : (W.alloc (.cells #[.complex .f64 a b] 120)).drew.heap[k]? = W.heap[k]? := (below1 W (.cells #[.complex .f64 a b] 120)).block k hk
        exact (hgrow.block k (by simp; omega) (fun e => p2 (Option.some.inj e))).trans h1
set_option maxRecDepth 100000 in
set_option maxHeartbeats 1000000 in
theorem pushH_any (hb base g cap n a b : Nat) (X : Nat → Nat × Nat) (W : World) (h : HS W hb base g cap n X) (hf : ∀ t, t < n → Fi (X t).1) (ha : Fi a) (hN : n ≤ 1000000) (hfr : Hq.From (kX X) 0 n) :
    Calls Tryz.prog 45 #[.iface 115 (.pointer (some ⟨hb, 0, none⟩)), .iface 120 (.complex .f64 a b)] W fun e w' => e = .returned (.tuple #[]) ∧ ∃ g' cap' Y, HS w' hb base g' cap' (n + 1) Y ∧ Hq.From (kX Y) 0 (n + 1) ∧ (∀ t, t < n + 1 → Y t = (a, b) ∨ ∃ s, s < n ∧ Y t = X s) ∧ (g' = g ∨ W.heap.size ≤ g') ∧ Kp base hb g W w' := by
  have HP := hide (push0_any hb base g cap n a b X W h hN)
  have HF := hide hf
  have HA := hide ha
  have HR : Hid (Hq.From (kX (apX X n (a, b))) 0 n) := hide (hfr.congr (fun t ht => by unfold kX apX; rw [if_neg (by omega)]))
  have hm := mPush hb W
  have hlt := h.lt
  have q1 : wrap64 (((n + 1 : Nat) : Int) - 1) = (n : Int) := by rw [← IntWalk.i64_left, IntWalk.i64_in _ (by omega)]; omega
  have q2 : ((n : Int) + 1 - 1) = (n : Int) := by omega
  clear h hf ha hfr
  go_enter Tryz.func45, Tryz.ntmps45
  go_wp2_with fail
  refine HP.out.mono ?_
  rintro e w1 ⟨rfl, g', cap', ha1, hgg, hk1⟩
  have HGG := hide hgg
  have HA1 := hide ha1
  have HK1 := hide hk1
  have slot := ha1.slot
  have hm1 := mLen slot
  clear ha1 hk1 hm HP hgg
  go_wp2_with (go_at_call 220; refine (len_any _ _ _ _).mono ?_; rintro e w9 ⟨rfl, hw9⟩; rw [hw9]; clear hw9)
  refine (up_any hb base g' cap' n (apX X n (a, b)) _ HA1.out (fun t ht => by
    unfold apX
    by_cases c : t = n
    · rw [if_pos c]; exact HA.out
    · rw [if_neg c]; exact HF.out t (by omega)) hN HR.out).mono ?_
  rintro e w2 ⟨Y, rfl, z1, z2, z3, z4⟩
  have HZ1 := hide z1
  have HZ2 := hide z2
  have HZ3 := hide z3
  have HK2 := hide (HK1.out.more z4 HGG.out)
  clear z1 z2 z3 z4 hm1 slot
  go_wp2
  go_end0
  refine ⟨rfl, g', cap', Y, HZ1.out, HZ2.out, fun t ht => ?_, HGG.out, HK2.out⟩
  obtain ⟨s, s1, s2⟩ := HZ3.out.mem t ht
  rw [s2]
  unfold apX
  by_cases c : s = n
  · rw [if_pos c]; exact .inl rfl
  · rw [if_neg c]; exact .inr ⟨s, by omega, rfl⟩
end Go.Proofs.YtkjlkbgdkdcboaaGreatDoor

set_option linter.unusedSimpArgs false
set_option linter.unusedVariables false
namespace Go.Proofs.YtkjlkbgdkdcboaaGreatDoor
open Go.RowKit Go.Maps Fl
attribute [local go_sem ↓] Go.wp_at_zero Go.wp_at_succ
attribute [local go_sem] run_store_complex
def slen (o : Option Value) : Nat := match o with
  | some (.slice _ n _) => n
  | _ => 0
structure NxI (W wr : World) (hb base g cap N n : Nat) (X Y : Nat → Nat × Nat) : Prop where
  hs : HS wr hb base g cap n Y
  fr : Hq.From (kX Y) 0 n
  mem : ∀ t, t < n → ∃ s, s < N ∧ Y t = X s
  kp : Kp base hb g W wr
set_option maxRecDepth 100000 in
set_option maxHeartbeats 1000000 in
theorem next_any (hb base g cap n : Nat) (X : Nat → Nat × Nat) (W : World) (h : HS W hb base g cap (n + 1) X) (hf : ∀ t, t < n + 1 → Md (X t).1 1048576) (hN : n + 1 ≤ 1000000) (hfr : Hq.From (kX X) 0 (n + 1)) :
    Calls Tryz.prog 42 #[.pointer (some ⟨hb, 0, none⟩)] W fun e w' => ∃ m Y, e = .returned (.float .f64 (X 0).1) ∧ m ≤ n ∧ HS w' hb base g cap m Y ∧ Hq.From (kX Y) 0 m ∧ (∀ t, t < m → ∃ s, s < n + 1 ∧ Y t = X s) ∧ (∀ t, t < m → V (X 0).1 < V (Y t).1) ∧ Kp base hb g W w' := by
  have HP := hide (popH_any hb base g cap n X W h (fun t ht => (hf t ht).fi) hN hfr)
  have HF := hide hf
  have HH := hide hfr.head
  have hmd := hf 0 (by omega)
  have HM := hide hmd
  have has := assert120 (X 0).1 (X 0).2
  clear h hf hfr hmd
  generalize hx : (X 0).1 = x at *
  generalize (X 0).2 = x2 at *
  have HX := hide hx
  clear hx
  go_enter Tryz.func42, Tryz.ntmps42
  go_wp2_with fail
  refine HP.out.mono ?_
  rintro e w1 ⟨Y, rfl, ha1, hf1, hm1, hk1⟩
  have H1 : Hid (NxI W w1 hb base g cap (n + 1) n X Y) := hide ⟨ha1, hf1, hm1, hk1⟩
  clear ha1 hf1 hm1 hk1 HP
  go_wp2
  clear has
  go_loopw [] (fun wr => ∃ m Y, m ≤ n ∧ Hid (NxI W wr hb base g cap (n + 1) m X Y)) (fun wr => slen (wr.cell? ⟨hb, 0, none⟩))
  case atStart => exact ⟨n, Y, Nat.le_refl _, H1.out⟩
  case round =>
    obtain ⟨m, Z, hm, hr⟩ := hrel
    have slot := hr.out.hs.slot
    have HS1 := hide hr.out.hs
    have HFR := hide hr.out.fr
    have HMM := hide hr.out.mem
    have HK := hide hr.out.kp
    clear hr H1
    cases m with
    | zero =>
      go_wp2
      go_ret
      exact ⟨0, Z, rfl, by omega, HS1.out, HFR.out, HMM.out, fun t ht => by omega, HK.out⟩
    | succ m =>
      have c0 := HS1.out.at (t := 0) (by omega)
      have HMd : Hid (Md (Z 0).1 1048576) := hide (by
        obtain ⟨s, s1, s2⟩ := HMM.out 0 (by omega)
        rw [s2]; exact HF.out s s1)
      have HAs := assert120 (Z 0).1 (Z 0).2
      have k0 : (0 : Int) < ((m + 1 : Nat) : Int) := by omega
      go_wp2_with fail
      refine (apart_any _ _ _ HMd.out HM.out).mono ?_
      rintro e w2 ⟨k, rfl, rfl, a1, a2, a3⟩
      by_cases hk0 : k = 0
      · subst hk0
        clear a1 a2 a3 c0
        have HSl := hide slot
        go_wp2_with fail
        refine (popH_any hb base g cap m Z _ HS1.out (fun t ht => by
          obtain ⟨s, s1, s2⟩ := HMM.out t ht
          rw [s2]; exact (HF.out s s1).fi) (by omega) HFR.out).mono ?_
        rintro e w3 ⟨Z', rfl, b1, b2, b3, b4⟩
        have HN : Hid (NxI W w3 hb base g cap (n + 1) m X Z') := hide ⟨b1, b2, fun t ht => by
          obtain ⟨s, s1, s2⟩ := b3 t ht
          obtain ⟨r, r1, r2⟩ := HMM.out s s1
          exact ⟨r, r1, by rw [s2, r2]⟩, HK.out.trans b4⟩
        clear b1 b2 b3 b4 slot
        go_wp2
        go_roundw
        case rel => exact ⟨m, Z', by omega, HN.out⟩
        case measure =>
          rw [HN.out.hs.slot, HSl.out]
          exact Nat.lt_succ_self m
      · have d1 : (k == 0) = false := by simpa using hk0
        have HLT : Hid (∀ t, t < m + 1 → V x < V (Z t).1) := hide (fun t ht => by
          have h1 := HFR.out.head t ht
          have h2 : V (Z 0).1 ≤ V (Z t).1 := h1
          obtain ⟨s, s1, s2⟩ := HMM.out 0 (by omega)
          have h3 : V (X 0).1 ≤ V (X s).1 := HH.out s s1
          rw [HX.out, ← s2] at h3
          have h4 : V (Z 0).1 ≠ V x := fun e => hk0 (a3 e)
          grind)
        clear a1 a2 a3 hk0 c0 slot
        go_wp2
        go_ret
        exact ⟨m + 1, Z, rfl, hm, HS1.out, HFR.out, HMM.out, HLT.out, HK.out⟩
end Go.Proofs.YtkjlkbgdkdcboaaGreatDoor
