import Derived.Test.YtkjlkbgdkdcboaaGreatDoorSE

set_option linter.unusedSimpArgs false
set_option linter.unusedVariables false

set_option linter.unusedSimpArgs false
set_option linter.unusedVariables false
namespace Go.Proofs.YtkjlkbgdkdcboaaGreatDoor
open Go.RowKit Go.Maps Fl
attribute [local go_sem ↓] Go.wp_at_zero Go.wp_at_succ
attribute [local go_sem] run_store_complex'
structure SoI (W wr : World) (l : Value) (k : Nat) : Prop where
  ex : ∃ n T, wr.ownsRow W.heap.size 167 3 l n (rowS T n) ∧ n ≤ k ∧ (n = 0 → l = .slice none 0 0) ∧ ∀ t, t < n → (T t).1 < k ∧ ∃ a b c d, SkOk (T t) a b c d
  bel : Below W.heap.size W wr
theorem SoI.next {W wr : World} {l : Value} {k : Nat} (h : SoI W wr l k) : SoI W wr l (k + 1) := by
  obtain ⟨n, T, h1, h2, h0, h3⟩ := h.ex
  exact ⟨⟨n, T, h1, by omega, h0, fun t ht => ⟨by have := (h3 t ht).1; omega, (h3 t ht).2⟩⟩, h.bel⟩
theorem SoI.call {W wr w' : World} {l : Value} {k : Nat} (h : SoI W wr l k) (hb : Below wr.heap.size wr w') : SoI W w' l k := by
  obtain ⟨n, T, h1, h2, h0, h3⟩ := h.ex
  exact ⟨⟨n, T, row_call h1 hb, h2, h0, h3⟩, below_more h.bel hb⟩
def EdS (W : World) (P : Nat) (l : Value) (k : Nat) (x0 y0 x1 y1 : Int) (wr : World) : Prop :=
  wr.cell? ⟨P, 0, none⟩ = some (.int .i64 x0) ∧ wr.cell? ⟨P, 1, none⟩ = some (.int .i64 y0) ∧ wr.cell? ⟨P, 2, none⟩ = some (.int .i64 x1) ∧ wr.cell? ⟨P, 3, none⟩ = some (.int .i64 y1) ∧ Hid (SoI W wr l k)
theorem EdS.call {W wr w' : World} {P k : Nat} {l : Value} {x0 y0 x1 y1 : Int} (h : EdS W P l k x0 y0 x1 y1 wr) (hb : Below wr.heap.size wr w') : EdS W P l k x0 y0 x1 y1 w' :=
  ⟨below_cell hb h.1, below_cell hb h.2.1, below_cell hb h.2.2.1, below_cell hb h.2.2.2.1, hide (h.2.2.2.2.out.call hb)⟩
theorem grid_of {p : Acre.Pt} (h : Acre.onGrid p = true) : (-12 ≤ p.1 ∧ p.1 ≤ 12) ∧ (-12 ≤ p.2 ∧ p.2 ≤ 12) := by
  unfold Acre.onGrid at h; simp at h; omega
set_option maxRecDepth 100000 in
set_option maxHeartbeats 2000000 in
theorem strokesOf_any (E : List Acre.Ed) (u : Value) (base : Nat) (W : World) (hE : W.ownsRow base 42 4 u E.length (flatE E)) (hgr : ∀ e ∈ E, Acre.onGrid e.1 = true ∧ Acre.onGrid e.2 = true) (hEl : E.length ≤ 24) :
    Calls Tryz.prog 39 #[u] W fun e w' => ∃ l, e = .returned l ∧ SoI W w' l E.length := by
  obtain ⟨ga, gb, gcap, rfl, hga, hcap⟩ := row_form hE
  go_enter Tryz.func39, Tryz.ntmps39
  go_wp2
  go_loopw [3, 10] (fun l v wr => ∃ k : Nat, v = .int .i64 (k : Nat) ∧ k ≤ E.length ∧ Hid (SoI W wr l k)) (fun _ v _ => E.length - (intOf v).toNat)
  case atStart => exact ⟨0, rfl, Nat.zero_le _, ⟨⟨0, fun _ => (0, (0, 0), (0, 0)), World.ownsRow_nil _ _ _ _, Nat.le_refl _, fun _ => rfl, fun t ht => by omega⟩, Below.refl _ _⟩⟩
  case round =>
    obtain ⟨k, rfl, hk, hr⟩ := hrel
    by_cases hlt : k < E.length
    · obtain rfl := hga (by omega)
      obtain ⟨z0, z1, z2, z3⟩ := rowE_cells hE k hlt
      have q := hgr E[k] (List.getElem_mem hlt)
      obtain ⟨⟨⟨x0, y0⟩, ⟨x1, y1⟩⟩, hEk⟩ : ∃ e, E[k] = e := ⟨_, rfl⟩
      rw [hEk] at z0 z1 z2 z3 q
      dsimp only at z0 z1 z2 z3 q
      have g0 := grid_of q.1
      have g1 := grid_of q.2
      dsimp only at g0 g1
      have y0' := cell_later hr.out.bel z0
      have y1' := cell_later hr.out.bel z1
      have y2' := cell_later hr.out.bel z2
      have y3' := cell_later hr.out.bel z3
      have f0 := ofInt_z (n := x0) (by omega) (by omega)
      have f1 := ofInt_z (n := y0) (by omega) (by omega)
      have f2 := ofInt_z (n := x1) (by omega) (by omega)
      have f3 := ofInt_z (n := y1) (by omega) (by omega)
      have HP1 := hide (fun V => place_any x0 y0 V)
      have HP2 := hide (fun V => place_any x1 y1 V)
      obtain ⟨fx, hfx⟩ : ∃ f, floatOfInt .f64 x0 = f := ⟨_, rfl⟩
      obtain ⟨fy, hfy⟩ : ∃ f, floatOfInt .f64 y0 = f := ⟨_, rfl⟩
      obtain ⟨gx, hgx⟩ : ∃ f, floatOfInt .f64 x1 = f := ⟨_, rfl⟩
      obtain ⟨gy, hgy⟩ : ∃ f, floatOfInt .f64 y1 = f := ⟨_, rfl⟩
      rw [hfx] at f0 HP1
      rw [hfy] at f1 HP1
      rw [hgx] at f2 HP2
      rw [hgy] at f3 HP2
      clear hfx hfy hgx hgy
      have HSk1 := hide (fun h : V fx < V gx => (⟨x0, y0, x1, y1, ⟨f0, f1, f2, f3, g0.1, g0.2, g1.1, g1.2, Rat.intCast_lt_intCast.1 (by rw [← f0.v, ← f2.v]; exact h)⟩⟩ : ∃ a b c d, SkOk (k, (fx, fy), (gx, gy)) a b c d))
      have HSk2 := hide (fun h : V gx < V fx => (⟨x1, y1, x0, y0, ⟨f2, f3, f0, f1, g1.1, g1.2, g0.1, g0.2, Rat.intCast_lt_intCast.1 (by rw [← f0.v, ← f2.v]; exact h)⟩⟩ : ∃ a b c d, SkOk (k, (gx, gy), (fx, fy)) a b c d))
      have HF := hide (md_mono (zn_md (K := 12) f0 (by omega) (by omega)) (show ((12 : Int) : Rat) ≤ 1048576 by decide))
      have HG := hide (md_mono (zn_md (K := 12) f2 (by omega) (by omega)) (show ((12 : Int) : Rat) ≤ 1048576 by decide))
      have HA := hide (fun V => apart_any fx gx V HF.out HG.out)
      have d1 : decide ((k : Int) < (E.length : Int)) = true := decide_eq_true (by omega)
      have d1' : decide (k < E.length) = true := decide_eq_true hlt
      have bk : k ≤ 1000000 := by omega
      have hN4 := Box.new wr [.int .i64 x0, .int .i64 y0, .int .i64 x1, .int .i64 y1] 42
      have hS : EdS W wr.heap.size u3 k x0 y0 x1 y1 (wr.alloc (.cells #[.int .i64 x0, .int .i64 y0, .int .i64 x1, .int .i64 y1] 42)).drew :=
        ⟨hN4.c 0 _ rfl, hN4.c 1 _ rfl, hN4.c 2 _ rfl, hN4.c 3 _ rfl, hide (hr.out.call (Below.drew (Below.alloc (Below.refl _ _) (Nat.le_refl _) _)))⟩
      clear f0 f1 f2 f3 g0 g1 q z0 z1 z2 z3 hEk hE hgr hN4 hr
      go_upto_region 5 with fail
      generalize wr.alloc (.cells #[.int .i64 x0, .int .i64 y0, .int .i64 x1, .int .i64 y1] 42) = WP at *
      generalize wr.heap.size = P at *
      refine wp_region_noPanic ?_
      refine wp_region_held_drew (S := EdS W P u3 k x0 y0 x1 y1) (by kernel_rfl) hS (fun hHeld => ?_)
      refine wpAnyH_take (i := 0) (oi := { dst := some 15, op := Op.indexAddr 42 (Operand.tmp 5) (Operand.const (Value.int IntKind.i64 0)), type := 0, pos := _, after := #[], guard := none }) (v := .pointer (some ⟨P, 0, none⟩)) rfl (by kernel_rfl) (by kernel_rfl) (by kernel_rfl) (fun _ _ _ h => h) (Or.inl ⟨by rfl, ?_⟩) hHeld ?_
      · intro Wx hSw
        obtain ⟨c0, c1, c2, c3, _⟩ := hSw
        clear hHeld hS HP1 HP2 HA HSk1 HSk2 HF HG
        go_simp
      try simp only [Act.put, List.setIfInBounds_toArray, List.set_cons_zero, List.set_cons_succ]
      refine wpAnyH_take (i := 1) (oi := { dst := some 16, op := Op.load 40 (Operand.tmp 15), type := 40, pos := _, after := #[{ on := 0, ground := Ground.data }], guard := none }) (v := .agg #[.int .i64 x0, .int .i64 y0]) rfl (by kernel_rfl) (by kernel_rfl) (by kernel_rfl) (fun _ _ _ h => h) (Or.inl ⟨by rfl, ?_⟩) hHeld ?_
      · intro Wx hSw
        obtain ⟨c0, c1, c2, c3, _⟩ := hSw
        clear hHeld hS HP1 HP2 HA HSk1 HSk2 HF HG
        go_simp
      try simp only [Act.put, List.setIfInBounds_toArray, List.set_cons_zero, List.set_cons_succ]
      refine wpAnyH_take (i := 3) (oi := { dst := some 18, op := Op.indexAddr 42 (Operand.tmp 5) (Operand.const (Value.int IntKind.i64 1)), type := 0, pos := _, after := #[], guard := none }) (v := .pointer (some ⟨P, 2, none⟩)) rfl (by kernel_rfl) (by kernel_rfl) (by kernel_rfl) (fun _ _ _ h => h) (Or.inl ⟨by rfl, ?_⟩) hHeld ?_
      · intro Wx hSw
        obtain ⟨c0, c1, c2, c3, _⟩ := hSw
        clear hHeld hS HP1 HP2 HA HSk1 HSk2 HF HG
        go_simp
      try simp only [Act.put, List.setIfInBounds_toArray, List.set_cons_zero, List.set_cons_succ]
      refine wpAnyH_take (i := 4) (oi := { dst := some 19, op := Op.load 40 (Operand.tmp 18), type := 40, pos := _, after := #[{ on := 3, ground := Ground.data }], guard := none }) (v := .agg #[.int .i64 x1, .int .i64 y1]) rfl (by kernel_rfl) (by kernel_rfl) (by kernel_rfl) (fun _ _ _ h => h) (Or.inl ⟨by rfl, ?_⟩) hHeld ?_
      · intro Wx hSw
        obtain ⟨c0, c1, c2, c3, _⟩ := hSw
        clear hHeld hS HP1 HP2 HA HSk1 HSk2 HF HG
        go_simp
      try simp only [Act.put, List.setIfInBounds_toArray, List.set_cons_zero, List.set_cons_succ]
      refine wpAnyH_ready (rs := [2]) (by kernel_rfl) (by simp) ?_
      refine AllReadyH.cons (o := { dst := some 17, op := Op.call { callee := Callee.value (Operand.func 72), args := #[Operand.tmp 16], argTypes := #[40] }, type := 120, pos := _, after := #[{ on := 1, ground := Ground.data }], guard := none }) rfl (fun K hK => ?_) AllReadyH.nil
      go_simp
      refine (HP1.out _).mono ?_
      rintro e w'' ⟨rfl, hb'⟩
      try go_wp2_with fail
      have hS2 := EdS.call hHeld hb'
      refine hK.out _ _ hS2 (fun hHeld2 => ?_)
      clear hK K hHeld hb' hS2
      have hHeld := hHeld2
      clear hHeld2
      try simp only [Act.put, List.setIfInBounds_toArray, List.set_cons_zero, List.set_cons_succ]
      refine wpAnyH_ready (rs := [5]) (by kernel_rfl) (by simp) ?_
      refine AllReadyH.cons (o := { dst := some 20, op := Op.call { callee := Callee.value (Operand.func 72), args := #[Operand.tmp 19], argTypes := #[40] }, type := 120, pos := _, after := #[{ on := 4, ground := Ground.data }, { on := 2, ground := Ground.chain }], guard := none }) rfl (fun K hK => ?_) AllReadyH.nil
      go_simp
      refine (HP2.out _).mono ?_
      rintro e w'' ⟨rfl, hb'⟩
      try go_wp2_with fail
      have hS2 := EdS.call hHeld hb'
      refine hK.out _ _ hS2 (fun hHeld2 => ?_)
      clear hK K hHeld hb' hS2
      have hHeld := hHeld2
      clear hHeld2
      try simp only [Act.put, List.setIfInBounds_toArray, List.set_cons_zero, List.set_cons_succ]
      refine wpAnyH_take (i := 6) (oi := { dst := some 6, op := Op.assign (Operand.tmp 17), type := 120, pos := _, after := #[{ on := 2, ground := Ground.data }, { on := 5, ground := Ground.chain }, { on := 0, ground := Ground.phase }, { on := 1, ground := Ground.phase }, { on := 2, ground := Ground.phase }, { on := 3, ground := Ground.textOnly Departure.lateStores }, { on := 4, ground := Ground.textOnly Departure.lateStores }, { on := 5, ground := Ground.textOnly Departure.lateStoresUnsure }], guard := none }) (v := .complex .f64 fx fy) rfl (by kernel_rfl) (by kernel_rfl) (by kernel_rfl) (fun _ _ _ h => h) (Or.inl ⟨by rfl, ?_⟩) hHeld ?_
      · intro Wx hSw
        obtain ⟨c0, c1, c2, c3, _⟩ := hSw
        clear hHeld hS HP1 HP2 HA HSk1 HSk2 HF HG
        go_simp
      try simp only [Act.put, List.setIfInBounds_toArray, List.set_cons_zero, List.set_cons_succ]
      refine wpAnyH_take (i := 7) (oi := { dst := some 7, op := Op.assign (Operand.tmp 20), type := 120, pos := _, after := #[{ on := 5, ground := Ground.data }, { on := 6, ground := Ground.chain }, { on := 0, ground := Ground.phase }, { on := 1, ground := Ground.phase }, { on := 2, ground := Ground.phase }, { on := 3, ground := Ground.phase }, { on := 4, ground := Ground.phase }, { on := 5, ground := Ground.phase }, { on := 6, ground := Ground.phase }], guard := none }) (v := .complex .f64 gx gy) rfl (by kernel_rfl) (by kernel_rfl) (by kernel_rfl) (fun _ _ _ h => h) (Or.inl ⟨by rfl, ?_⟩) hHeld ?_
      · intro Wx hSw
        obtain ⟨c0, c1, c2, c3, _⟩ := hSw
        clear hHeld hS HP1 HP2 HA HSk1 HSk2 HF HG
        go_simp
      try simp only [Act.put, List.setIfInBounds_toArray, List.set_cons_zero, List.set_cons_succ]
      refine wpAnyH_done (by kernel_rfl) ?_ _
      refine NoPanic.normal ?_
      obtain ⟨c0, c1, c2, c3, HI⟩ := hHeld
      clear HP1 HP2 hS
      go_wp2_with fail
      refine (HA.out _).mono ?_
      rintro e w9 ⟨k1, rfl, hw9, p1, p2, _⟩
      rw [hw9]
      clear hw9 w9
      by_cases e1 : k1 = -1
      · subst e1
        have HK := hide (HSk1.out (p2 (by omega)))
        clear HSk1 HSk2 p1 p2
        obtain ⟨⟨n, T, o1, o2, o0, o3⟩, hb⟩ := HI.out
        obtain ⟨i1, hi, hz0, hz1, hz2⟩ := info_parts info167
        have hbs := hb.size
        clear c0 c1 c2 c3
        go_upto_region 11 with (first
          | (at_builtin; refine wpList_append_own_at _ rfl _ _ 109 rfl W.heap.size 167 i1 _ 3 40 Tryz.underlying109 hi hz0 hz1 hz2 rfl (by decide) _ _ _ rfl (o1.alloc _) ⟨w''.heap.size, 0, none⟩ 1 1 [.int .i64 (k : Int), .complex .f64 fx fy, .complex .f64 gx gy] rfl rfl (World.news_of_block (cs := #[.int .i64 (k : Int), .complex .f64 fx fy, .complex .f64 gx gy]) (t := 167) (fr := (0, 0)) (heap_alloc_new w'' _)) (by simp [Value.oneCell']) (by unfold maxLen; omega) (by omega) (by simp; omega) ?_; intro v' w1 hown' hgrow hnil hloc)
          | go_in)
        have NI : SoI W w1 v' (k + 1) := by
          refine ⟨⟨n + 1, apS T n (k, (fx, fy), (gx, gy)), ?_, by omega, by omega, fun t ht => ?_⟩, ?_⟩
          · rw [rowS_app]; exact hown'
          · unfold apS
            by_cases e : t = n
            · rw [if_pos e]; exact ⟨by show k < k + 1; omega, HK.out⟩
            · rw [if_neg e]; have := o3 t (by omega); exact ⟨by omega, this.2⟩
          · exact (hb.alloc hbs _).grown hgrow (by simp; omega) (fun c hc => by have := o1.lt c hc; omega)
        have HN : Hid _ := NI
        clear NI hown' hgrow hnil hloc
        go_wp2
        go_roundw
        case rel => exact ⟨k + 1, by go_num, by omega, HN.out⟩
        case measure => simp [intOf]; omega
      · by_cases e2 : k1 = 1
        · subst e2
          have HK := hide (HSk2.out (p1 (by omega)))
          clear HSk1 HSk2 p1 p2
          obtain ⟨⟨n, T, o1, o2, o0, o3⟩, hb⟩ := HI.out
          obtain ⟨i1, hi, hz0, hz1, hz2⟩ := info_parts info167
          have hbs := hb.size
          clear c0 c1 c2 c3
          go_upto_region 11 with (first
            | (at_builtin; refine wpList_append_own_at _ rfl _ _ 109 rfl W.heap.size 167 i1 _ 3 40 Tryz.underlying109 hi hz0 hz1 hz2 rfl (by decide) _ _ _ rfl (o1.alloc _) ⟨w''.heap.size, 0, none⟩ 1 1 [.int .i64 (k : Int), .complex .f64 gx gy, .complex .f64 fx fy] rfl rfl (World.news_of_block (cs := #[.int .i64 (k : Int), .complex .f64 gx gy, .complex .f64 fx fy]) (t := 167) (fr := (0, 0)) (heap_alloc_new w'' _)) (by simp [Value.oneCell']) (by unfold maxLen; omega) (by omega) (by simp; omega) ?_; intro v' w1 hown' hgrow hnil hloc)
            | go_in)
          have NI : SoI W w1 v' (k + 1) := by
            refine ⟨⟨n + 1, apS T n (k, (gx, gy), (fx, fy)), ?_, by omega, by omega, fun t ht => ?_⟩, ?_⟩
            · rw [rowS_app]; exact hown'
            · unfold apS
              by_cases e : t = n
              · rw [if_pos e]; exact ⟨by show k < k + 1; omega, HK.out⟩
              · rw [if_neg e]; have := o3 t (by omega); exact ⟨by omega, this.2⟩
            · exact (hb.alloc hbs _).grown hgrow (by simp; omega) (fun c hc => by have := o1.lt c hc; omega)
          have HN : Hid _ := NI
          clear NI hown' hgrow hnil hloc
          go_wp2
          go_roundw
          case rel => exact ⟨k + 1, by go_num, by omega, HN.out⟩
          case measure => simp [intOf]; omega
        · have dd1 : decide (k1 = -1) = false := decide_eq_false e1
          have dd2 : decide (k1 = 1) = false := decide_eq_false e2
          clear p1 p2 c0 c1 c2 c3
          go_wp2
          go_roundw
          case rel => exact ⟨k + 1, by go_num, by omega, HI.out.next⟩
          case measure => simp [intOf]; omega
    · obtain rfl : k = E.length := by omega
      have HR := hide hr.out
      clear hr hE hgr
      go_wp2
      go_ret
      exact ⟨_, rfl, HR.out⟩
end Go.Proofs.YtkjlkbgdkdcboaaGreatDoor

set_option linter.unusedSimpArgs false
set_option linter.unusedVariables false
namespace Go.Proofs.YtkjlkbgdkdcboaaGreatDoor
open Go.RowKit Go.Maps Fl
attribute [local go_sem ↓] Go.wp_at_zero Go.wp_at_succ
attribute [local go_sem] run_store_complex'
theorem rowX_app2 (X : Nat → Nat × Nat) (n : Nat) (p q : Nat × Nat) : rowX (apX (apX X n p) (n + 1) q) (n + 1 + 1) = rowX X n ++ [cpx p, cpx q] := by
  rw [rowX_app, rowX_app, List.append_assoc]
  rfl
structure EnI (W wr : World) (l : Value) (S : Nat → Sk) (k : Nat) : Prop where
  ex : ∃ m X, m = k + k ∧ wr.ownsRow W.heap.size 120 1 l m (rowX X m) ∧ (k = 0 → l = .slice none 0 0) ∧ ∀ j, j < m → ∃ t, t < k ∧ (X j = (S t).2.1 ∨ X j = (S t).2.2)
  bel : Below W.heap.size W wr
theorem EnI.call {W wr w' : World} {l : Value} {S : Nat → Sk} {k : Nat} (h : EnI W wr l S k) (hb : Below wr.heap.size wr w') : EnI W w' l S k := by
  obtain ⟨m, X, hm, h1, h0, h3⟩ := h.ex
  exact ⟨⟨m, X, hm, row_call h1 hb, h0, h3⟩, below_more h.bel hb⟩
set_option maxRecDepth 100000 in
set_option maxHeartbeats 2000000 in
theorem endsOf_any (base n : Nat) (u : Value) (S : Nat → Sk) (W : World) (h : W.ownsRow base 167 3 u n (rowS S n)) (hn : n ≤ 24) :
    Calls Tryz.prog 40 #[u] W fun e w' => ∃ l, e = .returned l ∧ EnI W w' l S n := by
  obtain ⟨ga, gb, gcap, rfl, hga, hcap⟩ := row_form h
  go_enter Tryz.func40, Tryz.ntmps40
  go_wp2
  go_loopw [3, 8] (fun l v wr => ∃ k : Nat, v = .int .i64 (k : Nat) ∧ k ≤ n ∧ Hid (EnI W wr l S k)) (fun _ v _ => n - (intOf v).toNat)
  case atStart => exact ⟨0, rfl, Nat.zero_le _, ⟨⟨0, fun _ => (0, 0), rfl, World.ownsRow_nil _ _ _ _, fun _ => rfl, fun t ht => by omega⟩, Below.refl _ _⟩⟩
  case round =>
    obtain ⟨k, rfl, hk, hr⟩ := hrel
    by_cases hlt : k < n
    · obtain rfl := hga (by omega)
      obtain ⟨x0, x1, x2⟩ := (SR.mk h).at hlt
      have y0 := cell_later hr.out.bel x0
      have y1 := cell_later hr.out.bel x1
      have y2 := cell_later hr.out.bel x2
      obtain ⟨⟨sn, ⟨sa, sb⟩, ⟨sc, sd⟩⟩, hS⟩ : ∃ s, S k = s := ⟨_, rfl⟩
      rw [hS] at y0 y1 y2
      dsimp only at y0 y1 y2
      have d1 : decide ((k : Int) < (n : Int)) = true := decide_eq_true (by omega)
      have d1' : decide (k < n) = true := decide_eq_true hlt
      have bk : k ≤ 1000000 := by omega
      have HSk := hide hS
      clear x0 x1 x2 hS h
      have HL := hide (hr.out.call (Below.alloc (Below.refl _ _) (Nat.le_refl _) (.cells #[.int .i64 (sn : Int), .complex .f64 sa sb, .complex .f64 sc sd] 167)))
      have hN3 := Box.new wr [.int .i64 (sn : Int), .complex .f64 sa sb, .complex .f64 sc sd] 167
      clear hr
      go_upto_region 5 with fail
      generalize wr.alloc (.cells #[.int .i64 (sn : Int), .complex .f64 sa sb, .complex .f64 sc sd] 167) = WP at *
      have n0 := hN3.c 0 _ rfl
      have n1 := hN3.c 1 _ rfl
      have n2 := hN3.c 2 _ rfl
      clear hN3 y0 y1 y2
      obtain ⟨⟨m, X, hm, o1, o0, o3⟩, hb⟩ := HL.out
      obtain ⟨i1, hi, hz0, hz1, hz2⟩ := info_parts info120
      have hbs := hb.size
      have hmb : m ≤ 48 := by omega
      have Hm := hide hm
      clear hm
      go_upto_region 6 with (first
        | (at_builtin; refine wpList_append_own_at _ rfl _ _ 112 rfl W.heap.size 120 i1 _ 1 16 Tryz.underlying112 hi hz0 hz1 hz2 rfl (by decide) _ _ _ rfl (o1.alloc _) ⟨WP.heap.size, 0, none⟩ 2 2 [.complex .f64 sa sb, .complex .f64 sc sd] rfl rfl (World.news_of_block (cs := #[.complex .f64 sa sb, .complex .f64 sc sd]) (t := 120) (fr := (0, 0)) (heap_alloc_new WP _)) (by simp [Value.oneCell']) (by unfold maxLen; omega) (by omega) (by simp; omega) ?_; intro v' w1 hown' hgrow hnil hloc)
        | go_in)
      have NI : EnI W w1 v' S (k + 1) := by
        have hm := Hm.out
        refine ⟨⟨m + 1 + 1, apX (apX X m (sa, sb)) (m + 1) (sc, sd), by omega, ?_, by omega, fun j hj => ?_⟩, ?_⟩
        · rw [rowX_app2]; exact hown'
        · unfold apX
          by_cases e : j = m + 1
          · rw [if_pos e]; exact ⟨k, by omega, .inr (by rw [HSk.out])⟩
          · rw [if_neg e]
            by_cases e2 : j = m
            · rw [if_pos e2]; exact ⟨k, by omega, .inl (by rw [HSk.out])⟩
            · rw [if_neg e2]
              obtain ⟨t, t1, t2⟩ := o3 j (by omega)
              exact ⟨t, by omega, t2⟩
        · exact (hb.alloc hbs _).grown hgrow (by simp; omega) (fun c hc => by have := o1.lt c hc; omega)
      have HN : Hid _ := NI
      clear NI hown' hgrow hnil hloc n0 n1 n2
      go_wp2
      go_roundw
      case rel => exact ⟨k + 1, by go_num, by omega, HN.out⟩
      case measure => simp [intOf]; omega
    · obtain rfl : k = n := by omega
      have HR := hide hr.out
      clear hr h
      go_wp2
      go_ret
      exact ⟨_, rfl, HR.out⟩
set_option maxRecDepth 100000 in
set_option maxHeartbeats 1000000 in
theorem init_nil (hb : Nat) (W : World) (slot : W.cell? ⟨hb, 0, none⟩ = some (.slice none 0 0)) :
    Calls Tryz.prog 41 #[.iface 115 (.pointer (some ⟨hb, 0, none⟩))] W fun e w' => e = .returned (.tuple #[]) ∧ w' = W := by
  have hm := mLen slot
  go_enter Tryz.func41, Tryz.ntmps41
  go_wp2_with (go_at_call 220; refine (len_any _ _ _ _).mono ?_; rintro e w9 ⟨rfl, hw9⟩; rw [hw9]; clear hw9)
  go_loopw [3] (fun v wr => v = .int .i64 (-1) ∧ wr = W) (fun v _ => 0)
  case atStart => exact ⟨rfl, rfl⟩
  case round =>
    obtain ⟨rfl, rfl⟩ := hrel
    go_wp2
    go_end0
    exact ⟨rfl, rfl⟩
end Go.Proofs.YtkjlkbgdkdcboaaGreatDoor
