import Derived.Test.YtkjlkbgdkdcboaaGreatDoorIns

set_option linter.unusedSimpArgs false
set_option linter.unusedVariables false

set_option linter.unusedSimpArgs false
set_option linter.unusedVariables false
namespace Go.Proofs.YtkjlkbgdkdcboaaGreatDoor
open Go.RowKit Go.Maps Fl
attribute [local go_sem ↓] Go.wp_at_zero Go.wp_at_succ
attribute [local go_sem] run_store_complex'
set_option maxRecDepth 100000 in
set_option maxHeartbeats 2000000 in
theorem symB_any (base g cap N a m b xb x : Nat) (S : Nat → Sk) (W : World) (Ok : Sk → Prop) (HC : CmpOk xb x Ok) (h : SR W base g cap N S) (hok : ∀ t, t < N → Ok (S t)) (hx : W.cell? ⟨xb, 0, none⟩ = some (.float .f64 x)) (hne : xb ≠ g) (ham : a < m) (hma : m ≠ a + 1) (hmb : b = m + 1) (hbN : b ≤ N) (hN : N ≤ 1000000) :
    Calls Tryz.prog 163 #[.slice (some ⟨g, 0, none⟩) N cap, .int .i64 a, .int .i64 m, .int .i64 b, fnV xb] W fun e w' => e = .returned (.tuple #[]) ∧ ∃ T, Rw W w' base g cap N S T := by
  have H0 := hide (Rw.refl h)
  have HCC := hide HC
  have HOk := hide hok
  have HXX := hide hx
  have HNe := hide hne
  clear h HC hok hx hne
  have em : ((m : Int) - (a : Int) == 1) = false := by simp; omega
  have em2 : ¬ (m : Int) - (a : Int) = 1 := by omega
  have eb : (b : Int) - (m : Int) = 1 := by omega
  have b1 : a ≤ 1000000 := by omega
  have b2 : m ≤ 1000000 := by omega
  have b3 : b ≤ 1000000 := by omega
  have Hma := hide ham
  have Hmb := hide hmb
  clear hma hmb ham
  unfold fnV
  go_enter Tryz.func163, Tryz.ntmps163
  go_wp2
  go_loopw [14, 15] (fun v u wr => ∃ i j T, v = .int .i64 (i : Nat) ∧ u = .int .i64 (j : Nat) ∧ (i ≤ j ∧ j ≤ m) ∧ Hid (Rw W wr base g cap N S T)) (fun v u _ => (intOf u).toNat - (intOf v).toNat)
  case atStart => exact ⟨a, m, S, rfl, rfl, ⟨by have := Hma.out; omega, Nat.le_refl _⟩, H0.out⟩
  case round =>
    obtain ⟨i, j, T, rfl, rfl, hij, hr⟩ := hrel
    clear H0
    have b4 : i ≤ 1000000 := by omega
    have b5 : j ≤ 1000000 := by omega
    by_cases hlt : i < j
    · have d1 : decide ((i : Int) < (j : Int)) = true := decide_eq_true (by omega)
      have d1' : decide (i < j) = true := decide_eq_true hlt
      obtain ⟨c, hc⟩ : ∃ c : Nat, c = (i + j) / 2 := ⟨_, rfl⟩
      have ec : ((i : Int) + (j : Int)) / 2 = (c : Int) := by omega
      have bc : i ≤ c ∧ c < j := by omega
      have hPN : m < N := by have := Hmb.out; omega
      have hQN : c < N := by have := Hmb.out; have := Hma.out; omega
      have kP0 : (0 : Int) ≤ ((m : Nat) : Int) := by omega
      have kP1 : ((m : Nat) : Int) < (N : Int) := by omega
      have kQ0 : (0 : Int) ≤ ((c : Nat) : Int) := by omega
      have kQ1 : ((c : Nat) : Int) < (N : Int) := by omega
      have OP : Hid (Ok (T (m))) := hide (by obtain ⟨s, s1, s2⟩ := hr.out.mg (m) hPN; rw [s2]; exact HOk.out s s1)
      have OQ : Hid (Ok (T (c))) := hide (by obtain ⟨s, s1, s2⟩ := hr.out.mg (c) hQN; rw [s2]; exact HOk.out s s1)
      have KS0 := fun V (hV : Rw W V base g cap N S T) => CpS.of (xb := xb) (x := x) hV hPN hQN
      obtain ⟨⟨sp, ⟨spa, spb⟩, ⟨spc, spd⟩⟩, hTp⟩ : ∃ s, T (m) = s := ⟨_, rfl⟩
      obtain ⟨⟨sq, ⟨sqa, sqb⟩, ⟨sqc, sqd⟩⟩, hTq⟩ : ∃ s, T (c) = s := ⟨_, rfl⟩
      rw [hTp, hTq] at KS0
      rw [hTp] at OP
      rw [hTq] at OQ
      have KS := hide KS0
      have hS := KS0 _ (hr.out.call (Below.drew (Below.refl _ _)))
      have HCm := hide (fun V hV => HCC.out V (sp, (spa, spb), (spc, spd)) (sq, (sqa, sqb), (sqc, sqd)) hV OP.out OQ.out)
      unfold skV at HCm
      dsimp only at HCm
      clear KS0 hTp hTq hr OP OQ
      have Hc := hide hc
      clear hc
      go_upto_region 17 with fail
      refine wp_region_noPanic ?_
      refine wp_region_held_drew (S := CpS W base g cap N xb x S T (m) (c) (sp, (spa, spb), (spc, spd)) (sq, (sqa, sqb), (sqc, sqd))) (by kernel_rfl) hS (fun hHeld => ?_)
      refine wpAnyH_take (i := 0) (oi := { dst := some 92, op := Op.move (Operand.tmp 4), type := 174, pos := _, after := #[], guard := none }) (v := .func (.func 124) #[] #[.pointer (some ⟨xb, 0, none⟩)]) rfl (by kernel_rfl) (by kernel_rfl) (by kernel_rfl) (fun _ _ _ h => h) (Or.inl ⟨by rfl, ?_⟩) hHeld ?_
      · intro Wx hSw
        obtain ⟨c0, c1, c2, c3, c4, c5, _⟩ := hSw
        dsimp only at c0 c1 c2 c3 c4 c5
        clear hHeld hS KS HCm HCC HOk HXX HNe
        go_simp
      try simp only [Act.put, List.setIfInBounds_toArray, List.set_cons_zero, List.set_cons_succ]
      refine wpAnyH_take (i := 1) (oi := { dst := some 93, op := Op.move (Operand.tmp 0), type := 109, pos := _, after := #[], guard := none }) (v := (.slice (some ⟨g, 0, none⟩) N cap)) rfl (by kernel_rfl) (by kernel_rfl) (by kernel_rfl) (fun _ _ _ h => h) (Or.inl ⟨by rfl, ?_⟩) hHeld ?_
      · intro Wx hSw
        obtain ⟨c0, c1, c2, c3, c4, c5, _⟩ := hSw
        dsimp only at c0 c1 c2 c3 c4 c5
        clear hHeld hS KS HCm HCC HOk HXX HNe
        go_simp
      try simp only [Act.put, List.setIfInBounds_toArray, List.set_cons_zero, List.set_cons_succ]
      refine wpAnyH_take (i := 2) (oi := { dst := some 94, op := Op.move (Operand.tmp 2), type := 3, pos := _, after := #[], guard := none }) (v := .int .i64 (m : Int)) rfl (by kernel_rfl) (by kernel_rfl) (by kernel_rfl) (fun _ _ _ h => h) (Or.inl ⟨by rfl, ?_⟩) hHeld ?_
      · intro Wx hSw
        obtain ⟨c0, c1, c2, c3, c4, c5, _⟩ := hSw
        dsimp only at c0 c1 c2 c3 c4 c5
        clear hHeld hS KS HCm HCC HOk HXX HNe
        go_simp
      try simp only [Act.put, List.setIfInBounds_toArray, List.set_cons_zero, List.set_cons_succ]
      refine wpAnyH_take (i := 3) (oi := { dst := some 95, op := Op.indexAddr 109 (Operand.tmp 93) (Operand.tmp 94), type := 0, pos := _, after := #[{ on := 1, ground := Ground.data }, { on := 2, ground := Ground.data }], guard := none }) (v := .pointer (some ⟨g, m * 3, none⟩)) rfl (by kernel_rfl) (by kernel_rfl) (by kernel_rfl) (fun _ _ _ h => h) (Or.inl ⟨by rfl, ?_⟩) hHeld ?_
      · intro Wx hSw
        obtain ⟨c0, c1, c2, c3, c4, c5, _⟩ := hSw
        dsimp only at c0 c1 c2 c3 c4 c5
        clear hHeld hS KS HCm HCC HOk HXX HNe
        go_simp
      try simp only [Act.put, List.setIfInBounds_toArray, List.set_cons_zero, List.set_cons_succ]
      refine wpAnyH_take (i := 4) (oi := { dst := some 96, op := Op.load 167 (Operand.tmp 95), type := 167, pos := _, after := #[{ on := 3, ground := Ground.data }], guard := none }) (v := .agg #[.int .i64 (sp : Int), .complex .f64 spa spb, .complex .f64 spc spd]) rfl (by kernel_rfl) (by kernel_rfl) (by kernel_rfl) (fun _ _ _ h => h) (Or.inl ⟨by rfl, ?_⟩) hHeld ?_
      · intro Wx hSw
        obtain ⟨c0, c1, c2, c3, c4, c5, _⟩ := hSw
        dsimp only at c0 c1 c2 c3 c4 c5
        clear hHeld hS KS HCm HCC HOk HXX HNe
        go_simp
      try simp only [Act.put, List.setIfInBounds_toArray, List.set_cons_zero, List.set_cons_succ]
      refine wpAnyH_take (i := 5) (oi := { dst := some 97, op := Op.move (Operand.tmp 0), type := 109, pos := _, after := #[], guard := none }) (v := (.slice (some ⟨g, 0, none⟩) N cap)) rfl (by kernel_rfl) (by kernel_rfl) (by kernel_rfl) (fun _ _ _ h => h) (Or.inl ⟨by rfl, ?_⟩) hHeld ?_
      · intro Wx hSw
        obtain ⟨c0, c1, c2, c3, c4, c5, _⟩ := hSw
        dsimp only at c0 c1 c2 c3 c4 c5
        clear hHeld hS KS HCm HCC HOk HXX HNe
        go_simp
      try simp only [Act.put, List.setIfInBounds_toArray, List.set_cons_zero, List.set_cons_succ]
      refine wpAnyH_take (i := 6) (oi := { dst := some 98, op := Op.move (Operand.tmp 16), type := 3, pos := _, after := #[], guard := none }) (v := .int .i64 (c : Int)) rfl (by kernel_rfl) (by kernel_rfl) (by kernel_rfl) (fun _ _ _ h => h) (Or.inl ⟨by rfl, ?_⟩) hHeld ?_
      · intro Wx hSw
        obtain ⟨c0, c1, c2, c3, c4, c5, _⟩ := hSw
        dsimp only at c0 c1 c2 c3 c4 c5
        clear hHeld hS KS HCm HCC HOk HXX HNe
        go_simp
      try simp only [Act.put, List.setIfInBounds_toArray, List.set_cons_zero, List.set_cons_succ]
      refine wpAnyH_take (i := 7) (oi := { dst := some 99, op := Op.indexAddr 109 (Operand.tmp 97) (Operand.tmp 98), type := 0, pos := _, after := #[{ on := 5, ground := Ground.data }, { on := 6, ground := Ground.data }], guard := none }) (v := .pointer (some ⟨g, c * 3, none⟩)) rfl (by kernel_rfl) (by kernel_rfl) (by kernel_rfl) (fun _ _ _ h => h) (Or.inl ⟨by rfl, ?_⟩) hHeld ?_
      · intro Wx hSw
        obtain ⟨c0, c1, c2, c3, c4, c5, _⟩ := hSw
        dsimp only at c0 c1 c2 c3 c4 c5
        clear hHeld hS KS HCm HCC HOk HXX HNe
        go_simp
      try simp only [Act.put, List.setIfInBounds_toArray, List.set_cons_zero, List.set_cons_succ]
      refine wpAnyH_take (i := 8) (oi := { dst := some 100, op := Op.load 167 (Operand.tmp 99), type := 167, pos := _, after := #[{ on := 7, ground := Ground.data }], guard := none }) (v := .agg #[.int .i64 (sq : Int), .complex .f64 sqa sqb, .complex .f64 sqc sqd]) rfl (by kernel_rfl) (by kernel_rfl) (by kernel_rfl) (fun _ _ _ h => h) (Or.inl ⟨by rfl, ?_⟩) hHeld ?_
      · intro Wx hSw
        obtain ⟨c0, c1, c2, c3, c4, c5, _⟩ := hSw
        dsimp only at c0 c1 c2 c3 c4 c5
        clear hHeld hS KS HCm HCC HOk HXX HNe
        go_simp
      try simp only [Act.put, List.setIfInBounds_toArray, List.set_cons_zero, List.set_cons_succ]
      refine wpAnyH_ready (rs := [9]) (by kernel_rfl) (by simp) ?_
      refine AllReadyH.cons (o := { dst := some 101, op := Op.call { callee := Callee.value (Operand.tmp 92), args := #[Operand.tmp 96, Operand.tmp 100], argTypes := #[167, 167] }, type := 3, pos := _, after := #[{ on := 0, ground := Ground.data }, { on := 4, ground := Ground.data }, { on := 8, ground := Ground.data }], guard := none }) rfl (fun K hK => ?_) AllReadyH.nil
      go_simp
      refine (HCm.out _ (Rw.held (Hid.out hHeld.2.2.2.2.2.2) HXX.out HNe.out)).mono ?_
      rintro e w'' ⟨⟨k, rfl⟩, hb'⟩
      try go_wp2_with fail
      have HR2 := hide (Rw.call (Hid.out hHeld.2.2.2.2.2.2) hb')
      refine hK.out _ _ (KS.out _ HR2.out) (fun hHeld2 => ?_)
      clear hK K hHeld hb'
      have hHeld := hHeld2
      clear hHeld2
      try simp only [Act.put, List.setIfInBounds_toArray, List.set_cons_zero, List.set_cons_succ]
      refine wpAnyH_take (i := 10) (oi := { dst := some 102, op := Op.binOp BinOp.lss 3 (Operand.tmp 101) (Operand.const (Value.int IntKind.i64 0)) 3, type := 4, pos := _, after := #[{ on := 9, ground := Ground.data }], guard := none }) (v := .bool (decide (k < 0))) rfl (by kernel_rfl) (by kernel_rfl) (by kernel_rfl) (fun _ _ _ h => h) (Or.inl ⟨by rfl, ?_⟩) hHeld ?_
      · intro Wx hSw
        obtain ⟨c0, c1, c2, c3, c4, c5, _⟩ := hSw
        dsimp only at c0 c1 c2 c3 c4 c5
        go_simp
      try simp only [Act.put, List.setIfInBounds_toArray, List.set_cons_zero, List.set_cons_succ]
      refine wpAnyH_take (i := 11) (oi := { dst := some 103, op := Op.unOp UnOp.not 4 (Operand.tmp 102), type := 4, pos := _, after := #[{ on := 10, ground := Ground.data }], guard := none }) (v := .bool (!decide (k < 0))) rfl (by kernel_rfl) (by kernel_rfl) (by kernel_rfl) (fun _ _ _ h => h) (Or.inl ⟨by rfl, ?_⟩) hHeld ?_
      · intro Wx hSw
        obtain ⟨c0, c1, c2, c3, c4, c5, _⟩ := hSw
        dsimp only at c0 c1 c2 c3 c4 c5
        go_simp
      try simp only [Act.put, List.setIfInBounds_toArray, List.set_cons_zero, List.set_cons_succ]
      refine wpAnyH_done (by kernel_rfl) ?_ _
      refine NoPanic.normal ?_
      clear hHeld hS KS HCm
      have bc2 : c ≤ 1000000 := by omega
      by_cases hk : k < 0
      · rw [decide_eq_true hk]
        clear hk
        go_wp2
        go_roundw
        case rel => exact ⟨i, c, T, rfl, rfl, ⟨by omega, by omega⟩, HR2.out⟩
        case measure => simp [intOf]; omega
      · rw [decide_eq_false hk]
        clear hk
        go_wp2
        go_roundw
        case rel => exact ⟨c + 1, j, T, by go_num, rfl, ⟨by omega, by omega⟩, HR2.out⟩
        case measure => simp [intOf]; omega
    · have d1 : decide ((i : Int) < (j : Int)) = false := decide_eq_false (by omega)
      have d1' : decide (i < j) = false := decide_eq_false hlt
      have HR0 := hide hr.out
      clear hr
      go_wp2
      go_loopw [17] (fun v wr => ∃ l U, v = .int .i64 (l : Nat) ∧ l ≤ m ∧ Hid (Rw W wr base g cap N S U)) (fun v _ => (intOf v).toNat)
      case atStart => exact ⟨m, T, rfl, Nat.le_refl _, HR0.out⟩
      case round =>
        obtain ⟨l, U, rfl, hl, hr⟩ := hrel
        clear HR0
        have bl : l ≤ 1000000 := by omega
        by_cases hl2 : i < l
        · obtain ⟨q, hq⟩ : ∃ q : Nat, l = q + 1 := ⟨l - 1, by omega⟩
          subst hq
          have d2 : decide ((i : Int) < (q : Int) + 1) = true := decide_eq_true (by omega)
          have d2' : decide (i < q + 1) = true := decide_eq_true hl2
          have hwq : IntKind.i64.wrap (q : Int) = (q : Int) := IntWalk.i64_in _ (by omega)
          have bq : q ≤ 1000000 := by omega
          have hPN : q + 1 < N := by have := Hmb.out; omega
          have hQN : q < N := by omega
          obtain ⟨p0, p1, p2⟩ := hr.out.sr.at hPN
          obtain ⟨q0, q1, q2⟩ := hr.out.sr.at hQN
          have HN := hide (Rw.swap hr.out hPN hQN)
          have fz := fun o => hr.out.sr.row.frozenAt o
          unfold swW at HN
          obtain ⟨⟨sp, ⟨spa, spb⟩, ⟨spc, spd⟩⟩, hTp⟩ : ∃ s, U (q + 1) = s := ⟨_, rfl⟩
          obtain ⟨⟨sq, ⟨sqa, sqb⟩, ⟨sqc, sqd⟩⟩, hTq⟩ : ∃ s, U (q) = s := ⟨_, rfl⟩
          rw [hTp] at p0 p1 p2 HN
          rw [hTq] at q0 q1 q2 HN
          dsimp only at p0 p1 p2 q0 q1 q2 HN
          have fp0 := fz ((q + 1) * 3)
          have fp1 := fz ((q + 1) * 3 + 1)
          have fp2 := fz ((q + 1) * 3 + 2)
          have fq0 := fz ((q) * 3)
          have fq1 := fz ((q) * 3 + 1)
          have fq2 := fz ((q) * 3 + 2)
          have n00 : ¬ (q + 1) * 3 = (q) * 3 := by omega
          have n01 : ¬ (q + 1) * 3 = (q) * 3 + 1 := by omega
          have n02 : ¬ (q + 1) * 3 = (q) * 3 + 2 := by omega
          have n10 : ¬ (q + 1) * 3 + 1 = (q) * 3 := by omega
          have n11 : ¬ (q + 1) * 3 + 1 = (q) * 3 + 1 := by omega
          have n12 : ¬ (q + 1) * 3 + 1 = (q) * 3 + 2 := by omega
          have n20 : ¬ (q + 1) * 3 + 2 = (q) * 3 := by omega
          have n21 : ¬ (q + 1) * 3 + 2 = (q) * 3 + 1 := by omega
          have n22 : ¬ (q + 1) * 3 + 2 = (q) * 3 + 2 := by omega
          have kP0 : (0 : Int) ≤ (q : Int) + 1 := by omega
          have kP1 : (q : Int) + 1 < (N : Int) := by omega
          have kQ0 : (0 : Int) ≤ ((q : Nat) : Int) := by omega
          have kQ1 : ((q : Nat) : Int) < (N : Int) := by omega
          clear fz hr hTp hTq
          go_upto_region 23 with fail
          go_region
          clear p0 p1 p2 q0 q1 q2 fp0 fp1 fp2 fq0 fq1 fq2
          generalize wr' : World.drew _ = V9 at *
          go_wp2
          go_roundw
          case rel => exact ⟨q, _, rfl, by omega, HN.out⟩
          case measure => simp [intOf]; try omega
        · have d2 : decide ((i : Int) < (l : Int)) = false := decide_eq_false (by omega)
          have d2' : decide (i < l) = false := decide_eq_false hl2
          go_wp2
          refine bodyPost_ret (v := .tuple #[]) ?_ rfl ⟨rfl, U, hr.out⟩
          simp [results, Tryz.results163, go_sem]
end Go.Proofs.YtkjlkbgdkdcboaaGreatDoor
