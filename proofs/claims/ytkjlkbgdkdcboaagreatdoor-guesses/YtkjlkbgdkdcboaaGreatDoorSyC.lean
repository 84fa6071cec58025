import Derived.Test.YtkjlkbgdkdcboaaGreatDoorSyA
import Derived.Test.YtkjlkbgdkdcboaaGreatDoorSyB
import Derived.Deep.DeepCutAuto

set_option linter.unusedSimpArgs false
set_option linter.unusedVariables false

set_option linter.unusedSimpArgs false
set_option linter.unusedVariables false
namespace Go.Proofs.YtkjlkbgdkdcboaaGreatDoor
open Go.RowKit Go.Maps Fl
attribute [local go_sem ↓] Go.wp_at_zero Go.wp_at_succ
attribute [local go_sem] run_store_complex'
def SyIH (base g cap N xb x : Nat) (Ok : Sk → Prop) (d : Nat) : Prop := ∀ (a m b : Nat) (S : Nat → Sk) (W : World), SR W base g cap N S → (∀ t, t < N → Ok (S t)) → W.cell? ⟨xb, 0, none⟩ = some (.float .f64 x) → a < m → m < b → b ≤ N → b - a < d →
    Calls Tryz.prog 163 #[.slice (some ⟨g, 0, none⟩) N cap, .int .i64 a, .int .i64 m, .int .i64 b, fnV xb] W fun e w' => e = .returned (.tuple #[]) ∧ ∃ T, Rw W w' base g cap N S T
theorem Rw.ok {W wr : World} {base g cap n : Nat} {S T : Nat → Sk} {Ok : Sk → Prop} (h : Rw W wr base g cap n S T) (hok : ∀ t, t < n → Ok (S t)) : ∀ t, t < n → Ok (T t) := fun t ht => by
  obtain ⟨s, s1, s2⟩ := h.mg t ht
  rw [s2]; exact hok s s1
set_option maxRecDepth 100000 in
set_option maxHeartbeats 2000000 in
theorem symC_any (base g cap N a m b xb x : Nat) (S : Nat → Sk) (W : World) (Ok : Sk → Prop) (HC : CmpOk xb x Ok) (h : SR W base g cap N S) (hok : ∀ t, t < N → Ok (S t)) (hx : W.cell? ⟨xb, 0, none⟩ = some (.float .f64 x)) (hne : xb ≠ g) (ham : a + 1 < m) (hmb : m + 1 < b) (hbN : b ≤ N) (hN : N ≤ 1000000) (IH : SyIH base g cap N xb x Ok (b - a)) :
    Calls Tryz.prog 163 #[.slice (some ⟨g, 0, none⟩) N cap, .int .i64 a, .int .i64 m, .int .i64 b, fnV xb] W fun e w' => e = .returned (.tuple #[]) ∧ ∃ T, Rw W w' base g cap N S T := by
  have H0 := hide (Rw.refl h)
  have HCC := hide HC
  have HOk := hide hok
  have HXX := hide hx
  have HNe := hide hne
  clear h HC hok hx hne
  have HIH := hide IH
  clear IH
  have em : ((m : Int) - (a : Int) == 1) = false := by simp; omega
  have em2 : ¬ (m : Int) - (a : Int) = 1 := by omega
  have eb : ((b : Int) - (m : Int) == 1) = false := by simp; omega
  have eb2 : ¬ (b : Int) - (m : Int) = 1 := by omega
  have b1 : a ≤ 1000000 := by omega
  have b2 : m ≤ 1000000 := by omega
  have b3 : b ≤ 1000000 := by omega
  obtain ⟨md, hmd⟩ : ∃ md : Nat, md = (a + b) / 2 := ⟨_, rfl⟩
  obtain ⟨nn, hnn⟩ : ∃ nn : Nat, nn = md + m := ⟨_, rfl⟩
  obtain ⟨pp, hpp⟩ : ∃ pp : Nat, nn = pp + 1 := ⟨nn - 1, by omega⟩
  have emd : ((a : Int) + (b : Int)) / 2 = (md : Int) := by omega
  have enn : (md : Int) + (m : Int) = (pp : Int) + 1 := by omega
  have b4 : md ≤ 1000000 := by omega
  have b5 : pp ≤ 2000000 := by omega
  obtain ⟨st0, r0, hsr⟩ : ∃ st0 r0 : Nat, (md < m ∧ st0 + b = nn ∧ r0 = md) ∨ (m ≤ md ∧ st0 = a ∧ r0 = m) := by
    by_cases h : md < m
    · exact ⟨nn - b, md, .inl ⟨h, by omega, rfl⟩⟩
    · exact ⟨a, m, .inr ⟨by omega, rfl, rfl⟩⟩
  have G1 := hide (show st0 ≤ r0 ∧ r0 ≤ N ∧ r0 ≤ pp + 1 ∧ pp < N + st0 ∧ a ≤ st0 ∧ a < md ∧ md < b ∧ pp + 1 ≤ b + st0 ∧ (r0 = md ∨ r0 ≤ m) by omega)
  have Hham := hide ham
  have Hhmb := hide hmb
  unfold fnV
  have hwp : IntKind.i64.wrap (pp : Int) = (pp : Int) := IntWalk.i64_in _ (by omega)
  have b6 : st0 ≤ 1000000 := by omega
  have b7 : r0 ≤ 1000000 := by omega
  have HSR := hide hsr
  have Hmd := hide hmd
  have Hnn := hide hnn
  have Hpp := hide hpp
  clear hsr hmd hnn hpp ham hmb
  go_enter Tryz.func163, Tryz.ntmps163
  go_upto_if 140 with fail
  go_cut [20, 21] (fun s r wx => wx = W ∧ s = .int .i64 (st0 : Int) ∧ r = .int .i64 (r0 : Int))
  case first =>
    rcases HSR.out with ⟨h1, h2, h3⟩ | ⟨h1, h2, h3⟩
    · have d1 : (md : Int) < (m : Int) := by omega
      have es : (pp : Int) + 1 - (b : Int) = (st0 : Int) := by have := Hpp.out; omega
      have H3 := hide h3
      clear h2 h3
      go_wp2_with fail
      go_meet
      case rel => exact ⟨rfl, rfl, by rw [H3.out]⟩
    · have d1 : ¬ (md : Int) < (m : Int) := by omega
      have d1' : ¬ md < m := by omega
      have H2 := hide h2
      have H3 := hide h3
      clear h1 h2 h3
      go_wp2_with fail
      go_meet
      case rel => exact ⟨rfl, by rw [H2.out], by rw [H3.out]⟩
  case rest =>
    obtain ⟨hW, rfl, rfl⟩ := hcut
    rw [hW]
    clear HSR hW
    go_wp2
    go_loopw [20, 21] (fun v u wr => ∃ i j T, v = .int .i64 (i : Nat) ∧ u = .int .i64 (j : Nat) ∧ (st0 ≤ i ∧ i ≤ j ∧ j ≤ r0) ∧ Hid (Rw W wr base g cap N S T)) (fun v u _ => (intOf u).toNat - (intOf v).toNat)
    case atStart => exact ⟨st0, r0, S, rfl, rfl, ⟨Nat.le_refl _, G1.out.1, Nat.le_refl _⟩, H0.out⟩
    case round =>
      obtain ⟨i, j, T, rfl, rfl, hij, hr⟩ := hrel
      clear H0
      have b8 : i ≤ 1000000 := by omega
      have b9 : j ≤ 1000000 := by omega
      by_cases hlt : i < j
      · have d1 : decide ((i : Int) < (j : Int)) = true := decide_eq_true (by omega)
        have d1' : decide (i < j) = true := decide_eq_true hlt
        obtain ⟨c, hc⟩ : ∃ c : Nat, c = (i + j) / 2 := ⟨_, rfl⟩
        have ec : ((i : Int) + (j : Int)) / 2 = (c : Int) := by omega
        have bc : i ≤ c ∧ c < j := by omega
        have G := G1.out
        obtain ⟨y, hy⟩ : ∃ y : Nat, y + c = pp := ⟨pp - c, by omega⟩
        have ey : (pp : Int) - (c : Int) = (y : Int) := by omega
        have hwy : IntKind.i64.wrap (y : Int) = (y : Int) := IntWalk.i64_in _ (by omega)
        have hPN : y < N := by omega
        have hQN : c < N := by omega
        have kP0 : (0 : Int) ≤ ((y : Nat) : Int) := by omega
        have kP1 : ((y : Nat) : Int) < (N : Int) := by omega
        have kQ0 : (0 : Int) ≤ ((c : Nat) : Int) := by omega
        have kQ1 : ((c : Nat) : Int) < (N : Int) := by omega
        have OP : Hid (Ok (T (y))) := hide (by obtain ⟨s, s1, s2⟩ := hr.out.mg (y) hPN; rw [s2]; exact HOk.out s s1)
        have OQ : Hid (Ok (T (c))) := hide (by obtain ⟨s, s1, s2⟩ := hr.out.mg (c) hQN; rw [s2]; exact HOk.out s s1)
        have KS0 := fun V (hV : Rw W V base g cap N S T) => CpS.of (xb := xb) (x := x) hV hPN hQN
        obtain ⟨⟨sp, ⟨spa, spb⟩, ⟨spc, spd⟩⟩, hTp⟩ : ∃ s, T (y) = s := ⟨_, rfl⟩
        obtain ⟨⟨sq, ⟨sqa, sqb⟩, ⟨sqc, sqd⟩⟩, hTq⟩ : ∃ s, T (c) = s := ⟨_, rfl⟩
        rw [hTp, hTq] at KS0
        rw [hTp] at OP
        rw [hTq] at OQ
        have KS := hide KS0
        have hS := KS0 _ (hr.out.call (Below.drew (Below.refl _ _)))
        have HCm := hide (fun V hV => HCC.out V (sp, (spa, spb), (spc, spd)) (sq, (sqa, sqb), (sqc, sqd)) hV OP.out OQ.out)
        unfold skV at HCm
        dsimp only at HCm
        clear KS0 hTp hTq hr OP OQ
        have Hc := hide hc
        have Hy := hide hy
        clear hc hy G
        go_upto_region 35 with fail
        refine wp_region_noPanic ?_
        refine wp_region_held_drew (S := CpS W base g cap N xb x S T (y) (c) (sp, (spa, spb), (spc, spd)) (sq, (sqa, sqb), (sqc, sqd))) (by kernel_rfl) hS (fun hHeld => ?_)
        refine wpAnyH_take (i := 0) (oi := { dst := some 158, op := Op.move (Operand.tmp 4), type := 174, pos := _, after := #[], guard := none }) (v := .func (.func 124) #[] #[.pointer (some ⟨xb, 0, none⟩)]) rfl (by kernel_rfl) (by kernel_rfl) (by kernel_rfl) (fun _ _ _ h => h) (Or.inl ⟨by rfl, ?_⟩) hHeld ?_
        · intro Wx hSw
          obtain ⟨c0, c1, c2, c3, c4, c5, _⟩ := hSw
          dsimp only at c0 c1 c2 c3 c4 c5
          clear hHeld hS KS HCm HCC HOk HXX HNe
          go_simp
        try simp only [Act.put, List.setIfInBounds_toArray, List.set_cons_zero, List.set_cons_succ]
        refine wpAnyH_take (i := 1) (oi := { dst := some 159, op := Op.move (Operand.tmp 0), type := 109, pos := _, after := #[], guard := none }) (v := (.slice (some ⟨g, 0, none⟩) N cap)) rfl (by kernel_rfl) (by kernel_rfl) (by kernel_rfl) (fun _ _ _ h => h) (Or.inl ⟨by rfl, ?_⟩) hHeld ?_
        · intro Wx hSw
          obtain ⟨c0, c1, c2, c3, c4, c5, _⟩ := hSw
          dsimp only at c0 c1 c2 c3 c4 c5
          clear hHeld hS KS HCm HCC HOk HXX HNe
          go_simp
        try simp only [Act.put, List.setIfInBounds_toArray, List.set_cons_zero, List.set_cons_succ]
        refine wpAnyH_take (i := 2) (oi := { dst := some 160, op := Op.move (Operand.tmp 22), type := 3, pos := _, after := #[], guard := none }) (v := .int .i64 (pp : Int)) rfl (by kernel_rfl) (by kernel_rfl) (by kernel_rfl) (fun _ _ _ h => h) (Or.inl ⟨by rfl, ?_⟩) hHeld ?_
        · intro Wx hSw
          obtain ⟨c0, c1, c2, c3, c4, c5, _⟩ := hSw
          dsimp only at c0 c1 c2 c3 c4 c5
          clear hHeld hS KS HCm HCC HOk HXX HNe
          go_simp
        try simp only [Act.put, List.setIfInBounds_toArray, List.set_cons_zero, List.set_cons_succ]
        refine wpAnyH_take (i := 3) (oi := { dst := some 161, op := Op.move (Operand.tmp 23), type := 3, pos := _, after := #[], guard := none }) (v := .int .i64 (c : Int)) rfl (by kernel_rfl) (by kernel_rfl) (by kernel_rfl) (fun _ _ _ h => h) (Or.inl ⟨by rfl, ?_⟩) hHeld ?_
        · intro Wx hSw
          obtain ⟨c0, c1, c2, c3, c4, c5, _⟩ := hSw
          dsimp only at c0 c1 c2 c3 c4 c5
          clear hHeld hS KS HCm HCC HOk HXX HNe
          go_simp
        try simp only [Act.put, List.setIfInBounds_toArray, List.set_cons_zero, List.set_cons_succ]
        refine wpAnyH_take (i := 4) (oi := { dst := some 162, op := Op.binOp BinOp.sub 3 (Operand.tmp 160) (Operand.tmp 161) 3, type := 3, pos := _, after := #[{ on := 2, ground := Ground.data }, { on := 3, ground := Ground.data }], guard := none }) (v := .int .i64 (y : Int)) rfl (by kernel_rfl) (by kernel_rfl) (by kernel_rfl) (fun _ _ _ h => h) (Or.inl ⟨by rfl, ?_⟩) hHeld ?_
        · intro Wx hSw
          obtain ⟨c0, c1, c2, c3, c4, c5, _⟩ := hSw
          dsimp only at c0 c1 c2 c3 c4 c5
          clear hHeld hS KS HCm HCC HOk HXX HNe
          go_simp
        try simp only [Act.put, List.setIfInBounds_toArray, List.set_cons_zero, List.set_cons_succ]
        refine wpAnyH_take (i := 5) (oi := { dst := some 163, op := Op.indexAddr 109 (Operand.tmp 159) (Operand.tmp 162), type := 0, pos := _, after := #[{ on := 1, ground := Ground.data }, { on := 4, ground := Ground.data }], guard := none }) (v := .pointer (some ⟨g, y * 3, none⟩)) rfl (by kernel_rfl) (by kernel_rfl) (by kernel_rfl) (fun _ _ _ h => h) (Or.inl ⟨by rfl, ?_⟩) hHeld ?_
        · intro Wx hSw
          obtain ⟨c0, c1, c2, c3, c4, c5, _⟩ := hSw
          dsimp only at c0 c1 c2 c3 c4 c5
          clear hHeld hS KS HCm HCC HOk HXX HNe
          go_simp
        try simp only [Act.put, List.setIfInBounds_toArray, List.set_cons_zero, List.set_cons_succ]
        refine wpAnyH_take (i := 6) (oi := { dst := some 164, op := Op.load 167 (Operand.tmp 163), type := 167, pos := _, after := #[{ on := 5, ground := Ground.data }], guard := none }) (v := .agg #[.int .i64 (sp : Int), .complex .f64 spa spb, .complex .f64 spc spd]) rfl (by kernel_rfl) (by kernel_rfl) (by kernel_rfl) (fun _ _ _ h => h) (Or.inl ⟨by rfl, ?_⟩) hHeld ?_
        · intro Wx hSw
          obtain ⟨c0, c1, c2, c3, c4, c5, _⟩ := hSw
          dsimp only at c0 c1 c2 c3 c4 c5
          clear hHeld hS KS HCm HCC HOk HXX HNe
          go_simp
        try simp only [Act.put, List.setIfInBounds_toArray, List.set_cons_zero, List.set_cons_succ]
        refine wpAnyH_take (i := 7) (oi := { dst := some 165, op := Op.move (Operand.tmp 0), type := 109, pos := _, after := #[], guard := none }) (v := (.slice (some ⟨g, 0, none⟩) N cap)) rfl (by kernel_rfl) (by kernel_rfl) (by kernel_rfl) (fun _ _ _ h => h) (Or.inl ⟨by rfl, ?_⟩) hHeld ?_
        · intro Wx hSw
          obtain ⟨c0, c1, c2, c3, c4, c5, _⟩ := hSw
          dsimp only at c0 c1 c2 c3 c4 c5
          clear hHeld hS KS HCm HCC HOk HXX HNe
          go_simp
        try simp only [Act.put, List.setIfInBounds_toArray, List.set_cons_zero, List.set_cons_succ]
        refine wpAnyH_take (i := 8) (oi := { dst := some 166, op := Op.move (Operand.tmp 23), type := 3, pos := _, after := #[], guard := none }) (v := .int .i64 (c : Int)) rfl (by kernel_rfl) (by kernel_rfl) (by kernel_rfl) (fun _ _ _ h => h) (Or.inl ⟨by rfl, ?_⟩) hHeld ?_
        · intro Wx hSw
          obtain ⟨c0, c1, c2, c3, c4, c5, _⟩ := hSw
          dsimp only at c0 c1 c2 c3 c4 c5
          clear hHeld hS KS HCm HCC HOk HXX HNe
          go_simp
        try simp only [Act.put, List.setIfInBounds_toArray, List.set_cons_zero, List.set_cons_succ]
        refine wpAnyH_take (i := 9) (oi := { dst := some 167, op := Op.indexAddr 109 (Operand.tmp 165) (Operand.tmp 166), type := 0, pos := _, after := #[{ on := 7, ground := Ground.data }, { on := 8, ground := Ground.data }], guard := none }) (v := .pointer (some ⟨g, c * 3, none⟩)) rfl (by kernel_rfl) (by kernel_rfl) (by kernel_rfl) (fun _ _ _ h => h) (Or.inl ⟨by rfl, ?_⟩) hHeld ?_
        · intro Wx hSw
          obtain ⟨c0, c1, c2, c3, c4, c5, _⟩ := hSw
          dsimp only at c0 c1 c2 c3 c4 c5
          clear hHeld hS KS HCm HCC HOk HXX HNe
          go_simp
        try simp only [Act.put, List.setIfInBounds_toArray, List.set_cons_zero, List.set_cons_succ]
        refine wpAnyH_take (i := 10) (oi := { dst := some 168, op := Op.load 167 (Operand.tmp 167), type := 167, pos := _, after := #[{ on := 9, ground := Ground.data }], guard := none }) (v := .agg #[.int .i64 (sq : Int), .complex .f64 sqa sqb, .complex .f64 sqc sqd]) rfl (by kernel_rfl) (by kernel_rfl) (by kernel_rfl) (fun _ _ _ h => h) (Or.inl ⟨by rfl, ?_⟩) hHeld ?_
        · intro Wx hSw
          obtain ⟨c0, c1, c2, c3, c4, c5, _⟩ := hSw
          dsimp only at c0 c1 c2 c3 c4 c5
          clear hHeld hS KS HCm HCC HOk HXX HNe
          go_simp
        try simp only [Act.put, List.setIfInBounds_toArray, List.set_cons_zero, List.set_cons_succ]
        refine wpAnyH_ready (rs := [11]) (by kernel_rfl) (by simp) ?_
        refine AllReadyH.cons (o := { dst := some 169, op := Op.call { callee := Callee.value (Operand.tmp 158), args := #[Operand.tmp 164, Operand.tmp 168], argTypes := #[167, 167] }, type := 3, pos := _, after := #[{ on := 0, ground := Ground.data }, { on := 6, ground := Ground.data }, { on := 10, ground := Ground.data }], guard := none }) rfl (fun K hK => ?_) AllReadyH.nil
        go_simp
        refine (HCm.out _ (Rw.held (Hid.out hHeld.2.2.2.2.2.2) HXX.out HNe.out)).mono ?_
        rintro e w'' ⟨⟨k, rfl⟩, hb'⟩
        try go_wp2_with fail
        have HR2 := hide (Rw.call (Hid.out hHeld.2.2.2.2.2.2) hb')
        refine hK.out _ _ (KS.out _ HR2.out) (fun hHeld2 => ?_)
        clear hK K hHeld hb'
        have hHeld := hHeld2
        clear hHeld2
        try simp only [Act.put, List.setIfInBounds_toArray, List.set_cons_zero, List.set_cons_succ]
        refine wpAnyH_take (i := 12) (oi := { dst := some 170, op := Op.binOp BinOp.lss 3 (Operand.tmp 169) (Operand.const (Value.int IntKind.i64 0)) 3, type := 4, pos := _, after := #[{ on := 11, ground := Ground.data }], guard := none }) (v := .bool (decide (k < 0))) rfl (by kernel_rfl) (by kernel_rfl) (by kernel_rfl) (fun _ _ _ h => h) (Or.inl ⟨by rfl, ?_⟩) hHeld ?_
        · intro Wx hSw
          obtain ⟨c0, c1, c2, c3, c4, c5, _⟩ := hSw
          dsimp only at c0 c1 c2 c3 c4 c5
          go_simp
        try simp only [Act.put, List.setIfInBounds_toArray, List.set_cons_zero, List.set_cons_succ]
        refine wpAnyH_take (i := 13) (oi := { dst := some 171, op := Op.unOp UnOp.not 4 (Operand.tmp 170), type := 4, pos := _, after := #[{ on := 12, ground := Ground.data }], guard := none }) (v := .bool (!decide (k < 0))) rfl (by kernel_rfl) (by kernel_rfl) (by kernel_rfl) (fun _ _ _ h => h) (Or.inl ⟨by rfl, ?_⟩) hHeld ?_
        · intro Wx hSw
          obtain ⟨c0, c1, c2, c3, c4, c5, _⟩ := hSw
          dsimp only at c0 c1 c2 c3 c4 c5
          go_simp
        try simp only [Act.put, List.setIfInBounds_toArray, List.set_cons_zero, List.set_cons_succ]
        refine wpAnyH_done (by kernel_rfl) ?_ _
        refine NoPanic.normal ?_
        clear hHeld hS KS HCm
        have bc2 : c ≤ 1000000 := by omega
        by_cases hk : k < 0
        · rw [decide_eq_true hk]
          clear hk
          go_wp2
          go_roundw
          case rel => exact ⟨i, c, T, rfl, rfl, ⟨by omega, by omega, by omega⟩, HR2.out⟩
          case measure => simp [intOf]; omega
        · rw [decide_eq_false hk]
          clear hk
          go_wp2
          go_roundw
          case rel => exact ⟨c + 1, j, T, by go_num, rfl, ⟨by omega, by omega, by omega⟩, HR2.out⟩
          case measure => simp [intOf]; omega
      · have d1 : decide ((i : Int) < (j : Int)) = false := decide_eq_false (by omega)
        have d1' : decide (i < j) = false := decide_eq_false hlt
        have G := G1.out
        obtain ⟨en, hen⟩ : ∃ en : Nat, en + i = pp + 1 := ⟨pp + 1 - i, by omega⟩
        have een : (pp : Int) + 1 - (i : Int) = (en : Int) := by omega
        have G2 := hide (show en ≤ b by omega)
        have ben : en ≤ 1000000 := by omega
        have HR0 := hide hr.out
        clear hr hen G
        go_upto_region 39 with fail
        go_cut [185] (fun c wx => wx = wr ∧ c = .bool (decide (i < m) && decide (m < en)))
        case first =>
          by_cases h1 : i < m
          · have e1 : decide ((i : Int) < (m : Int)) = true := decide_eq_true (by omega)
            have e1' : decide (i < m) = true := decide_eq_true h1
            by_cases h2 : m < en
            · have e2 : decide ((m : Int) < (en : Int)) = true := decide_eq_true (by omega)
              have e2' : decide (m < en) = true := decide_eq_true h2
              clear h1 h2
              go_wp2_with fail
              go_meet
              case rel => exact ⟨rfl, by rw [e1', e2']; rfl⟩
            · have e2 : decide ((m : Int) < (en : Int)) = false := decide_eq_false (by omega)
              have e2' : decide (m < en) = false := decide_eq_false h2
              clear h1 h2
              go_wp2_with fail
              go_meet
              case rel => exact ⟨rfl, by rw [e1', e2']; rfl⟩
          · have e1 : decide ((i : Int) < (m : Int)) = false := decide_eq_false (by omega)
            have e1' : decide (i < m) = false := decide_eq_false h1
            clear h1
            go_wp2_with fail
            go_meet
            case rel => exact ⟨rfl, by rw [e1']; rfl⟩
        case rest =>
          obtain ⟨hw, rfl⟩ := hcut
          rw [hw]
          clear hw
          obtain ⟨Bc, hBc⟩ : ∃ Bc, (decide (i < m) && decide (m < en)) = Bc := ⟨_, rfl⟩
          rw [hBc]
          have HBc : Hid (Bc = true → i < m ∧ m < en) := hide (fun h => by rw [h] at hBc; simpa using hBc)
          clear hBc
          go_upto_if 185 with fail
          go_cut [20] (fun s wx => s = .int .i64 (i : Int) ∧ ∃ U, Hid (Rw W wx base g cap N S U))
          case first =>
            cases Bc with
            | true =>
              obtain ⟨h1, h2⟩ := HBc.out rfl
              have HCall := hide (rotate_any base g cap N i m en T _ (fnV xb) HR0.out.sr h1 h2 (by have := G2.out; omega) hN)
              unfold fnV at HCall
              clear h1 h2 HBc
              go_wp2_with fail
              refine HCall.out.mono ?_
              rintro e w2 ⟨rfl, U, hU⟩
              have HU := hide (HR0.out.trans hU)
              clear hU HCall
              go_wp2_with fail
              go_meet
              case rel => exact ⟨rfl, U, HU.out⟩
            | false =>
              clear HBc
              go_wp2_with fail
              go_meet
              case rel => exact ⟨rfl, _, HR0.out⟩
          case rest =>
            obtain ⟨rfl, U1, HU1⟩ := hcut
            clear HBc HR0
            have e0 : True := trivial
            by_cases h1 : a < i
            · by_cases h2 : i < md
              · have HC2 := hide (HIH.out a i md _ _ HU1.out.sr (HU1.out.ok HOk.out) (HU1.out.held HXX.out HNe.out) h1 h2 (by have := G1.out; omega) (by have := G1.out; have := Hham.out; omega))
                unfold fnV at HC2
                have e1 : decide ((a : Int) < (i : Int)) = true := decide_eq_true (by omega)
                have e1' : decide (a < i) = true := decide_eq_true h1
                have e2 : decide ((i : Int) < (md : Int)) = true := decide_eq_true (by omega)
                have e2' : decide (i < md) = true := decide_eq_true h2
                clear h1 h2
                go_wp2_with fail
                refine HC2.out.mono ?_
                rintro e w3 ⟨rfl, U2, hU2⟩
                have HU2 := hide (HU1.out.trans hU2)
                clear hU2 HC2 HU1
                by_cases h3 : md < en
                · by_cases h4 : en < b
                  · have HC3 := hide (HIH.out md en b _ _ HU2.out.sr (HU2.out.ok HOk.out) (HU2.out.held HXX.out HNe.out) h3 h4 (by have := G1.out; omega) (by have := G1.out; have := Hham.out; omega))
                    unfold fnV at HC3
                    have e3 : decide ((md : Int) < (en : Int)) = true := decide_eq_true (by omega)
                    have e3' : decide (md < en) = true := decide_eq_true h3
                    have e4 : decide ((en : Int) < (b : Int)) = true := decide_eq_true (by omega)
                    have e4' : decide (en < b) = true := decide_eq_true h4
                    clear h3 h4
                    go_wp2_with fail
                    refine HC3.out.mono ?_
                    rintro e w4 ⟨rfl, U3, hU3⟩
                    have HF := hide (HU2.out.trans hU3)
                    clear hU3 HC3
                    go_wp2
                    go_end0
                    exact ⟨rfl, _, HF.out⟩
                  · skip
                    have e3 : decide ((md : Int) < (en : Int)) = true := decide_eq_true (by omega)
                    have e3' : decide (md < en) = true := decide_eq_true h3
                    have e4 : decide ((en : Int) < (b : Int)) = false := decide_eq_false (by omega)
                    have e4' : decide (en < b) = false := decide_eq_false h4
                    clear h3 h4
                    go_wp2
                    go_end0
                    exact ⟨rfl, _, HU2.out⟩
                · skip
                  have e3 : decide ((md : Int) < (en : Int)) = false := decide_eq_false (by omega)
                  have e3' : decide (md < en) = false := decide_eq_false h3
                  clear h3
                  go_wp2
                  go_end0
                  exact ⟨rfl, _, HU2.out⟩
              · skip
                have e1 : decide ((a : Int) < (i : Int)) = true := decide_eq_true (by omega)
                have e1' : decide (a < i) = true := decide_eq_true h1
                have e2 : decide ((i : Int) < (md : Int)) = false := decide_eq_false (by omega)
                have e2' : decide (i < md) = false := decide_eq_false h2
                clear h1 h2
                by_cases h3 : md < en
                · by_cases h4 : en < b
                  · have HC3 := hide (HIH.out md en b _ _ HU1.out.sr (HU1.out.ok HOk.out) (HU1.out.held HXX.out HNe.out) h3 h4 (by have := G1.out; omega) (by have := G1.out; have := Hham.out; omega))
                    unfold fnV at HC3
                    have e3 : decide ((md : Int) < (en : Int)) = true := decide_eq_true (by omega)
                    have e3' : decide (md < en) = true := decide_eq_true h3
                    have e4 : decide ((en : Int) < (b : Int)) = true := decide_eq_true (by omega)
                    have e4' : decide (en < b) = true := decide_eq_true h4
                    clear h3 h4
                    go_wp2_with fail
                    refine HC3.out.mono ?_
                    rintro e w4 ⟨rfl, U3, hU3⟩
                    have HF := hide (HU1.out.trans hU3)
                    clear hU3 HC3
                    go_wp2
                    go_end0
                    exact ⟨rfl, _, HF.out⟩
                  · skip
                    have e3 : decide ((md : Int) < (en : Int)) = true := decide_eq_true (by omega)
                    have e3' : decide (md < en) = true := decide_eq_true h3
                    have e4 : decide ((en : Int) < (b : Int)) = false := decide_eq_false (by omega)
                    have e4' : decide (en < b) = false := decide_eq_false h4
                    clear h3 h4
                    go_wp2
                    go_end0
                    exact ⟨rfl, _, HU1.out⟩
                · skip
                  have e3 : decide ((md : Int) < (en : Int)) = false := decide_eq_false (by omega)
                  have e3' : decide (md < en) = false := decide_eq_false h3
                  clear h3
                  go_wp2
                  go_end0
                  exact ⟨rfl, _, HU1.out⟩
            · skip
              have e1 : decide ((a : Int) < (i : Int)) = false := decide_eq_false (by omega)
              have e1' : decide (a < i) = false := decide_eq_false h1
              clear h1
              by_cases h3 : md < en
              · by_cases h4 : en < b
                · have HC3 := hide (HIH.out md en b _ _ HU1.out.sr (HU1.out.ok HOk.out) (HU1.out.held HXX.out HNe.out) h3 h4 (by have := G1.out; omega) (by have := G1.out; have := Hham.out; omega))
                  unfold fnV at HC3
                  have e3 : decide ((md : Int) < (en : Int)) = true := decide_eq_true (by omega)
                  have e3' : decide (md < en) = true := decide_eq_true h3
                  have e4 : decide ((en : Int) < (b : Int)) = true := decide_eq_true (by omega)
                  have e4' : decide (en < b) = true := decide_eq_true h4
                  clear h3 h4
                  go_wp2_with fail
                  refine HC3.out.mono ?_
                  rintro e w4 ⟨rfl, U3, hU3⟩
                  have HF := hide (HU1.out.trans hU3)
                  clear hU3 HC3
                  go_wp2
                  go_end0
                  exact ⟨rfl, _, HF.out⟩
                · skip
                  have e3 : decide ((md : Int) < (en : Int)) = true := decide_eq_true (by omega)
                  have e3' : decide (md < en) = true := decide_eq_true h3
                  have e4 : decide ((en : Int) < (b : Int)) = false := decide_eq_false (by omega)
                  have e4' : decide (en < b) = false := decide_eq_false h4
                  clear h3 h4
                  go_wp2
                  go_end0
                  exact ⟨rfl, _, HU1.out⟩
              · skip
                have e3 : decide ((md : Int) < (en : Int)) = false := decide_eq_false (by omega)
                have e3' : decide (md < en) = false := decide_eq_false h3
                clear h3
                go_wp2
                go_end0
                exact ⟨rfl, _, HU1.out⟩
end Go.Proofs.YtkjlkbgdkdcboaaGreatDoor
