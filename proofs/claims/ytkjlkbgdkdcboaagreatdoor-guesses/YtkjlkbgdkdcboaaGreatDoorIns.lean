import Derived.Test.YtkjlkbgdkdcboaaGreatDoorSA

set_option linter.unusedSimpArgs false
set_option linter.unusedVariables false

set_option linter.unusedSimpArgs false
set_option linter.unusedVariables false
namespace Go.Proofs.YtkjlkbgdkdcboaaGreatDoor
open Go.RowKit Go.Maps Fl
attribute [local go_sem ↓] Go.wp_at_zero Go.wp_at_succ
attribute [local go_sem] run_store_complex'
def CmpOk (xb x : Nat) (Ok : Sk → Prop) : Prop := ∀ (W : World) (s t : Sk), W.cell? ⟨xb, 0, none⟩ = some (.float .f64 x) → Ok s → Ok t → Calls Tryz.prog 124 #[skV s, skV t, .pointer (some ⟨xb, 0, none⟩)] W fun e w' => (∃ k : Int, e = .returned (.int .i64 k)) ∧ Below W.heap.size W w'
def fnV (xb : Nat) : Value := .func (.func 124) #[] #[.pointer (some ⟨xb, 0, none⟩)]
theorem Rw.call {W wr w' : World} {base g cap n : Nat} {S T : Nat → Sk} (h : Rw W wr base g cap n S T) (hb : Below wr.heap.size wr w') : Rw W w' base g cap n S T := by
  have hg := h.sr.base_le
  refine ⟨⟨row_call h.sr.row hb⟩, h.mg, fun B w0 hB h1 => ?_, fun b hb1 hne => ?_, Nat.le_trans h.sz hb.size⟩
  · have h2 := h.bel B w0 hB h1
    exact h2.trans ⟨hb.os, hb.tape, hb.output, hb.size, fun k hk => hb.block k (by omega)⟩
  · rw [hb.block b (Nat.lt_of_lt_of_le hb1 h.sz)]
    exact h.oth b hb1 hne
theorem Rw.held {W wr : World} {base g cap n xb x : Nat} {S T : Nat → Sk} (h : Rw W wr base g cap n S T) (hx : W.cell? ⟨xb, 0, none⟩ = some (.float .f64 x)) (hne : xb ≠ g) : wr.cell? ⟨xb, 0, none⟩ = some (.float .f64 x) := by
  rw [← hx]
  exact World.cell?_of_block (w := W) (a := ⟨xb, 0, none⟩) (h.oth xb (World.block_lt_of_cell? _ _ hx) hne)
def CpS (W : World) (base g cap n xb x : Nat) (S T : Nat → Sk) (p q : Nat) (s t : Sk) (wr : World) : Prop :=
  wr.cell? ⟨g, p * 3, none⟩ = some (.int .i64 (s.1 : Int)) ∧ wr.cell? ⟨g, p * 3 + 1, none⟩ = some (.complex .f64 s.2.1.1 s.2.1.2) ∧ wr.cell? ⟨g, p * 3 + 2, none⟩ = some (.complex .f64 s.2.2.1 s.2.2.2) ∧
  wr.cell? ⟨g, q * 3, none⟩ = some (.int .i64 (t.1 : Int)) ∧ wr.cell? ⟨g, q * 3 + 1, none⟩ = some (.complex .f64 t.2.1.1 t.2.1.2) ∧ wr.cell? ⟨g, q * 3 + 2, none⟩ = some (.complex .f64 t.2.2.1 t.2.2.2) ∧ Hid (Rw W wr base g cap n S T)
theorem CpS.of {W wr : World} {base g cap n xb x p q : Nat} {S T : Nat → Sk} (h : Rw W wr base g cap n S T) (hp : p < n) (hq : q < n) : CpS W base g cap n xb x S T p q (T p) (T q) wr := by
  obtain ⟨a, b, c⟩ := h.sr.at hp
  obtain ⟨d, e, f⟩ := h.sr.at hq
  exact ⟨a, b, c, d, e, f, h⟩
set_option maxRecDepth 100000 in
set_option maxHeartbeats 2000000 in
theorem insort_any (base g cap N a b xb x : Nat) (S : Nat → Sk) (W : World) (Ok : Sk → Prop) (HC : CmpOk xb x Ok) (h : SR W base g cap N S) (hok : ∀ t, t < N → Ok (S t)) (hx : W.cell? ⟨xb, 0, none⟩ = some (.float .f64 x)) (hne : xb ≠ g) (hbN : b ≤ N) (haN : a ≤ N) (hN : N ≤ 1000000) :
    Calls Tryz.prog 162 #[.slice (some ⟨g, 0, none⟩) N cap, .int .i64 a, .int .i64 b, fnV xb] W fun e w' => e = .returned (.tuple #[]) ∧ ∃ T, Rw W w' base g cap N S T := by
  have H0 := hide (Rw.refl h)
  have HCC := hide HC
  have HOk := hide hok
  have HXX := hide hx
  have HNe := hide hne
  clear h HC hok hx hne
  unfold fnV
  go_enter Tryz.func162, Tryz.ntmps162
  go_wp2
  go_loopw [8] (fun v wr => ∃ i T, v = .int .i64 (i : Nat) ∧ i ≤ 1000001 ∧ Hid (Rw W wr base g cap N S T)) (fun v _ => b - (intOf v).toNat)
  case atStart => exact ⟨a + 1, S, by go_num, by omega, H0.out⟩
  case round =>
    obtain ⟨i, T, rfl, hi, hr⟩ := hrel
    clear H0
    by_cases hlt : i < b
    · have d1 : decide ((i : Int) < (b : Int)) = true := decide_eq_true (by omega)
      have d1' : decide (i < b) = true := decide_eq_true hlt
      have HR0 := hide hr.out
      clear hr
      go_wp2
      go_loopw [9] (fun v wr => ∃ j T', v = .int .i64 (j : Nat) ∧ j ≤ i ∧ Hid (Rw W wr base g cap N S T')) (fun v _ => (intOf v).toNat)
      case atStart => exact ⟨i, T, rfl, Nat.le_refl _, HR0.out⟩
      case round =>
        obtain ⟨j, U, rfl, hj, hr⟩ := hrel
        clear HR0
        by_cases haj : a < j
        · obtain ⟨q, hq⟩ : ∃ q : Nat, j = q + 1 := ⟨j - 1, by omega⟩
          subst hq
          have d2 : decide ((a : Int) < (q : Int) + 1) = true := decide_eq_true (by omega)
          have d2' : decide (a < q + 1) = true := decide_eq_true haj
          have hjN : q + 1 < N := by omega
          have hqN : q < N := by omega
          have k1 : (0 : Int) ≤ (q : Int) + 1 := by omega
          have k2 : (q : Int) + 1 < (N : Int) := by omega
          have k3 : (0 : Int) ≤ (q : Int) := by omega
          have k4 : (q : Int) < (N : Int) := by omega
          have bj : q ≤ 1000000 := by omega
          have hwq : IntKind.i64.wrap (q : Int) = (q : Int) := IntWalk.i64_in _ (by omega)
          have Oj : Hid (Ok (U (q + 1))) := hide (by obtain ⟨s, s1, s2⟩ := hr.out.mg (q + 1) hjN; rw [s2]; exact HOk.out s s1)
          have Oq : Hid (Ok (U q)) := hide (by obtain ⟨s, s1, s2⟩ := hr.out.mg q hqN; rw [s2]; exact HOk.out s s1)
          have HSW := hide (fun V (hV : Rw W V base g cap N S U) => Rw.swap hV hjN hqN)
          unfold swW at HSW
          have KS0 := fun V (hV : Rw W V base g cap N S U) => CpS.of (xb := xb) (x := x) hV hjN hqN
          obtain ⟨⟨sp, ⟨spa, spb⟩, ⟨spc, spd⟩⟩, hTp⟩ : ∃ s, U (q + 1) = s := ⟨_, rfl⟩
          obtain ⟨⟨sq, ⟨sqa, sqb⟩, ⟨sqc, sqd⟩⟩, hTq⟩ : ∃ s, U q = s := ⟨_, rfl⟩
          rw [hTp, hTq] at KS0
          rw [hTp] at Oj HSW
          rw [hTq] at Oq HSW
          dsimp only at HSW
          have KS := hide KS0
          have hS := KS0 _ (hr.out.call (Below.drew (Below.refl _ _)))
          have HR1 := hide hr.out
          have HCm := hide (fun V hV => HCC.out V (sp, (spa, spb), (spc, spd)) (sq, (sqa, sqb), (sqc, sqd)) hV Oj.out Oq.out)
          unfold skV at HCm
          dsimp only at HCm
          clear KS0 hTp hTq hr
          go_upto_region 4 with fail
          refine wp_region_noPanic ?_
          refine wp_region_held_drew (S := CpS W base g cap N xb x S U (q + 1) q (sp, (spa, spb), (spc, spd)) (sq, (sqa, sqb), (sqc, sqd))) (by kernel_rfl) hS (fun hHeld => ?_)
          refine wpAnyH_take (i := 0) (oi := { dst := some 18, op := Op.move (Operand.tmp 9), type := 3, pos := _, after := #[], guard := none }) (v := .int .i64 ((q + 1 : Nat) : Int)) rfl (by kernel_rfl) (by kernel_rfl) (by kernel_rfl) (fun _ _ _ h => h) (Or.inl ⟨by rfl, ?_⟩) hHeld ?_
          · intro Wx hSw
            obtain ⟨c0, c1, c2, c3, c4, c5, _⟩ := hSw
            dsimp only at c0 c1 c2 c3 c4 c5
            clear hHeld hS KS HSW HCm HR1 Oj Oq HCC HOk HXX HNe
            go_simp
          try simp only [Act.put, List.setIfInBounds_toArray, List.set_cons_zero, List.set_cons_succ]
          refine wpAnyH_take (i := 1) (oi := { dst := some 19, op := Op.move (Operand.tmp 1), type := 3, pos := _, after := #[], guard := none }) (v := .int .i64 (a : Int)) rfl (by kernel_rfl) (by kernel_rfl) (by kernel_rfl) (fun _ _ _ h => h) (Or.inl ⟨by rfl, ?_⟩) hHeld ?_
          · intro Wx hSw
            obtain ⟨c0, c1, c2, c3, c4, c5, _⟩ := hSw
            dsimp only at c0 c1 c2 c3 c4 c5
            clear hHeld hS KS HSW HCm HR1 Oj Oq HCC HOk HXX HNe
            go_simp
          try simp only [Act.put, List.setIfInBounds_toArray, List.set_cons_zero, List.set_cons_succ]
          refine wpAnyH_take (i := 2) (oi := { dst := some 20, op := Op.binOp BinOp.gtr 3 (Operand.tmp 18) (Operand.tmp 19) 3, type := 4, pos := _, after := #[{ on := 0, ground := Ground.data }, { on := 1, ground := Ground.data }], guard := none }) (v := .bool true) rfl (by kernel_rfl) (by kernel_rfl) (by kernel_rfl) (fun _ _ _ h => h) (Or.inl ⟨by rfl, ?_⟩) hHeld ?_
          · intro Wx hSw
            obtain ⟨c0, c1, c2, c3, c4, c5, _⟩ := hSw
            dsimp only at c0 c1 c2 c3 c4 c5
            clear hHeld hS KS HSW HCm HR1 Oj Oq HCC HOk HXX HNe
            go_simp
          try simp only [Act.put, List.setIfInBounds_toArray, List.set_cons_zero, List.set_cons_succ]
          refine wpAnyH_take (i := 3) (oi := { dst := some 21, op := Op.move (Operand.tmp 20), type := 4, pos := _, after := #[{ on := 2, ground := Ground.data }], guard := none }) (v := .bool true) rfl (by kernel_rfl) (by kernel_rfl) (by kernel_rfl) (fun _ _ _ h => h) (Or.inl ⟨by rfl, ?_⟩) hHeld ?_
          · intro Wx hSw
            obtain ⟨c0, c1, c2, c3, c4, c5, _⟩ := hSw
            dsimp only at c0 c1 c2 c3 c4 c5
            clear hHeld hS KS HSW HCm HR1 Oj Oq HCC HOk HXX HNe
            go_simp
          try simp only [Act.put, List.setIfInBounds_toArray, List.set_cons_zero, List.set_cons_succ]
          refine wpAnyH_take (i := 4) (oi := { dst := some 22, op := Op.move (Operand.tmp 3), type := 174, pos := _, after := #[{ on := 3, ground := Ground.guard }], guard := some (3, true) }) (v := .func (.func 124) #[] #[.pointer (some ⟨xb, 0, none⟩)]) rfl (by kernel_rfl) (by kernel_rfl) (by kernel_rfl) (fun _ _ _ h => h) (Or.inl ⟨by rfl, ?_⟩) hHeld ?_
          · intro Wx hSw
            obtain ⟨c0, c1, c2, c3, c4, c5, _⟩ := hSw
            dsimp only at c0 c1 c2 c3 c4 c5
            clear hHeld hS KS HSW HCm HR1 Oj Oq HCC HOk HXX HNe
            go_simp
          try simp only [Act.put, List.setIfInBounds_toArray, List.set_cons_zero, List.set_cons_succ]
          refine wpAnyH_take (i := 5) (oi := { dst := some 23, op := Op.move (Operand.tmp 0), type := 109, pos := _, after := #[{ on := 3, ground := Ground.guard }], guard := some (3, true) }) (v := (.slice (some ⟨g, 0, none⟩) N cap)) rfl (by kernel_rfl) (by kernel_rfl) (by kernel_rfl) (fun _ _ _ h => h) (Or.inl ⟨by rfl, ?_⟩) hHeld ?_
          · intro Wx hSw
            obtain ⟨c0, c1, c2, c3, c4, c5, _⟩ := hSw
            dsimp only at c0 c1 c2 c3 c4 c5
            clear hHeld hS KS HSW HCm HR1 Oj Oq HCC HOk HXX HNe
            go_simp
          try simp only [Act.put, List.setIfInBounds_toArray, List.set_cons_zero, List.set_cons_succ]
          refine wpAnyH_take (i := 6) (oi := { dst := some 24, op := Op.move (Operand.tmp 9), type := 3, pos := _, after := #[{ on := 3, ground := Ground.guard }], guard := some (3, true) }) (v := .int .i64 ((q + 1 : Nat) : Int)) rfl (by kernel_rfl) (by kernel_rfl) (by kernel_rfl) (fun _ _ _ h => h) (Or.inl ⟨by rfl, ?_⟩) hHeld ?_
          · intro Wx hSw
            obtain ⟨c0, c1, c2, c3, c4, c5, _⟩ := hSw
            dsimp only at c0 c1 c2 c3 c4 c5
            clear hHeld hS KS HSW HCm HR1 Oj Oq HCC HOk HXX HNe
            go_simp
          try simp only [Act.put, List.setIfInBounds_toArray, List.set_cons_zero, List.set_cons_succ]
          refine wpAnyH_take (i := 7) (oi := { dst := some 25, op := Op.indexAddr 109 (Operand.tmp 23) (Operand.tmp 24), type := 0, pos := _, after := #[{ on := 5, ground := Ground.data }, { on := 6, ground := Ground.data }, { on := 3, ground := Ground.guard }], guard := some (3, true) }) (v := .pointer (some ⟨g, (q + 1) * 3, none⟩)) rfl (by kernel_rfl) (by kernel_rfl) (by kernel_rfl) (fun _ _ _ h => h) (Or.inl ⟨by rfl, ?_⟩) hHeld ?_
          · intro Wx hSw
            obtain ⟨c0, c1, c2, c3, c4, c5, _⟩ := hSw
            dsimp only at c0 c1 c2 c3 c4 c5
            clear hHeld hS KS HSW HCm HR1 Oj Oq HCC HOk HXX HNe
            go_simp
          try simp only [Act.put, List.setIfInBounds_toArray, List.set_cons_zero, List.set_cons_succ]
          refine wpAnyH_take (i := 8) (oi := { dst := some 26, op := Op.load 167 (Operand.tmp 25), type := 167, pos := _, after := #[{ on := 7, ground := Ground.data }, { on := 3, ground := Ground.guard }], guard := some (3, true) }) (v := .agg #[.int .i64 (sp : Int), .complex .f64 spa spb, .complex .f64 spc spd]) rfl (by kernel_rfl) (by kernel_rfl) (by kernel_rfl) (fun _ _ _ h => h) (Or.inl ⟨by rfl, ?_⟩) hHeld ?_
          · intro Wx hSw
            obtain ⟨c0, c1, c2, c3, c4, c5, _⟩ := hSw
            dsimp only at c0 c1 c2 c3 c4 c5
            clear hHeld hS KS HSW HCm HR1 Oj Oq HCC HOk HXX HNe
            go_simp
          try simp only [Act.put, List.setIfInBounds_toArray, List.set_cons_zero, List.set_cons_succ]
          refine wpAnyH_take (i := 9) (oi := { dst := some 27, op := Op.move (Operand.tmp 0), type := 109, pos := _, after := #[{ on := 3, ground := Ground.guard }], guard := some (3, true) }) (v := (.slice (some ⟨g, 0, none⟩) N cap)) rfl (by kernel_rfl) (by kernel_rfl) (by kernel_rfl) (fun _ _ _ h => h) (Or.inl ⟨by rfl, ?_⟩) hHeld ?_
          · intro Wx hSw
            obtain ⟨c0, c1, c2, c3, c4, c5, _⟩ := hSw
            dsimp only at c0 c1 c2 c3 c4 c5
            clear hHeld hS KS HSW HCm HR1 Oj Oq HCC HOk HXX HNe
            go_simp
          try simp only [Act.put, List.setIfInBounds_toArray, List.set_cons_zero, List.set_cons_succ]
          refine wpAnyH_take (i := 10) (oi := { dst := some 28, op := Op.move (Operand.tmp 9), type := 3, pos := _, after := #[{ on := 3, ground := Ground.guard }], guard := some (3, true) }) (v := .int .i64 ((q + 1 : Nat) : Int)) rfl (by kernel_rfl) (by kernel_rfl) (by kernel_rfl) (fun _ _ _ h => h) (Or.inl ⟨by rfl, ?_⟩) hHeld ?_
          · intro Wx hSw
            obtain ⟨c0, c1, c2, c3, c4, c5, _⟩ := hSw
            dsimp only at c0 c1 c2 c3 c4 c5
            clear hHeld hS KS HSW HCm HR1 Oj Oq HCC HOk HXX HNe
            go_simp
          try simp only [Act.put, List.setIfInBounds_toArray, List.set_cons_zero, List.set_cons_succ]
          refine wpAnyH_take (i := 11) (oi := { dst := some 29, op := Op.binOp BinOp.sub 3 (Operand.tmp 28) (Operand.const (Value.int IntKind.i64 1)) 3, type := 3, pos := _, after := #[{ on := 10, ground := Ground.data }, { on := 3, ground := Ground.guard }], guard := some (3, true) }) (v := .int .i64 (q : Int)) rfl (by kernel_rfl) (by kernel_rfl) (by kernel_rfl) (fun _ _ _ h => h) (Or.inl ⟨by rfl, ?_⟩) hHeld ?_
          · intro Wx hSw
            obtain ⟨c0, c1, c2, c3, c4, c5, _⟩ := hSw
            dsimp only at c0 c1 c2 c3 c4 c5
            clear hHeld hS KS HSW HCm HR1 Oj Oq HCC HOk HXX HNe
            go_simp
          try simp only [Act.put, List.setIfInBounds_toArray, List.set_cons_zero, List.set_cons_succ]
          refine wpAnyH_take (i := 12) (oi := { dst := some 30, op := Op.indexAddr 109 (Operand.tmp 27) (Operand.tmp 29), type := 0, pos := _, after := #[{ on := 9, ground := Ground.data }, { on := 11, ground := Ground.data }, { on := 3, ground := Ground.guard }], guard := some (3, true) }) (v := .pointer (some ⟨g, q * 3, none⟩)) rfl (by kernel_rfl) (by kernel_rfl) (by kernel_rfl) (fun _ _ _ h => h) (Or.inl ⟨by rfl, ?_⟩) hHeld ?_
          · intro Wx hSw
            obtain ⟨c0, c1, c2, c3, c4, c5, _⟩ := hSw
            dsimp only at c0 c1 c2 c3 c4 c5
            clear hHeld hS KS HSW HCm HR1 Oj Oq HCC HOk HXX HNe
            go_simp
          try simp only [Act.put, List.setIfInBounds_toArray, List.set_cons_zero, List.set_cons_succ]
          refine wpAnyH_take (i := 13) (oi := { dst := some 31, op := Op.load 167 (Operand.tmp 30), type := 167, pos := _, after := #[{ on := 12, ground := Ground.data }, { on := 3, ground := Ground.guard }], guard := some (3, true) }) (v := .agg #[.int .i64 (sq : Int), .complex .f64 sqa sqb, .complex .f64 sqc sqd]) rfl (by kernel_rfl) (by kernel_rfl) (by kernel_rfl) (fun _ _ _ h => h) (Or.inl ⟨by rfl, ?_⟩) hHeld ?_
          · intro Wx hSw
            obtain ⟨c0, c1, c2, c3, c4, c5, _⟩ := hSw
            dsimp only at c0 c1 c2 c3 c4 c5
            clear hHeld hS KS HSW HCm HR1 Oj Oq HCC HOk HXX HNe
            go_simp
          try simp only [Act.put, List.setIfInBounds_toArray, List.set_cons_zero, List.set_cons_succ]
          refine wpAnyH_ready (rs := [14]) (by kernel_rfl) (by simp) ?_
          refine AllReadyH.cons (o := { dst := some 32, op := Op.call { callee := Callee.value (Operand.tmp 22), args := #[Operand.tmp 26, Operand.tmp 31], argTypes := #[167, 167] }, type := 3, pos := _, after := #[{ on := 4, ground := Ground.data }, { on := 8, ground := Ground.data }, { on := 13, ground := Ground.data }, { on := 3, ground := Ground.chain }, { on := 3, ground := Ground.guard }], guard := some (3, true) }) rfl (fun K hK => ?_) AllReadyH.nil
          go_simp
          refine (HCm.out _ (Rw.held (Hid.out hHeld.2.2.2.2.2.2) HXX.out HNe.out)).mono ?_
          rintro e w'' ⟨⟨k, rfl⟩, hb'⟩
          try go_wp2_with fail
          have HR2 := hide (Rw.call (Hid.out hHeld.2.2.2.2.2.2) hb')
          refine hK.out _ _ (KS.out _ HR2.out) (fun hHeld2 => ?_)
          clear hK K hHeld hb'
          have hHeld := hHeld2
          clear hHeld2
          try simp only [Act.put, List.setIfInBounds_toArray, List.set_cons_zero, List.set_cons_succ]
          refine wpAnyH_take (i := 15) (oi := { dst := some 33, op := Op.binOp BinOp.lss 3 (Operand.tmp 32) (Operand.const (Value.int IntKind.i64 0)) 3, type := 4, pos := _, after := #[{ on := 14, ground := Ground.data }, { on := 3, ground := Ground.guard }], guard := some (3, true) }) (v := .bool (decide (k < 0))) rfl (by kernel_rfl) (by kernel_rfl) (by kernel_rfl) (fun _ _ _ h => h) (Or.inl ⟨by rfl, ?_⟩) hHeld ?_
          · intro Wx hSw
            obtain ⟨c0, c1, c2, c3, c4, c5, _⟩ := hSw
            dsimp only at c0 c1 c2 c3 c4 c5
            go_simp
          try simp only [Act.put, List.setIfInBounds_toArray, List.set_cons_zero, List.set_cons_succ]
          refine wpAnyH_take (i := 16) (oi := { dst := some 34, op := Op.pick (Operand.tmp 21) (Operand.tmp 33) (Operand.const (Value.bool false)), type := 4, pos := _, after := #[{ on := 3, ground := Ground.data }, { on := 15, ground := Ground.data }], guard := none }) (v := .bool (decide (k < 0))) rfl (by kernel_rfl) (by kernel_rfl) (by kernel_rfl) (fun _ _ _ h => h) (Or.inl ⟨by rfl, ?_⟩) hHeld ?_
          · intro Wx hSw
            obtain ⟨c0, c1, c2, c3, c4, c5, _⟩ := hSw
            dsimp only at c0 c1 c2 c3 c4 c5
            go_simp
          try simp only [Act.put, List.setIfInBounds_toArray, List.set_cons_zero, List.set_cons_succ]
          refine wpAnyH_done (by kernel_rfl) ?_ _
          refine NoPanic.normal ?_
          by_cases hk : k < 0
          · rw [decide_eq_true hk]
            obtain ⟨p0, p1, p2, q0, q1, q2, _⟩ := hHeld
            dsimp only at p0 p1 p2 q0 q1 q2
            have fz := fun o => HR2.out.sr.row.frozenAt o
            have fp0 := fz ((q + 1) * 3)
            have fp1 := fz ((q + 1) * 3 + 1)
            have fp2 := fz ((q + 1) * 3 + 2)
            have fq0 := fz (q * 3)
            have fq1 := fz (q * 3 + 1)
            have fq2 := fz (q * 3 + 2)
            have n00 : ¬ (q + 1) * 3 = q * 3 := by omega
            have n01 : ¬ (q + 1) * 3 = q * 3 + 1 := by omega
            have n02 : ¬ (q + 1) * 3 = q * 3 + 2 := by omega
            have n10 : ¬ (q + 1) * 3 + 1 = q * 3 := by omega
            have n11 : ¬ (q + 1) * 3 + 1 = q * 3 + 1 := by omega
            have n12 : ¬ (q + 1) * 3 + 1 = q * 3 + 2 := by omega
            have n20 : ¬ (q + 1) * 3 + 2 = q * 3 := by omega
            have n21 : ¬ (q + 1) * 3 + 2 = q * 3 + 1 := by omega
            have n22 : ¬ (q + 1) * 3 + 2 = q * 3 + 2 := by omega
            have HN := hide (HSW.out _ HR2.out)
            clear fz hk hS KS HSW HCm HR1 HR2 Oj Oq
            go_upto_region 6 with fail
            go_region
            clear p0 p1 p2 q0 q1 q2 fp0 fp1 fp2 fq0 fq1 fq2
            generalize wr' : World.drew _ = V9 at *
            go_wp2
            go_roundw
            case rel => exact ⟨q, _, rfl, by omega, HN.out⟩
            case measure => simp [intOf]; try omega
          · rw [decide_eq_false hk]
            clear hk hS KS HSW HCm HR1 Oj Oq hHeld
            go_wp2
            go_roundw
            case rel => exact ⟨i + 1, U, by go_num, by omega, HR2.out⟩
            case measure => simp [intOf]; omega
        · have d2 : decide ((a : Int) < (j : Int)) = false := decide_eq_false (by omega)
          have d2' : decide (a < j) = false := decide_eq_false haj
          go_upto_region 4 with fail
          go_quiet (fail)
          generalize hV : wr.drewN _ = V9
          have HR2 : Hid (Rw W V9 base g cap N S U) := hide (by rw [← hV]; exact hr.out.call (below_drewN (Below.refl _ _) _))
          clear hV hr
          go_wp2
          go_roundw
          case rel => exact ⟨i + 1, U, by go_num, by omega, HR2.out⟩
          case measure => simp [intOf]; omega
    · have d1 : decide ((i : Int) < (b : Int)) = false := decide_eq_false (by omega)
      have d1' : decide (i < b) = false := decide_eq_false hlt
      go_wp2
      go_end0
      exact ⟨rfl, T, hr.out⟩
end Go.Proofs.YtkjlkbgdkdcboaaGreatDoor
