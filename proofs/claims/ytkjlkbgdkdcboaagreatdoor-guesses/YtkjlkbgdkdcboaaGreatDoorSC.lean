import Derived.Test.YtkjlkbgdkdcboaaGreatDoorSB

set_option linter.unusedSimpArgs false
set_option linter.unusedVariables false

set_option linter.unusedSimpArgs false
set_option linter.unusedVariables false
namespace Go.Proofs.YtkjlkbgdkdcboaaGreatDoor
open Go.RowKit Go.Maps Fl
attribute [local go_sem ↓] Go.wp_at_zero Go.wp_at_succ
theorem cell_three_new (w : World) (x y z : Value) (t : TypeId) : ∀ j u, [x, y, z][j]? = some u → (w.alloc (.cells #[x, y, z] t)).cell? (⟨w.heap.size, j, none⟩ : Addr) = some u := by
  intro j u h
  have hj : j < 3 := by
    have := (List.getElem?_eq_some_iff.1 h).1
    simpa using this
  rcases (show j = 0 ∨ j = 1 ∨ j = 2 by omega) with rfl | rfl | rfl
  all_goals
    simp at h
    subst h
    go_simp
def StS (W : World) (sn sa sb sc sd : Nat) (wr : World) : Prop :=
  wr.cell? ⟨W.heap.size, 0, none⟩ = some (.int .i64 (sn : Int)) ∧ wr.cell? ⟨W.heap.size, 1, none⟩ = some (.complex .f64 sa sb) ∧ wr.cell? ⟨W.heap.size, 2, none⟩ = some (.complex .f64 sc sd) ∧ Hid (Below W.heap.size W wr)
theorem below_cell {wr w' : World} {b o : Nat} {v : Value} (hb : Below wr.heap.size wr w') (h : wr.cell? ⟨b, o, none⟩ = some v) : w'.cell? ⟨b, o, none⟩ = some v := by
  rw [← h]
  exact World.cell?_of_block (w := wr) (a := ⟨b, o, none⟩) (hb.block b (World.block_lt_of_cell? _ _ h))
theorem below_more {W wr w' : World} (h : Below W.heap.size W wr) (hb : Below wr.heap.size wr w') : Below W.heap.size W w' :=
  h.trans ⟨hb.os, hb.tape, hb.output, hb.size, fun k hk => hb.block k (Nat.lt_of_lt_of_le hk h.size)⟩
theorem StS.call {W wr w' : World} {sn sa sb sc sd : Nat} (h : StS W sn sa sb sc sd wr) (hb : Below wr.heap.size wr w') : StS W sn sa sb sc sd w' :=
  ⟨below_cell hb h.1, below_cell hb h.2.1, below_cell hb h.2.2.1, hide (below_more h.2.2.2.out hb)⟩
set_option maxRecDepth 100000 in
set_option maxHeartbeats 2000000 in
theorem sheight_any (s : Sk) (a b c d : Int) (x : Nat) (W : World) (h : SkOk s a b c d) (hx : Md x 24) :
    Calls Tryz.prog 126 #[skV s, .float .f64 x] W fun e w' => ∃ r, e = .returned (.float .f64 r) ∧ Md r 1000 ∧ Below W.heap.size W w' := by
  have hla := h.la
  have hlb := h.lb
  obtain ⟨r1, e1, z1⟩ := sub_md (K := 36) (show Md x ((24 : Int) : Rat) from hx) (zn_md (K := 12) h.ax (by omega) (by omega)) (by omega) (by omega)
  have HM := hide (fun r2 (h2 : Md r2 24) => show ∃ r3 r4, Ieee.double.mul r1 r2 = some r3 ∧ Ieee.double.add s.2.1.2 r3 = some r4 ∧ Md r4 1000 by
    obtain ⟨r3, e3, z3⟩ := mul_md (K := 864) z1 (show Md r2 ((24 : Int) : Rat) from h2) (by omega) (by omega)
    obtain ⟨r4, e4, z4⟩ := add_md (K := 876) (zn_md (K := 12) h.ay (by omega) (by omega)) z3 (by omega) (by omega)
    exact ⟨r3, r4, e3, e4, md_mono z4 (by decide)⟩)
  have HSl := hide (fun V => slope_any s a b c d V h)
  obtain ⟨sn, ⟨sa, sb⟩, ⟨sc, sd⟩⟩ := s
  dsimp only at e1 HM
  have hsub : ∀ w, (binOp .sub 116 (.float .f64 x) (.float .f64 sa)).run Tryz.prog w = .ok (.float .f64 r1) w := fun w => run_float_arith w .sub 116 .f64 x sa r1 e1
  clear e1 z1 h hla hlb hx
  have hS : StS W sn sa sb sc sd (W.alloc (.cells #[.int .i64 (sn : Int), .complex .f64 sa sb, .complex .f64 sc sd] 167)).drew := by
    have c := cell_three_new W (.int .i64 (sn : Int)) (.complex .f64 sa sb) (.complex .f64 sc sd) 167
    exact ⟨c 0 _ rfl, c 1 _ rfl, c 2 _ rfl, hide (Below.drew (Below.alloc (Below.refl _ _) (Nat.le_refl _) _))⟩
  unfold skV at *
  dsimp only at HSl
  go_enter Tryz.func126, Tryz.ntmps126
  go_upto_region 1 with fail
  refine wp_region_noPanic ?_
  refine wp_region_held_drew (S := StS W sn sa sb sc sd) (by kernel_rfl) hS (fun hHeld => ?_)
  refine wpAnyH_take (i := 0) (oi := { dst := some 5, op := Op.fieldAddr 167 (Operand.tmp 2) 1, type := 0, pos := _, after := #[], guard := none }) (v := .pointer (some ⟨W.heap.size, 1, none⟩)) rfl (by kernel_rfl) (by kernel_rfl) (by kernel_rfl) (fun _ _ _ h => h) (Or.inl ⟨by rfl, ?_⟩) hHeld ?_
  · intro Wx hSw
    obtain ⟨c0, c1, c2, _⟩ := hSw
    skip
    clear hHeld hS HSl HM
    go_simp
  try simp only [Act.put, List.setIfInBounds_toArray, List.set_cons_zero, List.set_cons_succ]
  refine wpAnyH_take (i := 1) (oi := { dst := some 6, op := Op.load 120 (Operand.tmp 5), type := 120, pos := _, after := #[{ on := 0, ground := Ground.data }], guard := none }) (v := .complex .f64 sa sb) rfl (by kernel_rfl) (by kernel_rfl) (by kernel_rfl) (fun _ _ _ h => h) (Or.inl ⟨by rfl, ?_⟩) hHeld ?_
  · intro Wx hSw
    obtain ⟨c0, c1, c2, _⟩ := hSw
    skip
    clear hHeld hS HSl HM
    go_simp
  try simp only [Act.put, List.setIfInBounds_toArray, List.set_cons_zero, List.set_cons_succ]
  refine wpAnyH_take (i := 2) (oi := { dst := some 7, op := Op.call { callee := Callee.builtin Builtin.imag, args := #[Operand.tmp 6], argTypes := #[120] }, type := 116, pos := _, after := #[{ on := 1, ground := Ground.data }], guard := none }) (v := .float .f64 sb) rfl (by kernel_rfl) (by kernel_rfl) (by kernel_rfl) (fun _ _ _ h => h) (Or.inl ⟨by rfl, ?_⟩) hHeld ?_
  · intro Wx hSw
    obtain ⟨c0, c1, c2, _⟩ := hSw
    skip
    clear hHeld hS HSl HM
    go_simp
  try simp only [Act.put, List.setIfInBounds_toArray, List.set_cons_zero, List.set_cons_succ]
  refine wpAnyH_take (i := 3) (oi := { dst := some 8, op := Op.move (Operand.tmp 1), type := 116, pos := _, after := #[], guard := none }) (v := .float .f64 x) rfl (by kernel_rfl) (by kernel_rfl) (by kernel_rfl) (fun _ _ _ h => h) (Or.inl ⟨by rfl, ?_⟩) hHeld ?_
  · intro Wx hSw
    obtain ⟨c0, c1, c2, _⟩ := hSw
    skip
    clear hHeld hS HSl HM
    go_simp
  try simp only [Act.put, List.setIfInBounds_toArray, List.set_cons_zero, List.set_cons_succ]
  refine wpAnyH_take (i := 4) (oi := { dst := some 9, op := Op.fieldAddr 167 (Operand.tmp 2) 1, type := 0, pos := _, after := #[], guard := none }) (v := .pointer (some ⟨W.heap.size, 1, none⟩)) rfl (by kernel_rfl) (by kernel_rfl) (by kernel_rfl) (fun _ _ _ h => h) (Or.inl ⟨by rfl, ?_⟩) hHeld ?_
  · intro Wx hSw
    obtain ⟨c0, c1, c2, _⟩ := hSw
    skip
    clear hHeld hS HSl HM
    go_simp
  try simp only [Act.put, List.setIfInBounds_toArray, List.set_cons_zero, List.set_cons_succ]
  refine wpAnyH_take (i := 5) (oi := { dst := some 10, op := Op.load 120 (Operand.tmp 9), type := 120, pos := _, after := #[{ on := 4, ground := Ground.data }], guard := none }) (v := .complex .f64 sa sb) rfl (by kernel_rfl) (by kernel_rfl) (by kernel_rfl) (fun _ _ _ h => h) (Or.inl ⟨by rfl, ?_⟩) hHeld ?_
  · intro Wx hSw
    obtain ⟨c0, c1, c2, _⟩ := hSw
    skip
    clear hHeld hS HSl HM
    go_simp
  try simp only [Act.put, List.setIfInBounds_toArray, List.set_cons_zero, List.set_cons_succ]
  refine wpAnyH_take (i := 6) (oi := { dst := some 11, op := Op.call { callee := Callee.builtin Builtin.real, args := #[Operand.tmp 10], argTypes := #[120] }, type := 116, pos := _, after := #[{ on := 5, ground := Ground.data }], guard := none }) (v := .float .f64 sa) rfl (by kernel_rfl) (by kernel_rfl) (by kernel_rfl) (fun _ _ _ h => h) (Or.inl ⟨by rfl, ?_⟩) hHeld ?_
  · intro Wx hSw
    obtain ⟨c0, c1, c2, _⟩ := hSw
    skip
    clear hHeld hS HSl HM
    go_simp
  try simp only [Act.put, List.setIfInBounds_toArray, List.set_cons_zero, List.set_cons_succ]
  refine wpAnyH_take (i := 7) (oi := { dst := some 12, op := Op.binOp BinOp.sub 116 (Operand.tmp 8) (Operand.tmp 11) 116, type := 116, pos := _, after := #[{ on := 3, ground := Ground.data }, { on := 6, ground := Ground.data }], guard := none }) (v := .float .f64 r1) rfl (by kernel_rfl) (by kernel_rfl) (by kernel_rfl) (fun _ _ _ h => h) (Or.inl ⟨by rfl, ?_⟩) hHeld ?_
  · intro Wx hSw
    obtain ⟨c0, c1, c2, _⟩ := hSw
    skip
    clear hHeld hS HSl HM
    go_simp
  try simp only [Act.put, List.setIfInBounds_toArray, List.set_cons_zero, List.set_cons_succ]
  refine wpAnyH_take (i := 8) (oi := { dst := some 13, op := Op.load 167 (Operand.tmp 2), type := 167, pos := _, after := #[], guard := none }) (v := .agg #[.int .i64 (sn : Int), .complex .f64 sa sb, .complex .f64 sc sd]) rfl (by kernel_rfl) (by kernel_rfl) (by kernel_rfl) (fun _ _ _ h => h) (Or.inl ⟨by rfl, ?_⟩) hHeld ?_
  · intro Wx hSw
    obtain ⟨c0, c1, c2, _⟩ := hSw
    skip
    clear hHeld hS HSl HM
    go_simp
  try simp only [Act.put, List.setIfInBounds_toArray, List.set_cons_zero, List.set_cons_succ]
  refine wpAnyH_ready (rs := [9]) (by kernel_rfl) (by simp) ?_
  refine AllReadyH.cons (o := { dst := some 14, op := Op.call { callee := Callee.value (Operand.func 127), args := #[Operand.tmp 13], argTypes := #[167] }, type := 116, pos := _, after := #[{ on := 8, ground := Ground.data }], guard := none }) rfl (fun K hK => ?_) AllReadyH.nil
  go_simp
  refine (HSl.out _).mono ?_
  rintro e w'' ⟨r2, rfl, m2, hb'⟩
  try go_wp2_with fail
  obtain ⟨r3, r4, e3, e4, m4⟩ := HM.out r2 m2
  have hS2 := StS.call hHeld hb'
  refine hK.out _ _ hS2 (fun hHeld2 => ?_)
  clear hK K hHeld hb' hS2
  have hHeld := hHeld2
  clear hHeld2
  have hmul : ∀ w, (binOp .mul 116 (.float .f64 r1) (.float .f64 r2)).run Tryz.prog w = .ok (.float .f64 r3) w := fun w => run_float_arith w .mul 116 .f64 r1 r2 r3 e3
  have hadd : ∀ w, (binOp .add 116 (.float .f64 sb) (.float .f64 r3)).run Tryz.prog w = .ok (.float .f64 r4) w := fun w => run_float_arith w .add 116 .f64 sb r3 r4 e4
  have HM4 := hide m4
  clear e3 e4 m4 m2
  try simp only [Act.put, List.setIfInBounds_toArray, List.set_cons_zero, List.set_cons_succ]
  refine wpAnyH_take (i := 10) (oi := { dst := some 15, op := Op.binOp BinOp.mul 116 (Operand.tmp 12) (Operand.tmp 14) 116, type := 116, pos := _, after := #[{ on := 7, ground := Ground.data }, { on := 9, ground := Ground.data }], guard := none }) (v := .float .f64 r3) rfl (by kernel_rfl) (by kernel_rfl) (by kernel_rfl) (fun _ _ _ h => h) (Or.inl ⟨by rfl, ?_⟩) hHeld ?_
  · intro Wx hSw
    obtain ⟨c0, c1, c2, _⟩ := hSw
    skip
    go_simp
  try simp only [Act.put, List.setIfInBounds_toArray, List.set_cons_zero, List.set_cons_succ]
  refine wpAnyH_take (i := 11) (oi := { dst := some 16, op := Op.binOp BinOp.add 116 (Operand.tmp 7) (Operand.tmp 15) 116, type := 116, pos := _, after := #[{ on := 2, ground := Ground.data }, { on := 10, ground := Ground.data }], guard := none }) (v := .float .f64 r4) rfl (by kernel_rfl) (by kernel_rfl) (by kernel_rfl) (fun _ _ _ h => h) (Or.inl ⟨by rfl, ?_⟩) hHeld ?_
  · intro Wx hSw
    obtain ⟨c0, c1, c2, _⟩ := hSw
    skip
    go_simp
  try simp only [Act.put, List.setIfInBounds_toArray, List.set_cons_zero, List.set_cons_succ]
  refine wpAnyH_take (i := 12) (oi := { dst := some 4, op := Op.assign (Operand.tmp 16), type := 116, pos := _, after := #[{ on := 11, ground := Ground.data }, { on := 9, ground := Ground.chain }, { on := 0, ground := Ground.phase }, { on := 1, ground := Ground.phase }, { on := 2, ground := Ground.phase }, { on := 3, ground := Ground.phase }, { on := 4, ground := Ground.phase }, { on := 5, ground := Ground.phase }, { on := 6, ground := Ground.phase }, { on := 7, ground := Ground.phase }, { on := 8, ground := Ground.phase }, { on := 9, ground := Ground.phase }, { on := 10, ground := Ground.phase }, { on := 11, ground := Ground.phase }], guard := none }) (v := .float .f64 r4) rfl (by kernel_rfl) (by kernel_rfl) (by kernel_rfl) (fun _ _ _ h => h) (Or.inl ⟨by rfl, ?_⟩) hHeld ?_
  · intro Wx hSw
    obtain ⟨c0, c1, c2, _⟩ := hSw
    skip
    go_simp
  try simp only [Act.put, List.setIfInBounds_toArray, List.set_cons_zero, List.set_cons_succ]
  refine wpAnyH_done (by kernel_rfl) ?_ _
  refine NoPanic.normal ?_
  go_wp2_with fail
  go_ret
  exact ⟨r4, rfl, HM4.out, Hid.out hHeld.2.2.2⟩
end Go.Proofs.YtkjlkbgdkdcboaaGreatDoor

set_option linter.unusedSimpArgs false
set_option linter.unusedVariables false
namespace Go.Proofs.YtkjlkbgdkdcboaaGreatDoor
open Go.RowKit Go.Maps Fl
attribute [local go_sem ↓] Go.wp_at_zero Go.wp_at_succ
set_option maxRecDepth 100000 in
theorem or_any (g : Nat) (k0 k1 : Int) (W : World) (h0 : W.cell? ⟨g, 0, none⟩ = some (.int .i64 k0)) (h1 : W.cell? ⟨g, 1, none⟩ = some (.int .i64 k1)) :
    Calls Tryz.prog 125 #[.slice (some ⟨g, 0, none⟩) 2 2] W fun e w' => (∃ k : Int, e = .returned (.int .i64 k)) ∧ w' = W := by
  go_enter Tryz.func125, Tryz.ntmps125
  go_wp2
  go_loopw [5, 8] (fun _ v wr => ∃ i : Nat, v = .int .i64 (i : Nat) ∧ i ≤ 2 ∧ wr = W) (fun _ v _ => 2 - (intOf v).toNat)
  case atStart => exact ⟨0, rfl, by omega, rfl⟩
  case round =>
    obtain ⟨i, rfl, hi, hw⟩ := hrel
    subst hw
    rcases (show i = 0 ∨ i = 1 ∨ i = 2 by omega) with rfl | rfl | rfl
    · by_cases hz : k0 = 0
      · subst hz
        go_wp2
        go_roundw
        case rel => exact ⟨1, rfl, by omega, by first | rfl | trivial⟩
        case measure => simp [intOf]
      · go_wp2
        go_ret
        exact ⟨⟨_, rfl⟩, by first | rfl | trivial⟩
    · by_cases hz : k1 = 0
      · subst hz
        go_wp2
        go_roundw
        case rel => exact ⟨2, rfl, by omega, by first | rfl | trivial⟩
        case measure => simp [intOf]
      · go_wp2
        go_ret
        exact ⟨⟨_, rfl⟩, by first | rfl | trivial⟩
    · go_wp2
      go_ret
      exact ⟨⟨_, rfl⟩, rfl⟩
end Go.Proofs.YtkjlkbgdkdcboaaGreatDoor

set_option linter.unusedSimpArgs false
set_option linter.unusedVariables false
namespace Go.Proofs.YtkjlkbgdkdcboaaGreatDoor
open Go.RowKit Go.Maps Fl
attribute [local go_sem ↓] Go.wp_at_zero Go.wp_at_succ
def CmS (W : World) (xb x : Nat) (s t : Sk) (wr : World) : Prop :=
  wr.cell? ⟨W.heap.size, 0, none⟩ = some (.int .i64 (s.1 : Int)) ∧ wr.cell? ⟨W.heap.size, 1, none⟩ = some (.complex .f64 s.2.1.1 s.2.1.2) ∧ wr.cell? ⟨W.heap.size, 2, none⟩ = some (.complex .f64 s.2.2.1 s.2.2.2) ∧
  wr.cell? ⟨W.heap.size + 1, 0, none⟩ = some (.int .i64 (t.1 : Int)) ∧ wr.cell? ⟨W.heap.size + 1, 1, none⟩ = some (.complex .f64 t.2.1.1 t.2.1.2) ∧ wr.cell? ⟨W.heap.size + 1, 2, none⟩ = some (.complex .f64 t.2.2.1 t.2.2.2) ∧
  wr.cell? ⟨xb, 0, none⟩ = some (.float .f64 x) ∧ Hid (Below W.heap.size W wr)
theorem CmS.call {W wr w' : World} {xb x : Nat} {s t : Sk} (h : CmS W xb x s t wr) (hb : Below wr.heap.size wr w') : CmS W xb x s t w' :=
  ⟨below_cell hb h.1, below_cell hb h.2.1, below_cell hb h.2.2.1, below_cell hb h.2.2.2.1, below_cell hb h.2.2.2.2.1, below_cell hb h.2.2.2.2.2.1, below_cell hb h.2.2.2.2.2.2.1, hide (below_more h.2.2.2.2.2.2.2.out hb)⟩
set_option maxRecDepth 100000 in
set_option maxHeartbeats 2000000 in
theorem cmp_ok (xb x : Nat) (hx : Md x 24) : CmpOk xb x (fun s => ∃ a b c d, SkOk s a b c d) := by
  rintro W s t hc ⟨a, b, c, d, hs⟩ ⟨a', b', c', d', ht⟩
  have HS := hide (fun V => sheight_any s a b c d x V hs hx)
  have HT := hide (fun V => sheight_any t a' b' c' d' x V ht hx)
  have HSs := hide (fun V => slope_any s a b c d V hs)
  have HTs := hide (fun V => slope_any t a' b' c' d' V ht)
  have HA := hide (fun u v V (h1 : Md u 1048576) (h2 : Md v 1048576) => apart_any u v V h1 h2)
  clear hs ht hx
  have hS : CmS W xb x s t ((W.alloc (.cells #[.int .i64 (s.1 : Int), .complex .f64 s.2.1.1 s.2.1.2, .complex .f64 s.2.2.1 s.2.2.2] 167)).alloc (.cells #[.int .i64 (t.1 : Int), .complex .f64 t.2.1.1 t.2.1.2, .complex .f64 t.2.2.1 t.2.2.2] 167)).drew := by
    have c := cell_three_new W (.int .i64 (s.1 : Int)) (.complex .f64 s.2.1.1 s.2.1.2) (.complex .f64 s.2.2.1 s.2.2.2) 167
    have d := cell_three_new (W.alloc (.cells #[.int .i64 (s.1 : Int), .complex .f64 s.2.1.1 s.2.1.2, .complex .f64 s.2.2.1 s.2.2.2] 167)) (.int .i64 (t.1 : Int)) (.complex .f64 t.2.1.1 t.2.1.2) (.complex .f64 t.2.2.1 t.2.2.2) 167
    have b1 : ∀ (V : World) o, Below V.heap.size V (V.alloc o) := fun V o => Below.alloc (Below.refl _ _) (Nat.le_refl _) o
    have k := fun {b o v} h => below_cell (b := b) (o := o) (v := v) (b1 _ (.cells #[.int .i64 (t.1 : Int), .complex .f64 t.2.1.1 t.2.1.2, .complex .f64 t.2.2.1 t.2.2.2] 167)) (wr := W.alloc (.cells #[.int .i64 (s.1 : Int), .complex .f64 s.2.1.1 s.2.1.2, .complex .f64 s.2.2.1 s.2.2.2] 167)) h
    have e : (W.alloc (.cells #[.int .i64 (s.1 : Int), .complex .f64 s.2.1.1 s.2.1.2, .complex .f64 s.2.2.1 s.2.2.2] 167)).heap.size = W.heap.size + 1 := by simp
    rw [e] at d
    exact ⟨k (c 0 _ rfl), k (c 1 _ rfl), k (c 2 _ rfl), d 0 _ rfl, d 1 _ rfl, d 2 _ rfl, k (below_cell (b1 _ _) hc), hide (Below.drew (below_more (b1 _ _) (b1 _ _)))⟩
  obtain ⟨sn, ⟨sa, sb⟩, ⟨sc, sd⟩⟩ := s
  obtain ⟨tn, ⟨ta, tb⟩, ⟨tc, td⟩⟩ := t
  unfold skV at *
  dsimp only at HS HT HSs HTs hS ⊢
  clear hc
  go_enter Tryz.func124, Tryz.ntmps124
  go_upto_region 1 with fail
  refine wp_region_noPanic ?_
  refine wp_region_held_drew (S := CmS W xb x (sn, (sa, sb), (sc, sd)) (tn, (ta, tb), (tc, td))) (by kernel_rfl) hS (fun hHeld => ?_)
  refine wpAnyH_take (i := 0) (oi := { dst := some 6, op := Op.load 167 (Operand.tmp 3), type := 167, pos := _, after := #[], guard := none }) (v := .agg #[.int .i64 (sn : Int), .complex .f64 sa sb, .complex .f64 sc sd]) rfl (by kernel_rfl) (by kernel_rfl) (by kernel_rfl) (fun _ _ _ h => h) (Or.inl ⟨by rfl, ?_⟩) hHeld ?_
  · intro Wx hSw
    obtain ⟨c0, c1, c2, d0, d1, d2, cx, _⟩ := hSw
    clear hHeld hS HA HS HT HSs HTs
    go_simp
  try simp only [Act.put, List.setIfInBounds_toArray, List.set_cons_zero, List.set_cons_succ]
  refine wpAnyH_take (i := 1) (oi := { dst := some 7, op := Op.load 116 (Operand.tmp 2), type := 116, pos := _, after := #[], guard := none }) (v := .float .f64 x) rfl (by kernel_rfl) (by kernel_rfl) (by kernel_rfl) (fun _ _ _ h => h) (Or.inl ⟨by rfl, ?_⟩) hHeld ?_
  · intro Wx hSw
    obtain ⟨c0, c1, c2, d0, d1, d2, cx, _⟩ := hSw
    clear hHeld hS HA HS HT HSs HTs
    go_simp
  try simp only [Act.put, List.setIfInBounds_toArray, List.set_cons_zero, List.set_cons_succ]
  refine wpAnyH_take (i := 3) (oi := { dst := some 9, op := Op.load 167 (Operand.tmp 4), type := 167, pos := _, after := #[], guard := none }) (v := .agg #[.int .i64 (tn : Int), .complex .f64 ta tb, .complex .f64 tc td]) rfl (by kernel_rfl) (by kernel_rfl) (by kernel_rfl) (fun _ _ _ h => h) (Or.inl ⟨by rfl, ?_⟩) hHeld ?_
  · intro Wx hSw
    obtain ⟨c0, c1, c2, d0, d1, d2, cx, _⟩ := hSw
    clear hHeld hS HA HS HT HSs HTs
    go_simp
  try simp only [Act.put, List.setIfInBounds_toArray, List.set_cons_zero, List.set_cons_succ]
  refine wpAnyH_take (i := 4) (oi := { dst := some 10, op := Op.load 116 (Operand.tmp 2), type := 116, pos := _, after := #[], guard := none }) (v := .float .f64 x) rfl (by kernel_rfl) (by kernel_rfl) (by kernel_rfl) (fun _ _ _ h => h) (Or.inl ⟨by rfl, ?_⟩) hHeld ?_
  · intro Wx hSw
    obtain ⟨c0, c1, c2, d0, d1, d2, cx, _⟩ := hSw
    clear hHeld hS HA HS HT HSs HTs
    go_simp
  try simp only [Act.put, List.setIfInBounds_toArray, List.set_cons_zero, List.set_cons_succ]
  refine wpAnyH_take (i := 7) (oi := { dst := some 13, op := Op.load 167 (Operand.tmp 3), type := 167, pos := _, after := #[], guard := none }) (v := .agg #[.int .i64 (sn : Int), .complex .f64 sa sb, .complex .f64 sc sd]) rfl (by kernel_rfl) (by kernel_rfl) (by kernel_rfl) (fun _ _ _ h => h) (Or.inl ⟨by rfl, ?_⟩) hHeld ?_
  · intro Wx hSw
    obtain ⟨c0, c1, c2, d0, d1, d2, cx, _⟩ := hSw
    clear hHeld hS HA HS HT HSs HTs
    go_simp
  try simp only [Act.put, List.setIfInBounds_toArray, List.set_cons_zero, List.set_cons_succ]
  refine wpAnyH_take (i := 9) (oi := { dst := some 15, op := Op.load 167 (Operand.tmp 4), type := 167, pos := _, after := #[], guard := none }) (v := .agg #[.int .i64 (tn : Int), .complex .f64 ta tb, .complex .f64 tc td]) rfl (by kernel_rfl) (by kernel_rfl) (by kernel_rfl) (fun _ _ _ h => h) (Or.inl ⟨by rfl, ?_⟩) hHeld ?_
  · intro Wx hSw
    obtain ⟨c0, c1, c2, d0, d1, d2, cx, _⟩ := hSw
    clear hHeld hS HA HS HT HSs HTs
    go_simp
  try simp only [Act.put, List.setIfInBounds_toArray, List.set_cons_zero, List.set_cons_succ]
  refine wpAnyH_ready (rs := [2]) (by kernel_rfl) (by simp) ?_
  refine AllReadyH.cons (o := { dst := some 8, op := Op.call { callee := Callee.value (Operand.func 126), args := #[Operand.tmp 6, Operand.tmp 7], argTypes := #[167, 116] }, type := 116, pos := _, after := #[{ on := 0, ground := Ground.data }, { on := 1, ground := Ground.data }], guard := none }) rfl (fun K hK => ?_) AllReadyH.nil
  go_simp
  refine (HS.out _).mono ?_
  rintro e w2 ⟨r2, rfl, m2, hb2⟩
  try go_wp2_with fail
  have hS2 := CmS.call hHeld hb2
  refine hK.out _ _ hS2 (fun hHeld2 => ?_)
  clear hK K hHeld hS2 hb2
  have hHeld := hHeld2
  clear hHeld2
  try simp only [Act.put, List.setIfInBounds_toArray, List.set_cons_zero, List.set_cons_succ]
  refine wpAnyH_ready (rs := [5]) (by kernel_rfl) (by simp) ?_
  refine AllReadyH.cons (o := { dst := some 11, op := Op.call { callee := Callee.value (Operand.func 126), args := #[Operand.tmp 9, Operand.tmp 10], argTypes := #[167, 116] }, type := 116, pos := _, after := #[{ on := 3, ground := Ground.data }, { on := 4, ground := Ground.data }, { on := 2, ground := Ground.chain }], guard := none }) rfl (fun K hK => ?_) AllReadyH.nil
  go_simp
  refine (HT.out _).mono ?_
  rintro e w5 ⟨r5, rfl, m5, hb5⟩
  try go_wp2_with fail
  have hS5 := CmS.call hHeld hb5
  refine hK.out _ _ hS5 (fun hHeld2 => ?_)
  clear hK K hHeld hS5 hb5
  have hHeld := hHeld2
  clear hHeld2
  try simp only [Act.put, List.setIfInBounds_toArray, List.set_cons_zero, List.set_cons_succ]
  refine wpAnyH_ready (rs := [6]) (by kernel_rfl) (by simp) ?_
  refine AllReadyH.cons (o := { dst := some 12, op := Op.call { callee := Callee.value (Operand.func 73), args := #[Operand.tmp 8, Operand.tmp 11], argTypes := #[116, 116] }, type := 3, pos := _, after := #[{ on := 2, ground := Ground.data }, { on := 5, ground := Ground.data }, { on := 5, ground := Ground.chain }], guard := none }) rfl (fun K hK => ?_) AllReadyH.nil
  go_simp
  refine (HA.out r2 r5 _ (md_mono m2 (by decide)) (md_mono m5 (by decide))).mono ?_
  rintro e w6 ⟨k6, rfl, hw6, _⟩
  try go_wp2_with fail
  subst hw6
  have hS6 := hHeld
  refine hK.out _ _ hS6 (fun hHeld2 => ?_)
  clear hK K hHeld hS6
  have hHeld := hHeld2
  clear hHeld2
  try simp only [Act.put, List.setIfInBounds_toArray, List.set_cons_zero, List.set_cons_succ]
  refine wpAnyH_ready (rs := [8]) (by kernel_rfl) (by simp) ?_
  refine AllReadyH.cons (o := { dst := some 14, op := Op.call { callee := Callee.value (Operand.func 127), args := #[Operand.tmp 13], argTypes := #[167] }, type := 116, pos := _, after := #[{ on := 7, ground := Ground.data }, { on := 6, ground := Ground.chain }], guard := none }) rfl (fun K hK => ?_) AllReadyH.nil
  go_simp
  refine (HSs.out _).mono ?_
  rintro e w8 ⟨r8, rfl, m8, hb8⟩
  try go_wp2_with fail
  have hS8 := CmS.call hHeld hb8
  refine hK.out _ _ hS8 (fun hHeld2 => ?_)
  clear hK K hHeld hS8 hb8
  have hHeld := hHeld2
  clear hHeld2
  try simp only [Act.put, List.setIfInBounds_toArray, List.set_cons_zero, List.set_cons_succ]
  refine wpAnyH_ready (rs := [10]) (by kernel_rfl) (by simp) ?_
  refine AllReadyH.cons (o := { dst := some 16, op := Op.call { callee := Callee.value (Operand.func 127), args := #[Operand.tmp 15], argTypes := #[167] }, type := 116, pos := _, after := #[{ on := 9, ground := Ground.data }, { on := 8, ground := Ground.chain }], guard := none }) rfl (fun K hK => ?_) AllReadyH.nil
  go_simp
  refine (HTs.out _).mono ?_
  rintro e w10 ⟨r10, rfl, m10, hb10⟩
  try go_wp2_with fail
  have hS10 := CmS.call hHeld hb10
  refine hK.out _ _ hS10 (fun hHeld2 => ?_)
  clear hK K hHeld hS10 hb10
  have hHeld := hHeld2
  clear hHeld2
  try simp only [Act.put, List.setIfInBounds_toArray, List.set_cons_zero, List.set_cons_succ]
  refine wpAnyH_ready (rs := [11]) (by kernel_rfl) (by simp) ?_
  refine AllReadyH.cons (o := { dst := some 17, op := Op.call { callee := Callee.value (Operand.func 73), args := #[Operand.tmp 14, Operand.tmp 16], argTypes := #[116, 116] }, type := 3, pos := _, after := #[{ on := 8, ground := Ground.data }, { on := 10, ground := Ground.data }, { on := 10, ground := Ground.chain }], guard := none }) rfl (fun K hK => ?_) AllReadyH.nil
  go_simp
  refine (HA.out r8 r10 _ (md_mono m8 (by decide)) (md_mono m10 (by decide))).mono ?_
  rintro e w11 ⟨k11, rfl, hw11, _⟩
  try go_wp2_with fail
  subst hw11
  have hS11 := hHeld
  refine hK.out _ _ hS11 (fun hHeld2 => ?_)
  clear hK K hHeld hS11
  have hHeld := hHeld2
  clear hHeld2
  try simp only [Act.put, List.setIfInBounds_toArray, List.set_cons_zero, List.set_cons_succ]
  refine wpAnyH_ready (rs := [12]) (by kernel_rfl) (by simp) ?_
  refine AllReadyH.cons (o := { dst := some 18, op := Op.buildSlice 227 2 #[(0, Operand.tmp 12), (1, Operand.tmp 17)], type := 227, pos := _, after := #[{ on := 6, ground := Ground.data }, { on := 11, ground := Ground.data }], guard := none }) rfl (fun K hK => ?_) AllReadyH.nil
  go_simp
  have hb12 : Below w11.heap.size w11 (w11.alloc (.cells #[.int .i64 k6, .int .i64 k11] 3)) := Below.alloc (Below.refl _ _) (Nat.le_refl _) _
  have HO := hide (or_any w11.heap.size k6 k11 (w11.alloc (.cells #[.int .i64 k6, .int .i64 k11] 3)) (by go_simp) (by go_simp))
  have hS12 := CmS.call hHeld hb12
  generalize w11.alloc (.cells #[.int .i64 k6, .int .i64 k11] 3) = w12 at *
  refine hK.out _ _ hS12 (fun hHeld2 => ?_)
  clear hK K hHeld hS12 hb12
  have hHeld := hHeld2
  clear hHeld2
  try simp only [Act.put, List.setIfInBounds_toArray, List.set_cons_zero, List.set_cons_succ]
  refine wpAnyH_ready (rs := [13]) (by kernel_rfl) (by simp) ?_
  refine AllReadyH.cons (o := { dst := some 19, op := Op.call { callee := Callee.value (Operand.func 125), args := #[Operand.tmp 18], argTypes := #[227] }, type := 3, pos := _, after := #[{ on := 12, ground := Ground.data }, { on := 11, ground := Ground.chain }], guard := none }) rfl (fun K hK => ?_) AllReadyH.nil
  go_simp
  refine HO.out.mono ?_
  rintro e w13 ⟨⟨k, rfl⟩, hw13⟩
  try go_wp2_with fail
  subst hw13
  refine hK.out _ _ hHeld (fun hHeld2 => ?_)
  clear hK K HO hHeld
  have hHeld := hHeld2
  clear hHeld2
  try simp only [Act.put, List.setIfInBounds_toArray, List.set_cons_zero, List.set_cons_succ]
  refine wpAnyH_take (i := 14) (oi := { dst := some 5, op := Op.assign (Operand.tmp 19), type := 3, pos := _, after := #[{ on := 13, ground := Ground.data }, { on := 13, ground := Ground.chain }, { on := 0, ground := Ground.phase }, { on := 1, ground := Ground.phase }, { on := 2, ground := Ground.phase }, { on := 3, ground := Ground.phase }, { on := 4, ground := Ground.phase }, { on := 5, ground := Ground.phase }, { on := 6, ground := Ground.phase }, { on := 7, ground := Ground.phase }, { on := 8, ground := Ground.phase }, { on := 9, ground := Ground.phase }, { on := 10, ground := Ground.phase }, { on := 11, ground := Ground.phase }, { on := 12, ground := Ground.phase }, { on := 13, ground := Ground.phase }], guard := none }) (v := .int .i64 k) rfl (by kernel_rfl) (by kernel_rfl) (by kernel_rfl) (fun _ _ _ h => h) (Or.inl ⟨by rfl, ?_⟩) hHeld ?_
  · intro Wx hSw
    obtain ⟨c0, c1, c2, d0, d1, d2, cx, _⟩ := hSw
    go_simp
  try simp only [Act.put, List.setIfInBounds_toArray, List.set_cons_zero, List.set_cons_succ]
  refine wpAnyH_done (by kernel_rfl) ?_ _
  refine NoPanic.normal ?_
  go_wp2_with fail
  go_ret
  exact ⟨⟨k, rfl⟩, Hid.out hHeld.2.2.2.2.2.2.2⟩
end Go.Proofs.YtkjlkbgdkdcboaaGreatDoor

set_option linter.unusedSimpArgs false
set_option linter.unusedVariables false
namespace Go.Proofs.YtkjlkbgdkdcboaaGreatDoor
open Go.RowKit Go.Maps Fl
attribute [local go_sem ↓] Go.wp_at_zero Go.wp_at_succ
theorem riseAt_any (x : Nat) (W : World) :
    Calls Tryz.prog 77 #[.float .f64 x] W fun e w' => e = .returned (fnV W.heap.size) ∧ w' = W.alloc (.cells #[.float .f64 x] 116) := by
  go_enter Tryz.func77, Tryz.ntmps77
  go_wp2_with fail
  go_ret
  exact ⟨rfl, rfl⟩
end Go.Proofs.YtkjlkbgdkdcboaaGreatDoor

set_option linter.unusedSimpArgs false
set_option linter.unusedVariables false
namespace Go.Proofs.YtkjlkbgdkdcboaaGreatDoor
open Go.RowKit Go.Maps Fl
attribute [local go_sem ↓] Go.wp_at_zero Go.wp_at_succ
attribute [local go_sem] run_store_complex'
theorem info167 : (Tryz.prog.info? 167).map (fun i => (i.zero, i.size, i.bytes)) = some (some (.agg #[.int .i64 0, .complex .f64 0 0, .complex .f64 0 0]), 3, 40) := by kernel_rfl
def apS (T : Nat → Sk) (n : Nat) (s : Sk) : Nat → Sk := fun t => if t = n then s else T t
theorem rowS_app (T : Nat → Sk) (n : Nat) (s : Sk) : rowS (apS T n s) (n + 1) = rowS T n ++ skL s := by
  rw [rowS_succ, rowS_congr (T := T) (fun t ht => by unfold apS; rw [if_neg (by omega)])]
  unfold apS
  rw [if_pos rfl]
structure LvI (W wr : World) (l : Value) (N : Nat) (S : Nat → Sk) (k : Nat) : Prop where
  ex : ∃ g cap n T, l = .slice (some ⟨g, 0, none⟩) n cap ∧ wr.ownsRow W.heap.size 167 3 l n (rowS T n) ∧ n ≤ k ∧ ∀ t, t < n → ∃ s, s < N ∧ T t = S s
  bel : Below W.heap.size W wr
theorem LvI.alloc {W wr : World} {l : Value} {N k : Nat} {S : Nat → Sk} (h : LvI W wr l N S k) (o : Obj) : LvI W (wr.alloc o) l N S k := by
  obtain ⟨g, cap, n, T, h1, h2, h3, h4⟩ := h.ex
  exact ⟨⟨g, cap, n, T, h1, h2.alloc o, h3, h4⟩, h.bel.alloc h.bel.size o⟩
theorem LvI.next {W wr : World} {l : Value} {N k : Nat} {S : Nat → Sk} (h : LvI W wr l N S k) : LvI W wr l N S (k + 1) := by
  obtain ⟨g, cap, n, T, h1, h2, h3, h4⟩ := h.ex
  exact ⟨⟨g, cap, n, T, h1, h2, by omega, h4⟩, h.bel⟩
set_option maxRecDepth 100000 in
set_option maxHeartbeats 2000000 in
theorem liveAt_any (base0 g0 cap0 N x : Nat) (S : Nat → Sk) (W : World) (h : SR W base0 g0 cap0 N S) (hN : N ≤ 24) (hx : Md x 24) (hok : ∀ t, t < N → ∃ a b c d, SkOk (S t) a b c d) :
    Calls Tryz.prog 43 #[.float .f64 x, .slice (some ⟨g0, 0, none⟩) N cap0] W fun e w' => ∃ g cap n T, e = .returned (.slice (some ⟨g, 0, none⟩) n cap) ∧ SR w' W.heap.size g cap n T ∧ n ≤ N ∧ (∀ t, t < n → ∃ s, s < N ∧ T t = S s) ∧ Below W.heap.size W w' := by
  obtain ⟨i0, hi, hz0, hz1, hz2⟩ := info_parts info167
  obtain ⟨W1, hm, ho, hg⟩ := run_make_own (P := Tryz.prog) W W.heap.size 109 167 i0 _ 3 Tryz.underlying109 hi hz0 hz1 .i64 .i64 N (by rw [hz2]; omega) (by unfold maxLen; omega) (Nat.le_refl _)
  have hb1 : Below W.heap.size W W1 := (Below.refl _ _).grown hg (Nat.le_refl _) (fun c hc => by simp at hc)
  go_enter Tryz.func43, Tryz.ntmps43
  go_wp2
  go_loopw [5, 13] (fun l v wr => ∃ k : Nat, v = .int .i64 (k : Nat) ∧ k ≤ N ∧ Hid (LvI W wr l N S k)) (fun _ v _ => N - (intOf v).toNat)
  case atStart => exact ⟨0, rfl, Nat.zero_le _, ⟨⟨_, _, 0, S, rfl, ho, Nat.le_refl _, fun t ht => by omega⟩, hb1⟩⟩
  case round =>
    obtain ⟨k, rfl, hk, hr⟩ := hrel
    clear ho hg hb1 hm
    by_cases hlt : k < N
    · obtain ⟨x0, x1, x2⟩ := h.at hlt
      have y0 := cell_later hr.out.bel x0
      have y1 := cell_later hr.out.bel x1
      have y2 := cell_later hr.out.bel x2
      obtain ⟨a, b, c, d, hsk⟩ := hok k hlt
      have hla := hsk.la
      have hlc := hsk.lc
      have m1 := md_mono (zn_md (K := 12) hsk.ax (by omega) (by omega)) (show ((12 : Int) : Rat) ≤ 1048576 by decide)
      have m2 := md_mono (zn_md (K := 12) hsk.bx (by omega) (by omega)) (show ((12 : Int) : Rat) ≤ 1048576 by decide)
      obtain ⟨⟨sn, ⟨sa, sb⟩, ⟨sc, sd⟩⟩, hS⟩ : ∃ s, S k = s := ⟨_, rfl⟩
      rw [hS] at y0 y1 y2 m1 m2
      dsimp only at y0 y1 y2 m1 m2
      have hx' := md_mono hx (show (24 : Rat) ≤ 1048576 by decide)
      have HA1 := hide (fun V => apart_any sa x V m1 hx')
      have HA2 := hide (fun V => apart_any sc x V m2 hx')
      have d1 : decide ((k : Int) < (N : Int)) = true := decide_eq_true (by omega)
      have d1' : decide (k < N) = true := decide_eq_true hlt
      have Hh := hide h
      have Hok := hide hok
      have HSk := hide hS
      clear x0 x1 x2 hsk hla hlc m1 m2 hx' hS h hok
      have HL := hide (hr.out.alloc (.cells #[.int .i64 (sn : Int), .complex .f64 sa sb, .complex .f64 sc sd] 167))
      have hN3 := Box.new wr [.int .i64 (sn : Int), .complex .f64 sa sb, .complex .f64 sc sd] 167
      clear hi hz0 hz1 hz2
      go_wp2_with fail
      generalize wr.alloc (.cells #[.int .i64 (sn : Int), .complex .f64 sa sb, .complex .f64 sc sd] 167) = WP at *
      have n0 := hN3.c 0 _ rfl
      have n1 := hN3.c 1 _ rfl
      have n2 := hN3.c 2 _ rfl
      clear hN3 y0 y1 y2 hr
      refine (HA1.out _).mono ?_
      rintro e w9 ⟨k1, rfl, hw9, _⟩
      subst hw9
      by_cases hk1 : k1 ≤ 0
      · have q1 : decide (k1 ≤ 0) = true := decide_eq_true hk1
        go_wp2_with fail
        refine (HA2.out _).mono ?_
        rintro e w9 ⟨k2, rfl, hw9, _⟩
        subst hw9
        by_cases hk2 : 0 < k2
        · have q2 : decide (0 < k2) = true := decide_eq_true hk2
          obtain ⟨⟨g, cap, n, T, rfl, o1, o2, o3⟩, hb⟩ := HL.out
          obtain ⟨i1, hi, hz0, hz1, hz2⟩ := info_parts info167
          have hbs := hb.size
          have hgl := o1.lt g rfl
          go_upto_region 7 with (first
            | (at_builtin; refine wpList_append_own_at _ rfl _ _ 109 rfl W.heap.size 167 i1 _ 3 40 Tryz.underlying109 hi hz0 hz1 hz2 rfl (by decide) _ _ _ rfl (o1.alloc _) ⟨w9.heap.size, 0, none⟩ 1 1 [.int .i64 (sn : Int), .complex .f64 sa sb, .complex .f64 sc sd] rfl rfl (World.news_of_block (cs := #[.int .i64 (sn : Int), .complex .f64 sa sb, .complex .f64 sc sd]) (t := 167) (fr := (0, 0)) (heap_alloc_new w9 _)) (by simp [Value.oneCell']) (by unfold maxLen; omega) (by omega) (by simp; omega) ?_; intro v' w1 hown' hgrow hnil hloc; obtain ⟨g', cap', rfl⟩ := row_succ hown')
            | go_in)
          have NI : LvI W w1 (.slice (some ⟨g', 0, none⟩) (n + 1) cap') N S (k + 1) := by
            refine ⟨⟨g', cap', n + 1, apS T n (sn, (sa, sb), (sc, sd)), rfl, ?_, by omega, fun t ht => ?_⟩, ?_⟩
            · rw [rowS_app]; exact hown'
            · by_cases e : t = n
              · exact ⟨k, by omega, by unfold apS; rw [if_pos e, HSk.out]⟩
              · unfold apS; rw [if_neg e]; exact o3 t (by omega)
            · exact (hb.alloc hbs _).grown hgrow (by simp; omega) (fun c hc => by have := o1.lt c hc; omega)
          have HN : Hid _ := NI
          clear NI hown' hgrow hnil hloc
          go_wp2
          go_roundw
          case rel => exact ⟨k + 1, by go_num, by omega, HN.out⟩
          case measure => simp [intOf]; omega
        · have q2 : decide (0 < k2) = false := decide_eq_false hk2
          go_wp2
          go_roundw
          case rel => exact ⟨k + 1, by go_num, by omega, HL.out.next⟩
          case measure => simp [intOf]; omega
      · have q1 : decide (k1 ≤ 0) = false := decide_eq_false hk1
        go_wp2
        go_roundw
        case rel => exact ⟨k + 1, by go_num, by omega, HL.out.next⟩
        case measure => simp [intOf]; omega
    · obtain rfl : k = N := by omega
      obtain ⟨⟨g, cap, n, T, rfl, o1, o2, o3⟩, hb⟩ := hr.out
      have hlt' := o1.lt g rfl
      have HS := hide (ssort_any W.heap.size g cap n wr.heap.size x T (wr.alloc (.cells #[.float .f64 x] 116)) _ (cmp_ok wr.heap.size x hx) ⟨o1.alloc _⟩ (fun t ht => by obtain ⟨s, s1, s2⟩ := o3 t ht; rw [s2]; exact hok s s1) (by go_simp) (by omega) (by omega))
      have Hb := hide (hb.alloc hb.size (.cells #[.float .f64 x] 116))
      have HO3 := hide o3
      clear hr h hok hb o1 o3 hi hz0 hz1 hz2
      go_wp2_with fail
      refine (riseAt_any x _).mono ?_
      rintro e w9 ⟨rfl, hw9⟩
      rw [hw9]
      clear hw9
      unfold fnV at *
      go_wp2_with fail
      refine HS.out.mono ?_
      rintro e w2 ⟨rfl, T2, hT⟩
      have HT := hide hT
      clear hT HS
      go_wp2
      go_ret
      refine ⟨g, cap, n, T2, rfl, HT.out.sr, o2, fun t ht => ?_, HT.out.bel _ _ (Nat.le_refl _) Hb.out⟩
      obtain ⟨s, s1, s2⟩ := HT.out.mg t ht
      rw [s2]
      exact HO3.out s s1
end Go.Proofs.YtkjlkbgdkdcboaaGreatDoor
