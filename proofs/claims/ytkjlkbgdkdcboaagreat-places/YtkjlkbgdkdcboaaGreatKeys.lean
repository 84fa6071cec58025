import Derived.Test.YtkjlkbgdkdcboaaGreatSmall
import Derived.RangeFuncNested
import Derived.RangeFuncBound
import Derived.RangeFuncCalls
import Derived.RangeFuncLeaves
import Derived.Shelf.Abstract
import Derived.Shelf.RegionOpen
import Derived.OwnWalkIn
import Derived.TacticsInMore
import Derived.LoopNIn
import Derived.LoopIn
import Derived.Maps.OwnIn
import Derived.Maps.OwnSet
import Derived.Sort.MapsRangeIn

set_option linter.unusedSimpArgs false
set_option linter.unusedVariables false

namespace Go.Proofs.YtkjlkbgdkdcboaaGreat
open Go.RowKit Go.Maps Go.Shelf Go.WideElems
open Go.WideMaps (KeyLaw)
attribute [local go_sem] Oper.semAt_some

theorem lawF : KeyLaw Tryz.prog 33 := deep_law_laid laidOut (m := 2) (by omega) (of_decide_eq_true (by kernel_rfl)) (by kernel_rfl) (by kernel_rfl)
theorem cells33 : Tryz.prog.cellsOf 33 = 2 := by kernel_rfl
/-- what a fraction reads as, as a key -/
def kf (f : Acre.Fc) : Lit := .string (keyBytes [.int .i64 f.1, .int .i64 f.2])
structure WfF (f : Acre.Fc) : Prop where
  n : (Lit.int .i64 f.1).wf = true
  d : (Lit.int .i64 f.2).wf = true
theorem SmF.wf {f : Acre.Fc} (h : SmF f) : WfF f := ⟨WalkArith.wf_i64 (by have := h.n; omega), WalkArith.wf_i64 (by have := h.d; omega)⟩
theorem key_F {f : Acre.Fc} (h : WfF f) : keyOf Tryz.prog 33 (frV f) = some (kf f) := by
  have k33 : Tryz.prog.keyType 33 = true := by kernel_rfl
  have f33 : (Value.agg #[Value.int .i64 f.1, .int .i64 f.2]).formed Tryz.prog 33 = true := by simp [Value.formed, Tryz.underlying33, cells33]
  obtain ⟨m, hm⟩ : ∃ m, Tryz.prog.types.size = m + 1 := ⟨Tryz.prog.types.size - 1, by have := types_big; omega⟩
  unfold keyOf frV
  rw [Tryz.underlying33, k33, f33, hm]
  have e : Tryz.prog.keyLits (m + 1 + 1) 33 [Value.int .i64 f.1, .int .i64 f.2] = some [.int .i64 f.1, .int .i64 f.2] := by
    simp [Program.keyLits, Tryz.underlying33, Tryz.underlying3, h.n, h.d, cells33, cells3]
  simp only [Value.cells, Bool.and_self, if_true, e, Option.map_some, kf]
theorem lits3w {m : Nat} {c : Value} {ls : List Lit} (h : Tryz.prog.keyLits (m + 1) 3 [c] = some ls) : ∃ n, c = .int .i64 n ∧ (Lit.int .i64 n).wf = true := by
  cases c <;> simp [Program.keyLits, Tryz.underlying3] at h
  rename_i q n
  obtain ⟨⟨rfl, h2⟩, _⟩ := h
  exact ⟨n, rfl, h2⟩
set_option maxRecDepth 100000 in
theorem invF (key : Value) (kl : Lit) (h : keyOf Tryz.prog 33 key = some kl) : ∃ x : Acre.Fc, key = frV x ∧ WfF x ∧ kl = kf x := by
  have h0 := h
  obtain ⟨m, hm⟩ : ∃ m, Tryz.prog.types.size = m + 1 := ⟨Tryz.prog.types.size - 1, by have := types_big; omega⟩
  unfold keyOf at h
  simp only [Tryz.underlying33] at h
  split at h
  · rename_i hf
    simp only [Bool.and_eq_true] at hf
    have hf2 := hf.2
    cases key <;> simp [Value.formed, Tryz.underlying33] at hf2
    rename_i cs
    obtain ⟨c0, c1, rfl⟩ := Joins.array2 (hf2.trans cells33)
    rw [hm] at h
    unfold Program.keyLits at h
    simp only [Tryz.underlying33] at h
    simp [cells33, cells3, Value.cells, Option.bind_eq_some_iff] at h
    obtain ⟨a, ha, b, ⟨d', hd, _⟩, _⟩ := h
    obtain ⟨x0, rfl, w0⟩ := lits3w ha
    obtain ⟨x1, rfl, w1⟩ := lits3w hd
    refine ⟨(x0, x1), rfl, ⟨w0, w1⟩, ?_⟩
    have := key_F (f := (x0, x1)) ⟨w0, w1⟩
    unfold frV at this
    rw [this] at h0
    exact (Option.some.inj h0).symm
  · simp at h

theorem kf_inj {x y : Acre.Fc} (hx : WfF x) (hy : WfF y) (h : kf x = kf y) : x = y := by
  have := (Keyed.of_law lawF).inj (key_F hx) (h ▸ key_F hy)
  simp [frV] at this
  exact Prod.ext this.1 this.2
theorem kf_same (x : Acre.Fc) : (kf x).sameKey (kf x) = true := by simp [kf, Lit.sameKey]

/-- the keys that have come -/
structure CollF {H : Type} (D0 : DataW H) (left : Lit → Bool) (ks : List Acre.Fc) : Prop where
  nodup : ks.Nodup
  wf : ∀ x ∈ ks, WfF x
  mem : ∀ x, WfF x → (x ∈ ks ↔ (Maps.has D0 (kf x) = true ∧ left (kf x) = false))
  left : ∀ kl, left kl = true → Maps.has D0 kl = true
theorem CollF.start {H : Type} (D0 : DataW H) : CollF D0 (Maps.has D0) [] := ⟨List.nodup_nil, by simp, fun x _ => by cases Maps.has D0 (kf x) <;> simp, fun _ h => h⟩
theorem CollF.step {H : Type} {D0 : DataW H} {left : Lit → Bool} {ks : List Acre.Fc} (h : CollF D0 left ks) {x : Acre.Fc} (hx : WfF x) (hl : left (kf x) = true) : CollF D0 (fun z => left z && !z.sameKey (kf x)) (ks ++ [x]) := by
  refine ⟨?_, ?_, ?_, ?_⟩
  · rw [List.nodup_append]
    refine ⟨h.nodup, by simp, ?_⟩
    rintro a ha b hb rfl
    simp at hb
    subst hb
    have := ((h.mem a hx).1 ha).2
    rw [hl] at this
    cases this
  · intro y hy
    rcases List.mem_append.1 hy with hy | hy
    · exact h.wf y hy
    · simp at hy; subst hy; exact hx
  · intro y hy
    rw [List.mem_append, h.mem y hy]
    by_cases e : y = x
    · subst e
      have := h.left _ hl
      simp [this, kf_same]
    · have : (kf y).sameKey (kf x) = false := sameKey_ne (fun e' => e (kf_inj hy hx e'))
      simp [this, e]
  · intro kl hk
    simp at hk
    exact h.left kl hk.1
/-- all the keys, each once -/
structure AllF {H : Type} (D0 : DataW H) (ks : List Acre.Fc) : Prop where
  nodup : ks.Nodup
  wf : ∀ x ∈ ks, WfF x
  mem : ∀ x, WfF x → (x ∈ ks ↔ Maps.has D0 (kf x) = true)
theorem CollF.all {H : Type} {D0 : DataW H} {left : Lit → Bool} {ks : List Acre.Fc} (h : CollF D0 left ks) (hl : ∀ kl, left kl = false) : AllF D0 ks :=
  ⟨h.nodup, h.wf, fun x hx => by rw [h.mem x hx, hl]; simp⟩

def slV (c : Option Addr × Nat × Nat) : Value := .slice c.1 c.2.1 c.2.2

set_option maxRecDepth 100000 in
set_option maxHeartbeats 1000000 in
theorem keys128_in (F : Fence) (n : Nat) (hF : F.fn 128) (hro : F.round = none) (hn : 1 ≤ n) {H β : Type} (R : Value → Option (DataW H × List MemPlace)) (mkV : β → Value) (invV : ∀ v y, R v = some y → ∃ c, v = mkV c) (l Bm b nn : Nat) (D0 : DataW H) (J Jx : List Acre.Fc → World → Prop)
    (hY : ∀ pre x W, J pre W → pre.length < Maps.size D0 → YieldAt F (n - 1) Tryz.prog l #[frV x] W fun e W' => (e = .returned (.bool true) ∧ J (pre ++ [x]) W' ∧ KeepsWalks W W') ∨ (e = .returned (.bool false) ∧ Jx (pre ++ [x]) W'))
    (W : World) (hJ : AbidesFrom W.heap.size J) (hm : W.cell? ⟨Bm, 0, none⟩ = some (.map (some b))) (hown : W.ownsMap Tryz.prog 33 R b nn D0) (h0 : J [] W) :
    CallsIn F n Tryz.prog 128 #[.func (.yield l) #[] #[], .pointer (some ⟨Bm, 0, none⟩)] W fun e W' => (∃ v, e = .returned v) ∧ ((∃ ks, AllF D0 ks ∧ J ks W') ∨ (∃ pre, True ∧ Jx pre W')) := by
  refine callsIn_of_wp Tryz.func128 rfl hF ?_ hro
  simp only [Tryz.ntmps128, List.size_toArray, List.length_cons, List.length_nil, Nat.reduceAdd, Nat.reduceSub, Array.replicate_succ, Array.replicate_zero, List.push_toArray, List.append_toArray, List.nil_append, List.cons_append]
  gi_wp2_with (first
    | (gi_at_range; refine wpListIn_range_own _ rfl _ 188 rfl 33 189 (Keyed.of_law lawF) Tryz.underlying188 _ b nn _ rfl hown ?_; intro w0 hrg0 hg0 hs0)
    | gi_in)
  go_frame
  gi_loopw [3] (fun _ wr => ∃ (left : Lit → Bool) (cnt : Nat) (ks : List Acre.Fc), wr.ranges Tryz.prog 33 R b W.heap.size nn D0 left cnt ∧ ks.length + cnt ≤ Maps.size D0 ∧ CollF D0 left ks ∧ J ks wr)
    (fun _ wr => wr.rangeLeft b W.heap.size)
  case atStart =>
    exact ⟨_, _, [], hrg0, by simp, CollF.start D0, hJ [] W w0 none h0 hg0 (fun r e => by cases e)⟩
  case round =>
    obtain ⟨left, cnt, ks, hrg, hcs, hC, hJs⟩ := hrel
    gi_wp2_with (first
      | (gi_at_next; refine wpListIn_next_ranges _ rfl _ rfl 33 (Keyed.of_law lawF) R frV mkV (fun key kl hk => by obtain ⟨x, hx, _⟩ := invF key kl hk; exact ⟨x, hx⟩) invV b W.heap.size nn _ _ _ rfl hrg ?_ ?_)
      | gi_in)
    · intro hc0 hl0
      gi_wp2
      go_end0
      exact ⟨⟨_, rfl⟩, .inl ⟨ks, hC.all hl0, hJs⟩⟩
    · intro x1 x2 c kl yd yp w2 cnt2 hkey hlk hv hat hrg2 hlt hg2 hs2 hen
      obtain ⟨x', ex, hwx, rfl⟩ := invF _ _ hkey
      obtain rfl : x' = (x1, x2) := by simp [frV] at ex; exact Prod.ext ex.1.symm ex.2.symm
      have hJ2 : J ks w2 := hJ ks wr w2 (some W.heap.size) hJs hg2 (fun r e => by cases e; exact ⟨Nat.le_refl _, hrg.iter_walk⟩)
      have hJ3 : J ks (w2.alloc (.cells #[.int .i64 x1, .int .i64 x2] 33)) := hJ ks w2 _ none hJ2 (World.grownBy_alloc _ _ _) (fun r e => by cases e)
      have hrg3 := hrg2.alloc (.cells #[.int .i64 x1, .int .i64 x2] 33)
      obtain ⟨fn, tmps, assign, body, hy, hR⟩ := hY ks (x1, x2) _ hJ3 (by omega)
      clear hs2
      unfold frV at hy hen ⊢
      dsimp only at hy hen ⊢
      gi_wp2
      refine hR.mono ?_
      rintro e W3 (⟨rfl, hJ4, hk4⟩ | ⟨rfl, hJx4⟩)
      · gi_wp2
        have hrg4 := hrg3.of_walks hk4
        go_roundw
        case rel => exact ⟨_, cnt2, ks ++ [(x1, x2)], hrg4, by simp; omega, hC.step hwx hlk, hJ4⟩
        case measure => rw [hrg4.left_eq, hrg.left_eq]; exact hlt
      · gi_wp2
        refine bodyPost_ret (results_none rfl _ _ _) rfl ?_
        exact ⟨⟨_, rfl⟩, .inr ⟨ks ++ [(x1, x2)], trivial, hJx4⟩⟩

theorem keys128_stops (F : Fence) (n : Nat) (hF : F.fn 128) (hro : F.round = none) (hn : 1 ≤ n) {H β : Type} (R : Value → Option (DataW H × List MemPlace)) (mkV : β → Value) (invV : ∀ v y, R v = some y → ∃ c, v = mkV c) (Bm b nn : Nat) (D0 : DataW H) (w : World) (hBm : Bm < w.heap.size)
    (hm : w.cell? ⟨Bm, 0, none⟩ = some (.map (some b))) (hown : w.ownsMap Tryz.prog 33 R b nn D0) :
    SeqStopsK F n Tryz.prog 128 #[.pointer (some ⟨Bm, 0, none⟩)] (fun x : Acre.Fc => #[frV x]) KeepsWalks (fun ks => AllF D0 ks) (fun _ => True) (Maps.size D0) w := fun l J Jx W hW hJ _ hY h0 =>
  keys128_in F n hF hro hn R mkV invV l Bm b nn D0 J Jx hY W hJ ((hW.cell (p := ⟨Bm, 0, none⟩) hBm).trans hm) (by
    have hbl := hown.lt
    obtain ⟨es, clock, hb, Ft, hs, hD⟩ := hown
    exact ⟨es, clock, (hW.block b hbl).trans hb, Ft, hs, hD⟩) h0

set_option maxHeartbeats 400000 in
theorem mapsKeys108_in (F : Fence) (n : Nat) (hF : F.fn 108) (hro : F.round = none) (b : Nat) (w : World) :
    CallsIn F n Tryz.prog 108 #[.map (some b)] w fun e w' => e = .returned (.func (.func 128) #[] #[.pointer (some ⟨w.heap.size, 0, none⟩)]) ∧ w' = w.alloc (.cells #[.map (some b)] 188) := by
  refine callsIn_of_wp Tryz.func108 rfl hF ?_ hro
  simp only [Tryz.ntmps108, List.size_toArray, List.length_cons, List.length_nil, Nat.reduceAdd, Nat.reduceSub, Array.replicate_succ, Array.replicate_zero, List.push_toArray, List.append_toArray, List.nil_append, List.cons_append]
  gi_wp2
  go_ret
  exact ⟨rfl, rfl⟩

set_option maxRecDepth 100000 in
set_option maxHeartbeats 1000000 in
theorem keys130_in (F : Fence) (n : Nat) (hF : F.fn 130) (hro : F.round = none) (hn : 1 ≤ n) {H β : Type} (R : Value → Option (DataW H × List MemPlace)) (mkV : β → Value) (invV : ∀ v y, R v = some y → ∃ c, v = mkV c) (l Bm b nn : Nat) (D0 : DataW H) (J Jx : List Acre.Fc → World → Prop)
    (hY : ∀ pre x W, J pre W → pre.length < Maps.size D0 → YieldAt F (n - 1) Tryz.prog l #[frV x] W fun e W' => (e = .returned (.bool true) ∧ J (pre ++ [x]) W' ∧ KeepsWalks W W') ∨ (e = .returned (.bool false) ∧ Jx (pre ++ [x]) W'))
    (W : World) (hJ : AbidesFrom W.heap.size J) (hm : W.cell? ⟨Bm, 0, none⟩ = some (.map (some b))) (hown : W.ownsMap Tryz.prog 33 R b nn D0) (h0 : J [] W) :
    CallsIn F n Tryz.prog 130 #[.func (.yield l) #[] #[], .pointer (some ⟨Bm, 0, none⟩)] W fun e W' => (∃ v, e = .returned v) ∧ ((∃ ks, AllF D0 ks ∧ J ks W') ∨ (∃ pre, True ∧ Jx pre W')) := by
  refine callsIn_of_wp Tryz.func130 rfl hF ?_ hro
  simp only [Tryz.ntmps130, List.size_toArray, List.length_cons, List.length_nil, Nat.reduceAdd, Nat.reduceSub, Array.replicate_succ, Array.replicate_zero, List.push_toArray, List.append_toArray, List.nil_append, List.cons_append]
  gi_wp2_with (first
    | (gi_at_range; refine wpListIn_range_own _ rfl _ 198 rfl 33 179 (Keyed.of_law lawF) Tryz.underlying198 _ b nn _ rfl hown ?_; intro w0 hrg0 hg0 hs0)
    | gi_in)
  go_frame
  gi_loopw [3] (fun _ wr => ∃ (left : Lit → Bool) (cnt : Nat) (ks : List Acre.Fc), wr.ranges Tryz.prog 33 R b W.heap.size nn D0 left cnt ∧ ks.length + cnt ≤ Maps.size D0 ∧ CollF D0 left ks ∧ J ks wr)
    (fun _ wr => wr.rangeLeft b W.heap.size)
  case atStart =>
    exact ⟨_, _, [], hrg0, by simp, CollF.start D0, hJ [] W w0 none h0 hg0 (fun r e => by cases e)⟩
  case round =>
    obtain ⟨left, cnt, ks, hrg, hcs, hC, hJs⟩ := hrel
    gi_wp2_with (first
      | (gi_at_next; refine wpListIn_next_ranges _ rfl _ rfl 33 (Keyed.of_law lawF) R frV mkV (fun key kl hk => by obtain ⟨x, hx, _⟩ := invF key kl hk; exact ⟨x, hx⟩) invV b W.heap.size nn _ _ _ rfl hrg ?_ ?_)
      | gi_in)
    · intro hc0 hl0
      gi_wp2
      go_end0
      exact ⟨⟨_, rfl⟩, .inl ⟨ks, hC.all hl0, hJs⟩⟩
    · intro x1 x2 c kl yd yp w2 cnt2 hkey hlk hv hat hrg2 hlt hg2 hs2 hen
      obtain ⟨x', ex, hwx, rfl⟩ := invF _ _ hkey
      obtain rfl : x' = (x1, x2) := by simp [frV] at ex; exact Prod.ext ex.1.symm ex.2.symm
      have hJ2 : J ks w2 := hJ ks wr w2 (some W.heap.size) hJs hg2 (fun r e => by cases e; exact ⟨Nat.le_refl _, hrg.iter_walk⟩)
      have hJ3 : J ks (w2.alloc (.cells #[.int .i64 x1, .int .i64 x2] 33)) := hJ ks w2 _ none hJ2 (World.grownBy_alloc _ _ _) (fun r e => by cases e)
      have hrg3 := hrg2.alloc (.cells #[.int .i64 x1, .int .i64 x2] 33)
      obtain ⟨fn, tmps, assign, body, hy, hR⟩ := hY ks (x1, x2) _ hJ3 (by omega)
      clear hs2
      unfold frV at hy hen ⊢
      dsimp only at hy hen ⊢
      gi_wp2
      refine hR.mono ?_
      rintro e W3 (⟨rfl, hJ4, hk4⟩ | ⟨rfl, hJx4⟩)
      · gi_wp2
        have hrg4 := hrg3.of_walks hk4
        go_roundw
        case rel => exact ⟨_, cnt2, ks ++ [(x1, x2)], hrg4, by simp; omega, hC.step hwx hlk, hJ4⟩
        case measure => rw [hrg4.left_eq, hrg.left_eq]; exact hlt
      · gi_wp2
        refine bodyPost_ret (results_none rfl _ _ _) rfl ?_
        exact ⟨⟨_, rfl⟩, .inr ⟨ks ++ [(x1, x2)], trivial, hJx4⟩⟩

theorem keys130_stops (F : Fence) (n : Nat) (hF : F.fn 130) (hro : F.round = none) (hn : 1 ≤ n) {H β : Type} (R : Value → Option (DataW H × List MemPlace)) (mkV : β → Value) (invV : ∀ v y, R v = some y → ∃ c, v = mkV c) (Bm b nn : Nat) (D0 : DataW H) (w : World) (hBm : Bm < w.heap.size)
    (hm : w.cell? ⟨Bm, 0, none⟩ = some (.map (some b))) (hown : w.ownsMap Tryz.prog 33 R b nn D0) :
    SeqStopsK F n Tryz.prog 130 #[.pointer (some ⟨Bm, 0, none⟩)] (fun x : Acre.Fc => #[frV x]) KeepsWalks (fun ks => AllF D0 ks) (fun _ => True) (Maps.size D0) w := fun l J Jx W hW hJ _ hY h0 =>
  keys130_in F n hF hro hn R mkV invV l Bm b nn D0 J Jx hY W hJ ((hW.cell (p := ⟨Bm, 0, none⟩) hBm).trans hm) (by
    have hbl := hown.lt
    obtain ⟨es, clock, hb, Ft, hs, hD⟩ := hown
    exact ⟨es, clock, (hW.block b hbl).trans hb, Ft, hs, hD⟩) h0

set_option maxHeartbeats 400000 in
theorem mapsKeys111_in (F : Fence) (n : Nat) (hF : F.fn 111) (hro : F.round = none) (b : Nat) (w : World) :
    CallsIn F n Tryz.prog 111 #[.map (some b)] w fun e w' => e = .returned (.func (.func 130) #[] #[.pointer (some ⟨w.heap.size, 0, none⟩)]) ∧ w' = w.alloc (.cells #[.map (some b)] 198) := by
  refine callsIn_of_wp Tryz.func111 rfl hF ?_ hro
  simp only [Tryz.ntmps111, List.size_toArray, List.length_cons, List.length_nil, Nat.reduceAdd, Nat.reduceSub, Array.replicate_succ, Array.replicate_zero, List.push_toArray, List.append_toArray, List.nil_append, List.cons_append]
  gi_wp2
  go_ret
  exact ⟨rfl, rfl⟩

end Go.Proofs.YtkjlkbgdkdcboaaGreat
