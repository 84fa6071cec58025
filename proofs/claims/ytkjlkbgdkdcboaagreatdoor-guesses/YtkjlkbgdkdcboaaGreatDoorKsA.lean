import Derived.Test.YtkjlkbgdkdcboaaGreatDoorBsA
import Derived.RangeFuncNested
import Derived.RangeFuncBound
import Derived.RangeFuncCalls
import Derived.RangeFuncLeaves
import Derived.Shelf.Abstract
import Derived.Shelf.RegionOpen
import Derived.OwnWalkIn
import Derived.TacticsInMore
import Derived.LoopNIn
import Derived.LoopIn
import Derived.Maps.OwnIn
import Derived.Maps.OwnSet
import Derived.Sort.MapsRangeIn

set_option linter.unusedSimpArgs false
set_option linter.unusedVariables false

set_option linter.unusedSimpArgs false
set_option linter.unusedVariables false
namespace Go.Proofs.YtkjlkbgdkdcboaaGreatDoor
open Go.RowKit Go.Maps Go.Shelf Go.WideElems
open Go.WideMaps (KeyLaw)
attribute [local go_sem] Oper.semAt_some
theorem lawF : KeyLaw Tryz.prog 38 := deep_law_laid laidOut (m := 2) (by omega) (of_decide_eq_true (by kernel_rfl)) (by kernel_rfl) (by kernel_rfl)
theorem cells33 : Tryz.prog.cellsOf 38 = 2 := by kernel_rfl
def kf (f : Acre.Fc) : Lit := .string (keyBytes [.int .i64 f.1, .int .i64 f.2])
structure WfF (f : Acre.Fc) : Prop where
  n : (Lit.int .i64 f.1).wf = true
  d : (Lit.int .i64 f.2).wf = true
theorem SmF.wf {f : Acre.Fc} (h : SmF f) : WfF f := ⟨WalkArith.wf_i64 (by have := h.n; omega), WalkArith.wf_i64 (by have := h.d; omega)⟩
theorem key_F {f : Acre.Fc} (h : WfF f) : keyOf Tryz.prog 38 (frV f) = some (kf f) := by
  have k33 : Tryz.prog.keyType 38 = true := by kernel_rfl
  have f33 : (Value.agg #[Value.int .i64 f.1, .int .i64 f.2]).formed Tryz.prog 38 = true := by simp [Value.formed, Tryz.underlying38, cells33]
  obtain ⟨m, hm⟩ : ∃ m, Tryz.prog.types.size = m + 1 := ⟨Tryz.prog.types.size - 1, by have := types_big; omega⟩
  unfold keyOf frV
  rw [Tryz.underlying38, k33, f33, hm]
  have e : Tryz.prog.keyLits (m + 1 + 1) 38 [Value.int .i64 f.1, .int .i64 f.2] = some [.int .i64 f.1, .int .i64 f.2] := by
    simp [Program.keyLits, Tryz.underlying38, Tryz.underlying3, h.n, h.d, cells33, cells3]
  simp only [Value.cells, Bool.and_self, if_true, e, Option.map_some, kf]
theorem lits3w {m : Nat} {c : Value} {ls : List Lit} (h : Tryz.prog.keyLits (m + 1) 3 [c] = some ls) : ∃ n, c = .int .i64 n ∧ (Lit.int .i64 n).wf = true := by
  cases c <;> simp [Program.keyLits, Tryz.underlying3] at h
  rename_i q n
  obtain ⟨⟨rfl, h2⟩, _⟩ := h
  exact ⟨n, rfl, h2⟩
set_option maxRecDepth 100000 in
theorem invF (key : Value) (kl : Lit) (h : keyOf Tryz.prog 38 key = some kl) : ∃ x : Acre.Fc, key = frV x ∧ WfF x ∧ kl = kf x := by
  have h0 := h
  obtain ⟨m, hm⟩ : ∃ m, Tryz.prog.types.size = m + 1 := ⟨Tryz.prog.types.size - 1, by have := types_big; omega⟩
  unfold keyOf at h
  simp only [Tryz.underlying38] at h
  split at h
  · rename_i hf
    simp only [Bool.and_eq_true] at hf
    have hf2 := hf.2
    cases key <;> simp [Value.formed, Tryz.underlying38] at hf2
    rename_i cs
    obtain ⟨c0, c1, rfl⟩ := Joins.array2 (hf2.trans cells33)
    rw [hm] at h
    unfold Program.keyLits at h
    simp only [Tryz.underlying38] at h
    simp [cells33, cells3, Value.cells, Option.bind_eq_some_iff] at h
    obtain ⟨a, ha, b, ⟨d', hd, _⟩, _⟩ := h
    obtain ⟨x0, rfl, w0⟩ := lits3w ha
    obtain ⟨x1, rfl, w1⟩ := lits3w hd
    refine ⟨(x0, x1), rfl, ⟨w0, w1⟩, ?_⟩
    have := key_F (f := (x0, x1)) ⟨w0, w1⟩
    unfold frV at this
    rw [this] at h0
    exact (Option.some.inj h0).symm
  · simp at h
theorem kf_inj {x y : Acre.Fc} (hx : WfF x) (hy : WfF y) (h : kf x = kf y) : x = y := by
  have := (Keyed.of_law lawF).inj (key_F hx) (h ▸ key_F hy)
  simp [frV] at this
  exact Prod.ext this.1 this.2
theorem kf_same (x : Acre.Fc) : (kf x).sameKey (kf x) = true := by simp [kf, Lit.sameKey]
structure CollF {H : Type} (D0 : DataW H) (left : Lit → Bool) (ks : List Acre.Fc) : Prop where
  nodup : ks.Nodup
  wf : ∀ x ∈ ks, WfF x
  mem : ∀ x, WfF x → (x ∈ ks ↔ (Maps.has D0 (kf x) = true ∧ left (kf x) = false))
  left : ∀ kl, left kl = true → Maps.has D0 kl = true
theorem CollF.start {H : Type} (D0 : DataW H) : CollF D0 (Maps.has D0) [] := ⟨List.nodup_nil, by simp, fun x _ => by cases Maps.has D0 (kf x) <;> simp, fun _ h => h⟩
theorem CollF.step {H : Type} {D0 : DataW H} {left : Lit → Bool} {ks : List Acre.Fc} (h : CollF D0 left ks) {x : Acre.Fc} (hx : WfF x) (hl : left (kf x) = true) : CollF D0 (fun z => left z && !z.sameKey (kf x)) (ks ++ [x]) := by
  refine ⟨?_, ?_, ?_, ?_⟩
  · rw [List.nodup_append]
    refine ⟨h.nodup, by simp, ?_⟩
    rintro a ha b hb rfl
    simp at hb
    subst hb
    have := ((h.mem a hx).1 ha).2
    rw [hl] at this
    cases this
  · intro y hy
    rcases List.mem_append.1 hy with hy | hy
    · exact h.wf y hy
    · simp at hy; subst hy; exact hx
  · intro y hy
    rw [List.mem_append, h.mem y hy]
    by_cases e : y = x
    · subst e
      have := h.left _ hl
      simp [this, kf_same]
    · have : (kf y).sameKey (kf x) = false := sameKey_ne (fun e' => e (kf_inj hy hx e'))
      simp [this, e]
  · intro kl hk
    simp at hk
    exact h.left kl hk.1
structure AllF {H : Type} (D0 : DataW H) (ks : List Acre.Fc) : Prop where
  nodup : ks.Nodup
  wf : ∀ x ∈ ks, WfF x
  mem : ∀ x, WfF x → (x ∈ ks ↔ Maps.has D0 (kf x) = true)
theorem CollF.all {H : Type} {D0 : DataW H} {left : Lit → Bool} {ks : List Acre.Fc} (h : CollF D0 left ks) (hl : ∀ kl, left kl = false) : AllF D0 ks :=
  ⟨h.nodup, h.wf, fun x hx => by rw [h.mem x hx, hl]; simp⟩
set_option maxRecDepth 100000 in
set_option maxHeartbeats 1000000 in
theorem keys128_in (F : Fence) (n : Nat) (hF : F.fn 151) (hro : F.round = none) (hn : 1 ≤ n) {H β : Type} (R : Value → Option (DataW H × List MemPlace)) (mkV : β → Value) (invV : ∀ v y, R v = some y → ∃ c, v = mkV c) (l Bm b nn : Nat) (D0 : DataW H) (J Jx : List Acre.Fc → World → Prop)
    (hY : ∀ pre x W, J pre W → pre.length < Maps.size D0 → YieldAt F (n - 1) Tryz.prog l #[frV x] W fun e W' => (e = .returned (.bool true) ∧ J (pre ++ [x]) W' ∧ KeepsWalks W W') ∨ (e = .returned (.bool false) ∧ Jx (pre ++ [x]) W'))
    (W : World) (hJ : AbidesFrom W.heap.size J) (hm : W.cell? ⟨Bm, 0, none⟩ = some (.map (some b))) (hown : W.ownsMap Tryz.prog 38 R b nn D0) (h0 : J [] W) :
    CallsIn F n Tryz.prog 151 #[.func (.yield l) #[] #[], .pointer (some ⟨Bm, 0, none⟩)] W fun e W' => (∃ v, e = .returned v) ∧ ((∃ ks, AllF D0 ks ∧ J ks W') ∨ (∃ pre, True ∧ Jx pre W')) := by
  refine callsIn_of_wp Tryz.func151 rfl hF ?_ hro
  simp only [Tryz.ntmps151, List.size_toArray, List.length_cons, List.length_nil, Nat.reduceAdd, Nat.reduceSub, Array.replicate_succ, Array.replicate_zero, List.push_toArray, List.append_toArray, List.nil_append, List.cons_append]
  gi_wp2_with (first
    | (gi_at_range; refine wpListIn_range_own _ rfl _ 211 rfl 38 212 (Keyed.of_law lawF) Tryz.underlying211 _ b nn _ rfl hown ?_; intro w0 hrg0 hg0 hs0)
    | gi_in)
  go_frame
  gi_loopw [3] (fun _ wr => ∃ (left : Lit → Bool) (cnt : Nat) (ks : List Acre.Fc), wr.ranges Tryz.prog 38 R b W.heap.size nn D0 left cnt ∧ ks.length + cnt ≤ Maps.size D0 ∧ CollF D0 left ks ∧ J ks wr)
    (fun _ wr => wr.rangeLeft b W.heap.size)
  case atStart =>
    exact ⟨_, _, [], hrg0, by simp, CollF.start D0, hJ [] W w0 none h0 hg0 (fun r e => by cases e)⟩
  case round =>
    obtain ⟨left, cnt, ks, hrg, hcs, hC, hJs⟩ := hrel
    gi_wp2_with (first
      | (gi_at_next; refine wpListIn_next_ranges _ rfl _ rfl 38 (Keyed.of_law lawF) R frV mkV (fun key kl hk => by obtain ⟨x, hx, _⟩ := invF key kl hk; exact ⟨x, hx⟩) invV b W.heap.size nn _ _ _ rfl hrg ?_ ?_)
      | gi_in)
    · intro hc0 hl0
      gi_wp2
      go_end0
      exact ⟨⟨_, rfl⟩, .inl ⟨ks, hC.all hl0, hJs⟩⟩
    · intro x1 x2 c kl yd yp w2 cnt2 hkey hlk hv hat hrg2 hlt hg2 hs2 hen
      obtain ⟨x', ex, hwx, rfl⟩ := invF _ _ hkey
      obtain rfl : x' = (x1, x2) := by simp [frV] at ex; exact Prod.ext ex.1.symm ex.2.symm
      have hJ2 : J ks w2 := hJ ks wr w2 (some W.heap.size) hJs hg2 (fun r e => by cases e; exact ⟨Nat.le_refl _, hrg.iter_walk⟩)
      have hJ3 : J ks (w2.alloc (.cells #[.int .i64 x1, .int .i64 x2] 38)) := hJ ks w2 _ none hJ2 (World.grownBy_alloc _ _ _) (fun r e => by cases e)
      have hrg3 := hrg2.alloc (.cells #[.int .i64 x1, .int .i64 x2] 38)
      obtain ⟨fn, tmps, assign, body, hy, hR⟩ := hY ks (x1, x2) _ hJ3 (by omega)
      clear hs2
      unfold frV at hy hen ⊢
      dsimp only at hy hen ⊢
      gi_wp2
      refine hR.mono ?_
      rintro e W3 (⟨rfl, hJ4, hk4⟩ | ⟨rfl, hJx4⟩)
      · gi_wp2
        have hrg4 := hrg3.of_walks hk4
        go_roundw
        case rel => exact ⟨_, cnt2, ks ++ [(x1, x2)], hrg4, by simp; omega, hC.step hwx hlk, hJ4⟩
        case measure => rw [hrg4.left_eq, hrg.left_eq]; exact hlt
      · gi_wp2
        refine bodyPost_ret (results_none rfl _ _ _) rfl ?_
        exact ⟨⟨_, rfl⟩, .inr ⟨ks ++ [(x1, x2)], trivial, hJx4⟩⟩
theorem keys128_stops (F : Fence) (n : Nat) (hF : F.fn 151) (hro : F.round = none) (hn : 1 ≤ n) {H β : Type} (R : Value → Option (DataW H × List MemPlace)) (mkV : β → Value) (invV : ∀ v y, R v = some y → ∃ c, v = mkV c) (Bm b nn : Nat) (D0 : DataW H) (w : World) (hBm : Bm < w.heap.size)
    (hm : w.cell? ⟨Bm, 0, none⟩ = some (.map (some b))) (hown : w.ownsMap Tryz.prog 38 R b nn D0) :
    SeqStopsK F n Tryz.prog 151 #[.pointer (some ⟨Bm, 0, none⟩)] (fun x : Acre.Fc => #[frV x]) KeepsWalks (fun ks => AllF D0 ks) (fun _ => True) (Maps.size D0) w := fun l J Jx W hW hJ _ hY h0 =>
  keys128_in F n hF hro hn R mkV invV l Bm b nn D0 J Jx hY W hJ ((hW.cell (p := ⟨Bm, 0, none⟩) hBm).trans hm) (by
    have hbl := hown.lt
    obtain ⟨es, clock, hb, Ft, hs, hD⟩ := hown
    exact ⟨es, clock, (hW.block b hbl).trans hb, Ft, hs, hD⟩) h0
set_option maxHeartbeats 400000 in
theorem mapsKeys108_in (F : Fence) (n : Nat) (hF : F.fn 106) (hro : F.round = none) (b : Nat) (w : World) :
    CallsIn F n Tryz.prog 106 #[.map (some b)] w fun e w' => e = .returned (.func (.func 151) #[] #[.pointer (some ⟨w.heap.size, 0, none⟩)]) ∧ w' = w.alloc (.cells #[.map (some b)] 211) := by
  refine callsIn_of_wp Tryz.func106 rfl hF ?_ hro
  simp only [Tryz.ntmps106, List.size_toArray, List.length_cons, List.length_nil, Nat.reduceAdd, Nat.reduceSub, Array.replicate_succ, Array.replicate_zero, List.push_toArray, List.append_toArray, List.nil_append, List.cons_append]
  gi_wp2
  go_ret
  exact ⟨rfl, rfl⟩
set_option maxRecDepth 100000 in
set_option maxHeartbeats 1000000 in
theorem keys130_in (F : Fence) (n : Nat) (hF : F.fn 154) (hro : F.round = none) (hn : 1 ≤ n) {H β : Type} (R : Value → Option (DataW H × List MemPlace)) (mkV : β → Value) (invV : ∀ v y, R v = some y → ∃ c, v = mkV c) (l Bm b nn : Nat) (D0 : DataW H) (J Jx : List Acre.Fc → World → Prop)
    (hY : ∀ pre x W, J pre W → pre.length < Maps.size D0 → YieldAt F (n - 1) Tryz.prog l #[frV x] W fun e W' => (e = .returned (.bool true) ∧ J (pre ++ [x]) W' ∧ KeepsWalks W W') ∨ (e = .returned (.bool false) ∧ Jx (pre ++ [x]) W'))
    (W : World) (hJ : AbidesFrom W.heap.size J) (hm : W.cell? ⟨Bm, 0, none⟩ = some (.map (some b))) (hown : W.ownsMap Tryz.prog 38 R b nn D0) (h0 : J [] W) :
    CallsIn F n Tryz.prog 154 #[.func (.yield l) #[] #[], .pointer (some ⟨Bm, 0, none⟩)] W fun e W' => (∃ v, e = .returned v) ∧ ((∃ ks, AllF D0 ks ∧ J ks W') ∨ (∃ pre, True ∧ Jx pre W')) := by
  refine callsIn_of_wp Tryz.func154 rfl hF ?_ hro
  simp only [Tryz.ntmps154, List.size_toArray, List.length_cons, List.length_nil, Nat.reduceAdd, Nat.reduceSub, Array.replicate_succ, Array.replicate_zero, List.push_toArray, List.append_toArray, List.nil_append, List.cons_append]
  gi_wp2_with (first
    | (gi_at_range; refine wpListIn_range_own _ rfl _ 223 rfl 38 227 (Keyed.of_law lawF) Tryz.underlying223 _ b nn _ rfl hown ?_; intro w0 hrg0 hg0 hs0)
    | gi_in)
  go_frame
  gi_loopw [3] (fun _ wr => ∃ (left : Lit → Bool) (cnt : Nat) (ks : List Acre.Fc), wr.ranges Tryz.prog 38 R b W.heap.size nn D0 left cnt ∧ ks.length + cnt ≤ Maps.size D0 ∧ CollF D0 left ks ∧ J ks wr)
    (fun _ wr => wr.rangeLeft b W.heap.size)
  case atStart =>
    exact ⟨_, _, [], hrg0, by simp, CollF.start D0, hJ [] W w0 none h0 hg0 (fun r e => by cases e)⟩
  case round =>
    obtain ⟨left, cnt, ks, hrg, hcs, hC, hJs⟩ := hrel
    gi_wp2_with (first
      | (gi_at_next; refine wpListIn_next_ranges _ rfl _ rfl 38 (Keyed.of_law lawF) R frV mkV (fun key kl hk => by obtain ⟨x, hx, _⟩ := invF key kl hk; exact ⟨x, hx⟩) invV b W.heap.size nn _ _ _ rfl hrg ?_ ?_)
      | gi_in)
    · intro hc0 hl0
      gi_wp2
      go_end0
      exact ⟨⟨_, rfl⟩, .inl ⟨ks, hC.all hl0, hJs⟩⟩
    · intro x1 x2 c kl yd yp w2 cnt2 hkey hlk hv hat hrg2 hlt hg2 hs2 hen
      obtain ⟨x', ex, hwx, rfl⟩ := invF _ _ hkey
      obtain rfl : x' = (x1, x2) := by simp [frV] at ex; exact Prod.ext ex.1.symm ex.2.symm
      have hJ2 : J ks w2 := hJ ks wr w2 (some W.heap.size) hJs hg2 (fun r e => by cases e; exact ⟨Nat.le_refl _, hrg.iter_walk⟩)
      have hJ3 : J ks (w2.alloc (.cells #[.int .i64 x1, .int .i64 x2] 38)) := hJ ks w2 _ none hJ2 (World.grownBy_alloc _ _ _) (fun r e => by cases e)
      have hrg3 := hrg2.alloc (.cells #[.int .i64 x1, .int .i64 x2] 38)
      obtain ⟨fn, tmps, assign, body, hy, hR⟩ := hY ks (x1, x2) _ hJ3 (by omega)
      clear hs2
      unfold frV at hy hen ⊢
      dsimp only at hy hen ⊢
      gi_wp2
      refine hR.mono ?_
      rintro e W3 (⟨rfl, hJ4, hk4⟩ | ⟨rfl, hJx4⟩)
      · gi_wp2
        have hrg4 := hrg3.of_walks hk4
        go_roundw
        case rel => exact ⟨_, cnt2, ks ++ [(x1, x2)], hrg4, by simp; omega, hC.step hwx hlk, hJ4⟩
        case measure => rw [hrg4.left_eq, hrg.left_eq]; exact hlt
      · gi_wp2
        refine bodyPost_ret (results_none rfl _ _ _) rfl ?_
        exact ⟨⟨_, rfl⟩, .inr ⟨ks ++ [(x1, x2)], trivial, hJx4⟩⟩
theorem keys130_stops (F : Fence) (n : Nat) (hF : F.fn 154) (hro : F.round = none) (hn : 1 ≤ n) {H β : Type} (R : Value → Option (DataW H × List MemPlace)) (mkV : β → Value) (invV : ∀ v y, R v = some y → ∃ c, v = mkV c) (Bm b nn : Nat) (D0 : DataW H) (w : World) (hBm : Bm < w.heap.size)
    (hm : w.cell? ⟨Bm, 0, none⟩ = some (.map (some b))) (hown : w.ownsMap Tryz.prog 38 R b nn D0) :
    SeqStopsK F n Tryz.prog 154 #[.pointer (some ⟨Bm, 0, none⟩)] (fun x : Acre.Fc => #[frV x]) KeepsWalks (fun ks => AllF D0 ks) (fun _ => True) (Maps.size D0) w := fun l J Jx W hW hJ _ hY h0 =>
  keys130_in F n hF hro hn R mkV invV l Bm b nn D0 J Jx hY W hJ ((hW.cell (p := ⟨Bm, 0, none⟩) hBm).trans hm) (by
    have hbl := hown.lt
    obtain ⟨es, clock, hb, Ft, hs, hD⟩ := hown
    exact ⟨es, clock, (hW.block b hbl).trans hb, Ft, hs, hD⟩) h0
set_option maxHeartbeats 400000 in
theorem mapsKeys111_in (F : Fence) (n : Nat) (hF : F.fn 110) (hro : F.round = none) (b : Nat) (w : World) :
    CallsIn F n Tryz.prog 110 #[.map (some b)] w fun e w' => e = .returned (.func (.func 154) #[] #[.pointer (some ⟨w.heap.size, 0, none⟩)]) ∧ w' = w.alloc (.cells #[.map (some b)] 223) := by
  refine callsIn_of_wp Tryz.func110 rfl hF ?_ hro
  simp only [Tryz.ntmps110, List.size_toArray, List.length_cons, List.length_nil, Nat.reduceAdd, Nat.reduceSub, Array.replicate_succ, Array.replicate_zero, List.push_toArray, List.append_toArray, List.nil_append, List.cons_append]
  gi_wp2
  go_ret
  exact ⟨rfl, rfl⟩
end Go.Proofs.YtkjlkbgdkdcboaaGreatDoor
namespace Go.Proofs.YtkjlkbgdkdcboaaGreatDoor
open Go.RowKit Go.Maps Go.WideElems Go.ChangeMaps
open Go.WideMaps (KeyLaw)
def Raw (v : Value) : Option (DataW Value × List MemPlace) := some (.held v, [])
structure KT {κ : Type} (kt : TypeId) (kv : κ → Value) (key : κ → Lit) (ok : κ → Prop) : Prop where
  law : KeyLaw Tryz.prog kt
  reads : ∀ x, ok x → keyOf Tryz.prog kt (kv x) = some (key x)
  inv : ∀ v kl, keyOf Tryz.prog kt v = some kl → ∃ x, v = kv x ∧ ok x ∧ kl = key x
  inj : ∀ x y, kv x = kv y → x = y
theorem KT.keys {κ : Type} {kt : TypeId} {kv : κ → Value} {key : κ → Lit} {ok : κ → Prop} (K : KT kt kv key ok) {x y : κ} (hx : ok x) (hy : ok y) (h : key x = key y) : x = y :=
  K.inj _ _ ((Keyed.of_law K.law).inj (K.reads x hx) (h ▸ K.reads y hy))
structure MV {κ : Type} (w : World) (kt : TypeId) (key : κ → Lit) (ok : κ → Prop) (b n : Nat) (D : DataW Value) (m : κ → Option Value) : Prop where
  own : w.ownsMap Tryz.prog kt Raw b n D
  has : ∀ x, ok x → Maps.has D (key x) = (m x).isSome
  at' : ∀ x, ok x → ∀ z, D.atKey (key x) (.held z) = .held ((m x).getD z)
section
variable {κ : Type} {kt : TypeId} {kv : κ → Value} {key : κ → Lit} {ok : κ → Prop} {w : World} {t e : TypeId} {b n : Nat} {D : DataW Value} {m : κ → Option Value}
theorem MV.same {w' : World} (h : MV w kt key ok b n D m) (hb : w'.heap[b]? = w.heap[b]?) : MV w' kt key ok b n D m := by
  obtain ⟨⟨es, clock, h1, h2⟩, h3, h4⟩ := h
  exact ⟨⟨es, clock, hb.trans h1, h2⟩, h3, h4⟩
theorem MV.lt (h : MV w kt key ok b n D m) : b < w.heap.size := h.own.lt
theorem MV.later {w' : World} (h : MV w kt key ok b n D m) (hb : Below w.heap.size w w') : MV w' kt key ok b n D m := h.same (hb.block b h.lt)
theorem MV.grown {w' : World} {r : Option Nat} (h : MV w kt key ok b n D m) (hg : w.grownBy w' r) (hr : r ≠ some b) : MV w' kt key ok b n D m := h.same (hg.block b h.lt (fun e => hr e.symm))
theorem MV.new (w : World) : MV (w.alloc (.map #[] 0)) kt key ok w.heap.size 0 (.map []) (fun _ : κ => none) :=
  ⟨World.ownsMap_made _ _ _ _, fun x _ => by simp [Maps.has], fun x _ z => by simp [DataW.atKey]⟩
theorem MV.more {n' : Nat} (h : MV w kt key ok b n D m) (hn : n ≤ n') : MV w kt key ok b n' D m := by
  obtain ⟨⟨es, clock, h1, h2, h5, h6⟩, h3, h4⟩ := h
  exact ⟨⟨es, clock, h1, h2, by omega, h6⟩, h3, h4⟩
def upd [DecidableEq κ] (m : κ → Option Value) (x : κ) (v : Value) : κ → Option Value := fun y => if y = x then some v else m y
theorem MV.put [DecidableEq κ] (h : MV w kt key ok b n D m) (K : KT kt kv key ok) {x : κ} (hx : ok x) (v : Value) {w' : World} {n' : Nat} (hown : w'.ownsMap Tryz.prog kt Raw b n' (D.put (key x) (.held v))) : MV w' kt key ok b n' (D.put (key x) (.held v)) (upd m x v) := by
  have KK : Keyed Tryz.prog kt := Keyed.of_law K.law
  refine ⟨hown, fun y hy => ?_, fun y hy z => ?_⟩
  · by_cases e : y = x
    · subst e; rw [has_put_same h.own.isMap (KK.key (K.reads y hy))]; simp [upd]
    · rw [has_put_other (fun e' => e (K.keys hy hx e')), h.has y hy]; simp [upd, e]
  · by_cases e : y = x
    · subst e; rw [atKey_put_same h.own.isMap (KK.key (K.reads y hy))]; simp [upd]
    · rw [atKey_put_other (fun e' => e (K.keys hy hx e')), h.at' y hy]; simp [upd, e]
theorem MV.update [DecidableEq κ] (h : MV w kt key ok b n D m) (K : KT kt kv key ok) (ht : Tryz.prog.underlying t = some (.map kt e)) (hn : n < maxLen) {x : κ} (hx : ok x) (v : Value) :
    ∃ w', (Instr.mapUpdate t (.map (some b)) (kv x) v).run Tryz.prog w = .ok () w' ∧ MV w' kt key ok b (n + 1) (D.put (key x) (.held v)) (upd m x v) ∧ w.grownBy w' (some b) := by
  obtain ⟨w', h1, h2, h3⟩ := h.own.update (Keyed.of_law K.law) ht hn (K.reads x hx) (val := v) (d := .held v) (ps := []) rfl
  exact ⟨w', h1, h.put K hx v h2, h3⟩
theorem MV.lookup (h : MV w kt key ok b n D m) (K : KT kt kv key ok) (ht : Tryz.prog.underlying t = some (.map kt e)) {z : Value} (hz : (zeroValue e).run Tryz.prog w = .ok z w) {x : κ} (hx : ok x) :
    (Instr.lookup t (.map (some b)) (kv x) false).run Tryz.prog w = .ok ((m x).getD z) w := by
  obtain ⟨v, ps, h1, h2⟩ := h.own.lookup (Keyed.of_law K.law) ht hz (zd := .held z) (zp := []) rfl (K.reads x hx)
  rw [h.at' x hx] at h2
  unfold Raw at h2
  simp only [Option.some.injEq, Prod.mk.injEq, DataW.held.injEq] at h2
  rw [h1, h2.1]
theorem MV.entry [DecidableEq κ] (h : MV w kt key ok b n D m) (K : KT kt kv key ok) (ht : Tryz.prog.underlying t = some (.map kt e)) (hn : n < maxLen) {z : Value} (hz : ∀ u : World, (zeroValue e).run Tryz.prog u = .ok z u) {x : κ} (hx : ok x) :
    ∃ (st : Nat) (w2 : World), (Instr.mapEntry t (.map (some b)) (kv x)).run Tryz.prog w = .ok (.tuple #[(m x).getD z, .int .i64 st]) w2 ∧ w.grownBy w2 (some b) ∧ w2.heap.size = w.heap.size ∧
      ∀ w3 : World, w3.heap[b]? = w2.heap[b]? → ∀ v : Value, ∃ w4, (Instr.entryStore t (.map (some b)) (.int .i64 st) v).run Tryz.prog w3 = .ok () w4 ∧ MV w4 kt key ok b (n + 1) (D.put (key x) (.held v)) (upd m x v) ∧ w3.grownBy w4 (some b) ∧ w4.heap.size = w3.heap.size := by
  have hl := h.lookup K ht (hz w) hx
  obtain ⟨es, clock, hb, F, hs, hD⟩ := id h.own
  obtain ⟨v0, st, es1, clock1, hm, hv0, hst⟩ := entry_then_store K.law ht hz hb F (K.reads x hx)
  have hgrow : ∀ (u : World) o es0 c0, u.heap[b]? = some (.map es0 c0) → u.grownBy (setBlock u b o) (some b) := fun u o es0 c0 hu =>
    ⟨rfl, rfl, rfl, by simp [setBlock], fun i _ hi => heap_setBlock_other hu _ (fun e => hi (by rw [e]))⟩
  have hv : v0 = (m x).getD z := by
    rcases K.law.find w (K.reads x hx) es.toList (fun y hy => by obtain ⟨q, hq⟩ := F.reads y hy; exact ⟨_, rd_key hq⟩) with ⟨h1, h2⟩ | ⟨j, e0, h1, h2, h3⟩
    · have h4 : (Instr.lookup t (.map (some b)) (kv x) false).run Tryz.prog w = .ok z w := by
        simp [Instr.lookup, run_underlying ht, MapKept.run_getObj_map hb, K.law.check w es.isEmpty (K.reads x hx), h1, hz, Result.andThen]
      rw [hl] at h4
      simp only [Result.ok.injEq, and_true] at h4
      rcases hv0 with ⟨e0, he0, hk, _⟩ | ⟨_, h5⟩
      · exact absurd hk (h2 e0 he0)
      · rw [h5, h4]
    · have hj : es[j]? = some e0 := by simpa using h2
      have h4 : (Instr.lookup t (.map (some b)) (kv x) false).run Tryz.prog w = .ok e0.val w := by
        simp [Instr.lookup, run_underlying ht, MapKept.run_getObj_map hb, K.law.check w es.isEmpty (K.reads x hx), h1, Result.andThen]
      rw [hl] at h4
      simp only [Result.ok.injEq, and_true] at h4
      rw [h4]
      have hmm : (Instr.mapEntry t (.map (some b)) (kv x)).run Tryz.prog w = .ok (.tuple #[e0.val, goInt e0.born]) (setBlock w b (.map (es.modify j (fun e => { e with key := kv x })) clock)) := by
        simp [Instr.mapEntry, run_underlying ht, MapKept.run_getObj_map hb, K.law.check w false (K.reads x hx), h1, hj, h3, K.law.stays w (K.reads x hx), MapKept.run_setObj_map _ hb, Result.andThen, setBlock]
      rw [hm] at hmm
      simp at hmm
      exact hmm.1.1
  refine ⟨st, _, by rw [← hv]; exact hm, hgrow w _ _ _ hb, by simp [setBlock], fun w3 hw3 v => ?_⟩
  have hb3 : w3.heap[b]? = some (.map es1 clock1) := hw3.trans (heap_setBlock_same hb _)
  obtain ⟨es', clock', k1, k2⟩ := hst w3 v hb3
  obtain ⟨w', u1, u2, u3⟩ := h.own.update (Keyed.of_law K.law) ht hn (K.reads x hx) (val := v) (d := .held v) (ps := []) rfl
  rw [k2] at u1
  simp only [Result.ok.injEq, true_and] at u1
  refine ⟨_, k1, h.put K hx v ?_, hgrow w3 _ _ _ hb3, by simp [setBlock]⟩
  obtain ⟨es2, clock2, r1, r2⟩ := u2
  rw [← u1, heap_setBlock_same hb] at r1
  simp only [Option.some.injEq, Obj.map.injEq] at r1
  refine ⟨es2, clock2, ?_, r2⟩
  rw [heap_setBlock_same hb3, r1.1, r1.2]
end
theorem ktF : KT 38 frV kf WfF := ⟨lawF, fun _ h => key_F h, fun v kl h => invF v kl h, fun x y h => by simp [frV] at h; exact Prod.ext h.1 h.2⟩
end Go.Proofs.YtkjlkbgdkdcboaaGreatDoor
namespace Go.Proofs.YtkjlkbgdkdcboaaGreatDoor
open Go.RowKit
section
variable {F : Fence} {n : Nat} {P : Program} {α : Type}
def SeqAt (F : Fence) (n : Nat) (P : Program) (g : Nat) (lb : Array Value) (encs : α → Array Value) (Kp : World → World → Prop) (At : α → World → Prop) (S Sp : List α → Prop) (N : Nat) (w : World) : Prop :=
  ∀ (l : Nat) (J Jx : List α → World → Prop) (W : World), Below w.heap.size w W → AbidesFrom W.heap.size J → AbidesFrom W.heap.size Jx →
    (∀ pre x W1, J pre W1 → At x W1 → Sp (pre ++ [x]) → pre.length < N → YieldAt F (n - 1) P l (encs x) W1 fun e W' =>
      (e = .returned (.bool true) ∧ J (pre ++ [x]) W' ∧ Kp W1 W') ∨ (e = .returned (.bool false) ∧ Jx (pre ++ [x]) W')) →
    J [] W →
    CallsIn F n P g (#[.func (.yield l) #[] #[]] ++ lb) W fun e W' => (∃ v, e = .returned v) ∧ ((∃ xs, S xs ∧ J xs W') ∨ (∃ pre, Sp pre ∧ Jx pre W'))
def atPost (B : Nat) (Kp : World → World → Prop) (I Ix : List α → World → Prop) (xs : List α) (W : World) : Exit → Act → World → Prop
  | .normal, _, W' => KeepsFrom B W W' ∧ Kp W W' ∧ I xs W'
  | .ret, _, W' => KeepsFrom B W W' ∧ Ix xs W'
  | _, _, _ => False
theorem wpIn_rangeFunc_at {g : Operand} {ps : Array Tmp} {assign body : Code} {Q : Exit → Act → World → Prop} {a : Act} {w : World}
    (hro : F.round = none) (h1 : 1 ≤ n) {gf : Nat} {lb : Array Value} (hg : a.eval g = .func (.func gf) #[] lb) (hFg : F.fn gf) (eg : ∀ args w, (callFunc gf args).run P w = .ok (.enter gf args) w)
    {encs : α → Array Value} {Kp : World → World → Prop} {At : α → World → Prop} {S Sp : List α → Prop} {N : Nat} {w0 : World} (hseq : SeqAt F (n - 1) P gf lb encs Kp At S Sp N w0)
    (hKt : ∀ {A B C : World}, Kp A B → Kp B C → Kp A C) (hKb : ∀ (W : World) (l : Nat) (o o' : Obj), w.heap.size ≤ l → W.heap[l]? = some o → o.isCells = false → o.isWalk = false → Kp W (W.putObj l o')) (hb0 : Below w0.heap.size w0 w) (hps : ∀ x, (encs x).size = ps.size)
    (I Ix : List α → World → Prop) (hI : OwnFrom w.heap.size I) (hIx : OwnFrom w.heap.size Ix) (hAt : ∀ x W r o', W.heap[w.heap.size + 1]? = some (.loop r) → At x W → At x (W.putObj (w.heap.size + 1) o')) (h0 : I [] w) (Ax : α → Act → World → Prop) (hAx : ∀ x a', OwnFrom w.heap.size (fun (_ : Unit) W => Ax x a' W))
    (hassign : ∀ (l : Nat) (pre : List α) (x : α) (W : World) (K : Act → World → Prop), I pre W → At x W → (∀ a' W', KeepsFrom w.heap.size W W' → Kp W W' → I pre W' → At x W' → Ax x a' W' → K a' W') →
      assign.wpIn (F.inRound l) (n - 1 - 1) P (Exit.then K (fun _ _ _ => False)) { tmps := (ps.zip (encs x)).foldl (fun t (p, v) => t.setIfInBounds p v) a.tmps, defers := [] } W)
    (hbody : ∀ (l : Nat) (pre : List α) (x : α) (a' : Act) (W : World), w.heap.size ≤ l → I pre W → At x W → Ax x a' W → Sp (pre ++ [x]) → pre.length < N → body.wpIn (F.inRound l) (n - 1 - 1) P (atPost w.heap.size Kp I Ix (pre ++ [x]) W) a' W)
    (hdone : ∀ (D : Nat) (xs : List α) (W : World), w.heap.size ≤ D → S xs → I xs W → W.heap[D]? = some (.deferred (some [])) → Q .normal { a with defers := { target := .collected D, args := #[] } :: a.defers } W)
    (hstop : ∀ (D : Nat) (pre : List α) (W : World), w.heap.size ≤ D → Sp pre → Ix pre W → W.heap[D]? = some (.deferred (some [])) → Code.ret.wpIn F n P Q { a with defers := { target := .collected D, args := #[] } :: a.defers } W) :
    (Code.rangeFunc g ps assign body).wpIn F n P Q a w := by
  apply wpIn_rangeFunc
  intro fn hfn
  rw [hro]
  -- the loop's record, in each of its states
  obtain ⟨R, hR⟩ : ∃ R : LoopState → Option Code → Loop, R = fun st pe => { state := st, pending := pe, fn, tmps := a.tmps, params := ps, assign, body, defers := w.heap.size } := ⟨_, rfl⟩
  obtain ⟨V, hV⟩ : ∃ V, (w.alloc (.deferred (some []))).alloc (.loop (R .ready none)) = V := ⟨_, rfl⟩
  have kD : V.heap[w.heap.size]? = some (.deferred (some [])) := by
    rw [← hV]; exact (Below.heap_alloc _ _ _ (by simp)).trans (World.alloc_heap_new w _)
  have kL : V.heap[w.heap.size + 1]? = some (.loop (R .ready none)) := by
    rw [← hV]
    have := World.alloc_heap_new (w.alloc (.deferred (some []))) (.loop (R .ready none))
    rwa [World.size_alloc] at this
  have kI : I [] V := by rw [← hV]; exact hI.alloc _ (hI.alloc _ h0)
  have kB : Below w0.heap.size w0 V := by
    rw [← hV]; exact hb0.trans ((((Below.refl _ w).alloc (Nat.le_refl _) _).alloc (by simp) _).mono hb0.size)
  have kS : w.heap.size ≤ V.heap.size := by rw [← hV]; simp; omega
  have free : ∀ {A : World} {row : Option Nat}, (∀ r, row = some r → V.heap.size ≤ r ∧ ∃ o : Obj, A.heap[r]? = some o ∧ o.isWalk = true) → ∀ r, row = some r → w.heap.size ≤ r ∧ ∃ o : Obj, A.heap[r]? = some o ∧ o.isCells = false := fun h r e => by
    obtain ⟨h1, o, h2, h3⟩ := h r e
    exact ⟨Nat.le_trans kS h1, o, h2, Obj.not_cells_of_walk h3⟩
  refine ⟨w.heap.size + 1, [{ target := .collected w.heap.size, args := #[] }], V, { target := .fn (.func gf) lb, args := #[.func (.yield (w.heap.size + 1)) #[] #[]] }, V, gf,
    #[.func (.yield (w.heap.size + 1)) #[] #[]] ++ lb, V, ?_, ?_, ?_, ?_, fun _ => h1, ?_⟩
  · rw [← hV, hR]; exact run_enterLoop_outer _ _ _ _ _
  · simp only [resolve, hg]
    simp [go_sem]
  · intro f' hf'; simp [Target.leads] at hf'; subst hf'; exact hFg
  · simp [invoke, go_sem, eg]
  refine (hseq (w.heap.size + 1)
    (fun pre W => I pre W ∧ W.heap[w.heap.size + 1]? = some (.loop (R .ready none)) ∧ W.heap[w.heap.size]? = some (.deferred (some [])))
    (fun pre W => Ix pre W ∧ W.heap[w.heap.size + 1]? = some (.loop (R .done (some .ret))) ∧ W.heap[w.heap.size]? = some (.deferred (some [])))
    V kB
    (fun s A B row hs hg' hr => ⟨hI s A B row hs.1 hg' (free hr), (grownBy_keeps hg' (fun r e => (hr r e).2) hs.2.1 rfl).trans hs.2.1, (grownBy_keeps hg' (fun r e => (hr r e).2) hs.2.2 rfl).trans hs.2.2⟩)
    (fun s A B row hs hg' hr => ⟨hIx s A B row hs.1 hg' (free hr), (grownBy_keeps hg' (fun r e => (hr r e).2) hs.2.1 rfl).trans hs.2.1, (grownBy_keeps hg' (fun r e => (hr r e).2) hs.2.2 rfl).trans hs.2.2⟩)
    ?_ ⟨kI, kL, kD⟩).mono ?_
  · rintro pre x W ⟨hi, hl, hk⟩ hat hsp hlen
    have hy := run_yield (P := P) (args := encs x) hl (by rw [hR]; exact hps x)
    rw [hR] at hy
    refine ⟨fn, _, assign, body, hy, roundIn_of_wpIn hfn (hassign _ pre x W _ hi hat ?_)⟩
    intro a' Wa ka kpa hia hata hax
    have la := ka.same _ _ (by omega) hl rfl
    have da := ka.same _ _ (Nat.le_refl _) hk rfl
    have lta := (Array.getElem?_eq_some_iff.1 la).1
    refine ⟨_, run_beginRound la (by rw [hR]), ?_⟩
    obtain ⟨Wc, hWc⟩ : ∃ Wc, Wa.putObj (w.heap.size + 1) (.loop { R .ready none with state := .busy }) = Wc := ⟨_, rfl⟩
    have lc : Wc.heap[w.heap.size + 1]? = some (.loop { R .ready none with state := .busy }) := by rw [← hWc]; exact World.putObj_heap_same lta
    have dc : Wc.heap[w.heap.size]? = some (.deferred (some [])) := by rw [← hWc]; exact (World.putObj_heap_other (by omega)).trans da
    have kpc : Kp Wa Wc := by rw [← hWc]; exact hKb _ _ _ _ (by omega) la rfl rfl
    have ic : I pre Wc := by rw [← hWc]; exact hI.putObj _ hia (by omega) la rfl
    have atc : At x Wc := by rw [← hWc]; exact hAt x Wa _ _ la hata
    have axc : Ax x a' Wc := by rw [← hWc]; exact (hAx x a').putObj (s := ()) _ hax (by omega) la rfl
    rw [hWc]
    refine wpIn_mono (hbody _ pre x a' Wc (by omega) ic atc axc hsp hlen) ?_
    have close : ∀ (jump : Option Code) (W3 : World), KeepsFrom w.heap.size Wc W3 →
        (Instr.endRound (w.heap.size + 1) jump).run P W3 = .ok (.bool jump.isNone) (W3.putObj (w.heap.size + 1) (.loop (R (if jump.isNone then .ready else .done) jump))) ∧
        W3.heap[w.heap.size + 1]? = some (.loop { R .ready none with state := .busy }) ∧
        (W3.putObj (w.heap.size + 1) (.loop (R (if jump.isNone then .ready else .done) jump))).heap[w.heap.size + 1]? = some (.loop (R (if jump.isNone then .ready else .done) jump)) ∧
        (W3.putObj (w.heap.size + 1) (.loop (R (if jump.isNone then .ready else .done) jump))).heap[w.heap.size]? = some (.deferred (some [])) := fun jump W3 k3 => by
      have l3 := k3.same _ _ (by omega) lc rfl
      have := run_endRound (P := P) jump l3
      rw [hR] at this ⊢
      exact ⟨this, by rw [hR] at l3; exact l3, World.putObj_heap_same (Array.getElem?_eq_some_iff.1 l3).1, (World.putObj_heap_other (by omega)).trans (k3.same _ _ (Nat.le_refl _) dc rfl)⟩
    rintro e a3 W3 hp
    cases e with
    | normal =>
      obtain ⟨k3, kp3, i3⟩ := hp
      obtain ⟨r1, r2, r3, r4⟩ := close none W3 k3
      exact ⟨_, _, r1, .inl ⟨rfl, ⟨hI.putObj _ i3 (by omega) r2 rfl, r3, r4⟩, hKt kpa (hKt (hKt kpc kp3) (hKb _ _ _ _ (by omega) r2 rfl rfl))⟩⟩
    | ret =>
      obtain ⟨k3, i3⟩ := hp
      obtain ⟨r1, r2, r3, r4⟩ := close (some .ret) W3 k3
      exact ⟨_, _, r1, .inr ⟨rfl, hIx.putObj _ i3 (by omega) r2 rfl, r3, r4⟩⟩
    | exit id => exact hp.elim
    | goto t => exact hp.elim
    | panic ch => exact hp.elim
    | outgrown => exact hp.elim
  · rintro e W2 ⟨⟨v, rfl⟩, (⟨xs, hS, hi, hl, hk⟩ | ⟨pre, hSp, hi, hl, hk⟩)⟩
    · have := run_endLoop (P := P) hl (by rw [hR]; simp)
      rw [hR] at this
      exact ⟨none, _, this, hdone _ xs _ (Nat.le_refl _) hS (hI.putObj _ hi (by omega) hl rfl) ((World.putObj_heap_other (by omega)).trans hk)⟩
    · have := run_endLoop (P := P) hl (by rw [hR]; simp)
      rw [hR] at this
      exact ⟨some .ret, _, this, hstop _ pre _ (Nat.le_refl _) hSp (hIx.putObj _ hi (by omega) hl rfl) ((World.putObj_heap_other (by omega)).trans hk)⟩
end
end Go.Proofs.YtkjlkbgdkdcboaaGreatDoor
