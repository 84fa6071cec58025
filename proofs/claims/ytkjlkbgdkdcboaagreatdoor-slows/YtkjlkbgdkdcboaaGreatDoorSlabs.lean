import Derived.Test.YtkjlkbgdkdcboaaGreatDoorKsA
import Derived.Test.YtkjlkbgdkdcboaaGreatDoorSlabB
import Derived.Test.YtkjlkbgdkdcboaaGreatDoorGyA
import Derived.Stop.RegionWithIn

set_option linter.unusedSimpArgs false
set_option linter.unusedVariables false

set_option linter.unusedSimpArgs false
set_option linter.unusedVariables false

namespace Go.Proofs.YtkjlkbgdkdcboaaGreatDoor
open Go.RowKit Go.Maps Go.Shelf
attribute [local go_sem] Oper.semAt_some

theorem SlabV.base {base base' : Nat} {w : World} {E : List Acre.Ed} {kk : Nat} {op : Int} {f t : Acre.Fc} {lv : Value} {rb : Nat} (h : SlabV base w E kk op f t lv rb) (hb : base' ≤ base) : SlabV base' w E kk op f t lv rb := ⟨row_base h.row hb, Nat.le_trans hb h.lo, h.mv⟩
theorem adj_get (cs : List Acre.Fc) (k : Nat) (hk : k + 1 < cs.length) : (Acre.adj cs)[k]? = some (cs[k], cs[k + 1]) := by
  induction cs generalizing k with
  | nil => simp at hk
  | cons a r ih =>
    cases r with
    | nil => simp at hk
    | cons b r =>
      cases k with
      | zero => simp [Acre.adj]
      | succ k =>
        have := ih k (by simpa using hk)
        simpa [Acre.adj] using this
theorem adj_len (cs : List Acre.Fc) : (Acre.adj cs).length = cs.length - 1 := by
  induction cs with
  | nil => rfl
  | cons a r ih =>
    cases r with
    | nil => rfl
    | cons b r => simp only [Acre.adj, List.length_cons] at ih ⊢; omega

theorem row_low {W wr : World} {n₀ base : Nat} {e : TypeId} {size : Nat} {v : Value} {k : Nat} {xs : List Value} (h : W.ownsRow base e size v k xs) (hb : Below n₀ W wr) (hn : ∀ c, v.ownBlock = some c → c < n₀) : wr.ownsRow base e size v k xs := by
  refine ⟨h.1, ?_⟩
  rcases h.2 with h' | ⟨g, cap, cur, h1, h2, h3, h4⟩
  · exact .inl h'
  · exact .inr ⟨g, cap, cur, h1, h2, (hb.block g (hn g (by rw [h1]; rfl))).trans h3, h4⟩

/-- the blocks of X are left as they are -/
structure KeepIt (X : Nat → Prop) (W W' : World) : Prop where
  size : W.heap.size ≤ W'.heap.size
  block : ∀ k, X k → k < W.heap.size → W'.heap[k]? = W.heap[k]?
theorem KeepIt.refl (X : Nat → Prop) (W : World) : KeepIt X W W := ⟨Nat.le_refl _, fun _ _ _ => rfl⟩
theorem KeepIt.trans {X : Nat → Prop} {A B C : World} (h : KeepIt X A B) (k : KeepIt X B C) : KeepIt X A C :=
  ⟨Nat.le_trans h.size k.size, fun i hx hi => (k.block i hx (Nat.lt_of_lt_of_le hi h.size)).trans (h.block i hx hi)⟩
theorem KeepIt.of_below {X : Nat → Prop} {n : Nat} {A B : World} (h : Below n A B) (hx : ∀ k, X k → k < A.heap.size → k < n) : KeepIt X A B := ⟨h.size, fun k hk hl => h.block k (hx k hk hl)⟩
theorem row_keep {X : Nat → Prop} {W wr : World} {base : Nat} {e : TypeId} {size : Nat} {v : Value} {k : Nat} {xs : List Value} (h : W.ownsRow base e size v k xs) (hb : KeepIt X W wr) (hn : ∀ c, v.ownBlock = some c → X c) : wr.ownsRow base e size v k xs := by
  refine ⟨h.1, ?_⟩
  rcases h.2 with h' | ⟨g, cap, cur, h1, h2, h3, h4⟩
  · exact .inl h'
  · have hg : v.ownBlock = some g := by rw [h1]; rfl
    exact .inr ⟨g, cap, cur, h1, h2, (hb.block g (hn g hg) (h.lt g hg).2).trans h3, h4⟩

set_option maxRecDepth 100000 in
set_option maxHeartbeats 16000000 in
theorem slabs1_in (X : Nat → Prop) (n : Nat) (hn : 2 ≤ n) (l BC BP n₀ base base2 : Nat) (E : List Acre.Ed) (u : Value) (kk : Nat) (op : Int) (cs : List Acre.Fc) (cv : Value) (J Jx : List Sl → World → Prop)
    (hY : ∀ pre x W1, J pre W1 → SlabV n₀ W1 E kk op x.1.1 x.1.2 x.2.1 x.2.2 → (pre ++ [x]).map (·.1) = (Acre.adj cs).take (pre ++ [x]).length → pre.length < cs.length - 1 → YieldAt Fence.wide (n - 1) Tryz.prog l #[slV4 x] W1 fun e W' =>
      (e = .returned (.bool true) ∧ J (pre ++ [x]) W' ∧ KeepIt X W1 W') ∨ (e = .returned (.bool false) ∧ Jx (pre ++ [x]) W'))
    (W : World) (hn₀ : n₀ ≤ W.heap.size) (hJ : AbidesFrom W.heap.size J) (hBC : X BC) (hBP : X BP) (bC : Box W BC [cv]) (bP : Box W BP [u, .int .i64 kk, .int .i64 op])
    (hE : W.ownsRow base 42 4 u E.length (flatE E)) (hEn : ∀ c, u.ownBlock = some c → X c) (hC : W.ownsRow base2 38 2 cv cs.length (cs.flatMap frL)) (hCn : ∀ c, cv.ownBlock = some c → X c)
    (hsm : ∀ e ∈ E, SmE e) (hEl : E.length ≤ 24) (hkk : kk ≤ 24) (hcs : ∀ x ∈ cs, CutOk x) (hcl : cs.length ≤ 100000) (h0 : J [] W) :
    CallsIn Fence.wide n Tryz.prog 58 #[.func (.yield l) #[] #[], .pointer (some ⟨BC, 0, none⟩), .pointer (some ⟨BP, 0, none⟩)] W fun e W' => (∃ v, e = .returned v) ∧
      ((∃ xs : List Sl, xs.map (·.1) = Acre.adj cs ∧ J xs W') ∨ (∃ pre : List Sl, pre.map (·.1) = (Acre.adj cs).take pre.length ∧ Jx pre W')) := by
  obtain ⟨ca, cg, ccap, rfl, hca, _⟩ := row_form hC
  obtain ⟨ga, gb, gcap, rfl, hga, _⟩ := row_form hE
  refine callsIn_of_wp Tryz.func58 rfl trivial ?_ rfl
  simp only [Tryz.ntmps58, List.size_toArray, List.length_cons, List.length_nil, Nat.reduceAdd, Nat.reduceSub, Array.replicate_succ, Array.replicate_zero, List.push_toArray, List.append_toArray, List.nil_append, List.cons_append]
  gi_wp2
  gi_loopw [4] (fun i wr => ∃ (k : Nat) (pre : List Sl), i = .int .i64 (k + 1) ∧ pre.length = k ∧ (k = 0 ∨ k + 1 ≤ cs.length) ∧ Hid (pre.map (·.1) = (Acre.adj cs).take k ∧ J pre wr ∧ KeepIt X W wr)) (fun i _ => cs.length - (intOf i).toNat)
  case atStart => exact ⟨0, [], rfl, rfl, .inl rfl, rfl, h0, KeepIt.refl _ _⟩
  case round =>
    obtain ⟨k, pre, rfl, hpk, hk, hr⟩ := hrel
    obtain ⟨hp, hJk, hB⟩ := hr.out
    have bCk := bC.block (hB.block _ hBC (bC.lt (by simp)))
    have bPk := bP.block (hB.block _ hBP (bP.lt (by simp)))
    have c0 := bCk.c 0 _ rfl
    have p0 := bPk.c 0 _ rfl
    have p1 := bPk.c 1 _ rfl
    have p2 := bPk.c 2 _ rfl
    by_cases hlt : k + 1 < cs.length
    · obtain rfl := hca (by omega)
      have hC' := row_keep hC hB hCn
      have hE' := row_keep hE hB hEn
      obtain ⟨a0, a1⟩ := rowF_cells hC' k (by omega)
      obtain ⟨b0, b1⟩ := rowF_cells hC' (k + 1) hlt
      have hf := hcs cs[k] (List.getElem_mem _)
      have ht := hcs cs[k + 1] (List.getElem_mem _)
      have hadj := adj_get cs k hlt
      generalize cs[k] = f at *
      generalize cs[k + 1] = t at *
      obtain ⟨f1, f2⟩ := f
      obtain ⟨t1, t2⟩ := t
      dsimp only at a0 a1 b0 b1
      have hkk0 : (0 : Int) ≤ (k : Int) := Int.natCast_nonneg _
      have hkk1 : (k : Int) < (cs.length : Int) := by omega
      have hkk2 : (k : Int) + 1 < (cs.length : Int) := by omega
      have hkk3 : (0 : Int) ≤ (k : Int) + 1 := by omega
      have hsub : IntKind.i64.wrap ((k : Int) + 1 - 1) = (k : Int) := by rw [Int.add_sub_cancel]; exact wrap_in _ (by omega)
      have hw0 : IntKind.i64.wrap (k : Int) = (k : Int) := wrap_in _ (by omega)
      have hw1 : IntKind.i64.wrap ((k : Int) + 1) = (k : Int) + 1 := wrap_in _ (by omega)
      have hlo : k < cs.length := by omega
      have hlo2 : decide ((k : Int) < (cs.length : Int)) = true := decide_eq_true hkk1
      have hnil : ¬ cs = [] := fun e => by rw [e] at hlt; simp at hlt
      gi_wp2
      have h1n : 1 ≤ n := by omega
      have hY2 : ∀ pre x W1, J pre W1 → SlabV n₀ W1 E kk op x.1.1 x.1.2 x.2.1 x.2.2 → (pre ++ [x]).map (·.1) = (Acre.adj cs).take (pre ++ [x]).length → pre.length < cs.length - 1 → YieldAt Fence.wide (n - 1) Tryz.prog l #[slV4 x] W1 fun e W' =>
          ∃ b : Bool, e = .returned (.bool b) ∧ (b = true → J (pre ++ [x]) W' ∧ KeepIt X W1 W') ∧ (b = false → Jx (pre ++ [x]) W') := fun pre x W1 h1 h2 h3 h4 =>
        (hY pre x W1 h1 h2 h3 h4).mono (fun e W' h => by
          rcases h with ⟨rfl, h4, h5⟩ | ⟨rfl, h4⟩
          · exact ⟨true, rfl, fun _ => ⟨h4, h5⟩, (fun h => by cases h)⟩
          · exact ⟨false, rfl, (fun h => by cases h), fun _ => h4⟩)
      have hnext : ∀ lv rb, (pre ++ [((((f1, f2), (t1, t2)), (lv, rb)) : Sl)]).map (·.1) = (Acre.adj cs).take (pre ++ [((((f1, f2), (t1, t2)), (lv, rb)) : Sl)]).length := fun lv rb => by
        rw [List.length_append, hpk, List.length_singleton, List.map_append, hp, List.take_add_one, hadj]
        rfl
      have HX := hide hnext
      have hJd : J pre wr.drew := hJ pre wr _ none hJk ⟨rfl, rfl, rfl, Nat.le_refl _, fun _ _ _ => rfl⟩ (fun r e => by cases e)
      have hws : n₀ ≤ wr.drew.heap.size := Nat.le_trans hn₀ hB.size
      have hcall : ∀ (R : Ending → World → Prop), (∀ w1 lv rb fn tmps assign body, (Instr.yield l #[.agg #[.int .i64 f1, .int .i64 f2, .int .i64 t1, .int .i64 t2, lv, .map (some rb)]]).run Tryz.prog w1 = .ok (.round l fn tmps assign body) w1 → RoundIn Fence.wide (n - 1) Tryz.prog l fn tmps assign body w1 (fun e W' => ∃ b : Bool, e = .returned (.bool b) ∧ (b = true → J (pre ++ [(((f1, f2), (t1, t2)), (lv, rb))]) W' ∧ KeepIt X w1 W') ∧ (b = false → Jx (pre ++ [(((f1, f2), (t1, t2)), (lv, rb))]) W')) → Below wr.drew.heap.size wr.drew w1 → R (.returned (.agg #[.int .i64 f1, .int .i64 f2, .int .i64 t1, .int .i64 t2, lv, .map (some rb)])) w1) →
          CallsIn Fence.wide (n - 1) Tryz.prog 59 #[.agg #[.slice ga E.length gcap, .int .i64 kk, .int .i64 op], .agg #[.int .i64 f1, .int .i64 f2], .agg #[.int .i64 t1, .int .i64 t2]] wr.drew R := by
        intro R hR
        refine (callsIn_wide.2 (slabBetween_any E _ base kk op (f1, f2) (t1, t2) _ (hE'.drew) hsm hEl hkk hf ht)).mono ?_
        rintro e w1 ⟨lv, rb, rfl, hS, hb1⟩
        obtain ⟨fn, tmps, assign, body, hy, hRd⟩ := hY2 pre (((f1, f2), (t1, t2)), (lv, rb)) w1 (hJ pre _ w1 none hJd ⟨hb1.os, hb1.tape, hb1.output, hb1.size, fun i hi _ => hb1.block i hi⟩ (fun r e => by cases e)) (hS.base hws) (HX.out lv rb) (by omega)
        exact hR w1 lv rb fn tmps assign body hy hRd hb1
      have HC := hide hcall
      have HJ := hide hJ
      have HP := hide hp
      have HA := hide hadj
      clear hnext hY2 hY hcall hJd hJ hE hE' hC hC' hcs hsm hJk hr h0 hEn hCn hf ht hp hadj
      gi_region_with (first | (refine ⟨trivial, ?_⟩; gi_at_call 59; refine HC.out _ ?_; intro w1 lv rb fn tmps assign body hy hR hb1; have HR := hide hR; clear hR) | (refine RoundIn.mono HR.out ?_; rintro e W3 ⟨b, rfl, hTF⟩; have HTF := hide hTF; clear hTF hy) | gi_in)
      all_goals
        have hbB : KeepIt X W w1 := hB.trans ⟨hb1.size, fun k _ hk => hb1.block k hk⟩
        cases b
        · have hx := HTF.out.2 rfl
          clear HTF hb1 hB
          gi_wp2
          refine bodyPost_ret (results_none rfl _ _ _) rfl ?_
          exact ⟨⟨_, rfl⟩, .inr ⟨_, HX.out _ _, hx⟩⟩
        · obtain ⟨h4, h5⟩ := HTF.out.1 rfl
          have HN : Hid ((pre ++ [(((f1, f2), (t1, t2)), (lv, rb))]).map (·.1) = (Acre.adj cs).take (k + 1) ∧ J (pre ++ [(((f1, f2), (t1, t2)), (lv, rb))]) W3 ∧ KeepIt X W W3) := by
            refine ⟨?_, h4, hbB.trans h5⟩
            rw [List.map_append, HP.out, List.take_add_one, HA.out]
            rfl
          clear HTF hb1 hB h4 h5 hbB
          gi_wp2
          go_roundw
          case rel => exact ⟨k + 1, pre ++ [(((f1, f2), (t1, t2)), (lv, rb))], by push_cast; rfl, by simp [hpk], .inr (by omega), HN⟩
          case measure => simp [intOf]; omega
    · have hlen := adj_len cs
      have hfin : pre.map (·.1) = Acre.adj cs := by rw [hp, List.take_of_length_le (by omega)]
      have HF := hide hfin
      have HJk := hide hJk
      clear hr hp hJk hfin hlen
      gi_wp2
      go_end0
      exact ⟨⟨_, rfl⟩, .inl ⟨pre, HF.out, HJk.out⟩⟩

end Go.Proofs.YtkjlkbgdkdcboaaGreatDoor

