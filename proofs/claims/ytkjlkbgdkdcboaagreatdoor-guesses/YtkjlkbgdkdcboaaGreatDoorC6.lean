import Derived.Test.YtkjlkbgdkdcboaaGreatDoorKsA
import Derived.Test.YtkjlkbgdkdcboaaGreatDoorSlabB
import Derived.Test.YtkjlkbgdkdcboaaGreatDoorGyA
import Derived.Test.YtkjlkbgdkdcboaaGreatDoorCutsOf
import Derived.Test.YtkjlkbgdkdcboaaGreatDoorCE
import Derived.Stop.RegionWithIn

set_option linter.unusedSimpArgs false
set_option linter.unusedVariables false

set_option linter.unusedSimpArgs false
set_option linter.unusedVariables false
namespace Go.Proofs.YtkjlkbgdkdcboaaGreatDoor
open Go.RowKit Go.Maps Go.Shelf
attribute [local go_sem] Oper.semAt_some
theorem SlabV.base {base base' : Nat} {w : World} {E : List Acre.Ed} {kk : Nat} {op : Int} {f t : Acre.Fc} {lv : Value} {rb : Nat} (h : SlabV base w E kk op f t lv rb) (hb : base' ≤ base) : SlabV base' w E kk op f t lv rb := ⟨row_base h.row hb, Nat.le_trans hb h.lo, h.mv⟩
theorem adj_get (cs : List Acre.Fc) (k : Nat) (hk : k + 1 < cs.length) : (Acre.adj cs)[k]? = some (cs[k], cs[k + 1]) := by
  induction cs generalizing k with
  | nil => simp at hk
  | cons a r ih =>
    cases r with
    | nil => simp at hk
    | cons b r =>
      cases k with
      | zero => simp [Acre.adj]
      | succ k =>
        have := ih k (by simpa using hk)
        simpa [Acre.adj] using this
theorem adj_len (cs : List Acre.Fc) : (Acre.adj cs).length = cs.length - 1 := by
  induction cs with
  | nil => rfl
  | cons a r ih =>
    cases r with
    | nil => rfl
    | cons b r => simp only [Acre.adj, List.length_cons] at ih ⊢; omega
theorem row_low {W wr : World} {n₀ base : Nat} {e : TypeId} {size : Nat} {v : Value} {k : Nat} {xs : List Value} (h : W.ownsRow base e size v k xs) (hb : Below n₀ W wr) (hn : ∀ c, v.ownBlock = some c → c < n₀) : wr.ownsRow base e size v k xs := by
  refine ⟨h.1, ?_⟩
  rcases h.2 with h' | ⟨g, cap, cur, h1, h2, h3, h4⟩
  · exact .inl h'
  · exact .inr ⟨g, cap, cur, h1, h2, (hb.block g (hn g (by rw [h1]; rfl))).trans h3, h4⟩
structure KeepIt (X : Nat → Prop) (W W' : World) : Prop where
  size : W.heap.size ≤ W'.heap.size
  block : ∀ k, X k → k < W.heap.size → W'.heap[k]? = W.heap[k]?
theorem KeepIt.refl (X : Nat → Prop) (W : World) : KeepIt X W W := ⟨Nat.le_refl _, fun _ _ _ => rfl⟩
theorem KeepIt.trans {X : Nat → Prop} {A B C : World} (h : KeepIt X A B) (k : KeepIt X B C) : KeepIt X A C :=
  ⟨Nat.le_trans h.size k.size, fun i hx hi => (k.block i hx (Nat.lt_of_lt_of_le hi h.size)).trans (h.block i hx hi)⟩
theorem KeepIt.of_below {X : Nat → Prop} {n : Nat} {A B : World} (h : Below n A B) (hx : ∀ k, X k → k < A.heap.size → k < n) : KeepIt X A B := ⟨h.size, fun k hk hl => h.block k (hx k hk hl)⟩
theorem row_keep {X : Nat → Prop} {W wr : World} {base : Nat} {e : TypeId} {size : Nat} {v : Value} {k : Nat} {xs : List Value} (h : W.ownsRow base e size v k xs) (hb : KeepIt X W wr) (hn : ∀ c, v.ownBlock = some c → X c) : wr.ownsRow base e size v k xs := by
  refine ⟨h.1, ?_⟩
  rcases h.2 with h' | ⟨g, cap, cur, h1, h2, h3, h4⟩
  · exact .inl h'
  · have hg : v.ownBlock = some g := by rw [h1]; rfl
    exact .inr ⟨g, cap, cur, h1, h2, (hb.block g (hn g hg) (h.lt g hg).2).trans h3, h4⟩
set_option maxRecDepth 100000 in
set_option maxHeartbeats 16000000 in
theorem slabs1_in (X : Nat → Prop) (n : Nat) (hn : 2 ≤ n) (l BC BP n₀ base base2 : Nat) (E : List Acre.Ed) (u : Value) (kk : Nat) (op : Int) (cs : List Acre.Fc) (cv : Value) (J Jx : List Sl → World → Prop)
    (hY : ∀ pre x W1, J pre W1 → SlabV n₀ W1 E kk op x.1.1 x.1.2 x.2.1 x.2.2 → (pre ++ [x]).map (·.1) = (Acre.adj cs).take (pre ++ [x]).length → pre.length < cs.length - 1 → YieldAt Fence.wide (n - 1) Tryz.prog l #[slV4 x] W1 fun e W' =>
      (e = .returned (.bool true) ∧ J (pre ++ [x]) W' ∧ KeepIt X W1 W') ∨ (e = .returned (.bool false) ∧ Jx (pre ++ [x]) W'))
    (W : World) (hn₀ : n₀ ≤ W.heap.size) (hJ : AbidesFrom W.heap.size J) (hBC : X BC) (hBP : X BP) (bC : Box W BC [cv]) (bP : Box W BP [u, .int .i64 kk, .int .i64 op])
    (hE : W.ownsRow base 42 4 u E.length (flatE E)) (hEn : ∀ c, u.ownBlock = some c → X c) (hC : W.ownsRow base2 38 2 cv cs.length (cs.flatMap frL)) (hCn : ∀ c, cv.ownBlock = some c → X c)
    (hsm : ∀ e ∈ E, SmE e) (hEl : E.length ≤ 24) (hkk : kk ≤ 24) (hcs : ∀ x ∈ cs, CutOk x) (hcl : cs.length ≤ 100000) (h0 : J [] W) :
    CallsIn Fence.wide n Tryz.prog 58 #[.func (.yield l) #[] #[], .pointer (some ⟨BC, 0, none⟩), .pointer (some ⟨BP, 0, none⟩)] W fun e W' => (∃ v, e = .returned v) ∧
      ((∃ xs : List Sl, xs.map (·.1) = Acre.adj cs ∧ J xs W') ∨ (∃ pre : List Sl, pre.map (·.1) = (Acre.adj cs).take pre.length ∧ Jx pre W')) := by
  obtain ⟨ca, cg, ccap, rfl, hca, _⟩ := row_form hC
  obtain ⟨ga, gb, gcap, rfl, hga, _⟩ := row_form hE
  refine callsIn_of_wp Tryz.func58 rfl trivial ?_ rfl
  simp only [Tryz.ntmps58, List.size_toArray, List.length_cons, List.length_nil, Nat.reduceAdd, Nat.reduceSub, Array.replicate_succ, Array.replicate_zero, List.push_toArray, List.append_toArray, List.nil_append, List.cons_append]
  gi_wp2
  gi_loopw [4] (fun i wr => ∃ (k : Nat) (pre : List Sl), i = .int .i64 (k + 1) ∧ pre.length = k ∧ (k = 0 ∨ k + 1 ≤ cs.length) ∧ Hid (pre.map (·.1) = (Acre.adj cs).take k ∧ J pre wr ∧ KeepIt X W wr)) (fun i _ => cs.length - (intOf i).toNat)
  case atStart => exact ⟨0, [], rfl, rfl, .inl rfl, rfl, h0, KeepIt.refl _ _⟩
  case round =>
    obtain ⟨k, pre, rfl, hpk, hk, hr⟩ := hrel
    obtain ⟨hp, hJk, hB⟩ := hr.out
    have bCk := bC.block (hB.block _ hBC (bC.lt (by simp)))
    have bPk := bP.block (hB.block _ hBP (bP.lt (by simp)))
    have c0 := bCk.c 0 _ rfl
    have p0 := bPk.c 0 _ rfl
    have p1 := bPk.c 1 _ rfl
    have p2 := bPk.c 2 _ rfl
    by_cases hlt : k + 1 < cs.length
    · obtain rfl := hca (by omega)
      have hC' := row_keep hC hB hCn
      have hE' := row_keep hE hB hEn
      obtain ⟨a0, a1⟩ := rowF_cells hC' k (by omega)
      obtain ⟨b0, b1⟩ := rowF_cells hC' (k + 1) hlt
      have hf := hcs cs[k] (List.getElem_mem _)
      have ht := hcs cs[k + 1] (List.getElem_mem _)
      have hadj := adj_get cs k hlt
      generalize cs[k] = f at *
      generalize cs[k + 1] = t at *
      obtain ⟨f1, f2⟩ := f
      obtain ⟨t1, t2⟩ := t
      dsimp only at a0 a1 b0 b1
      have hkk0 : (0 : Int) ≤ (k : Int) := Int.natCast_nonneg _
      have hkk1 : (k : Int) < (cs.length : Int) := by omega
      have hkk2 : (k : Int) + 1 < (cs.length : Int) := by omega
      have hkk3 : (0 : Int) ≤ (k : Int) + 1 := by omega
      have hsub : IntKind.i64.wrap ((k : Int) + 1 - 1) = (k : Int) := by rw [Int.add_sub_cancel]; exact wrap_in _ (by omega)
      have hw0 : IntKind.i64.wrap (k : Int) = (k : Int) := wrap_in _ (by omega)
      have hw1 : IntKind.i64.wrap ((k : Int) + 1) = (k : Int) + 1 := wrap_in _ (by omega)
      have hlo : k < cs.length := by omega
      have hlo2 : decide ((k : Int) < (cs.length : Int)) = true := decide_eq_true hkk1
      have hnil : ¬ cs = [] := fun e => by rw [e] at hlt; simp at hlt
      gi_wp2
      have h1n : 1 ≤ n := by omega
      have hY2 : ∀ pre x W1, J pre W1 → SlabV n₀ W1 E kk op x.1.1 x.1.2 x.2.1 x.2.2 → (pre ++ [x]).map (·.1) = (Acre.adj cs).take (pre ++ [x]).length → pre.length < cs.length - 1 → YieldAt Fence.wide (n - 1) Tryz.prog l #[slV4 x] W1 fun e W' =>
          ∃ b : Bool, e = .returned (.bool b) ∧ (b = true → J (pre ++ [x]) W' ∧ KeepIt X W1 W') ∧ (b = false → Jx (pre ++ [x]) W') := fun pre x W1 h1 h2 h3 h4 =>
        (hY pre x W1 h1 h2 h3 h4).mono (fun e W' h => by
          rcases h with ⟨rfl, h4, h5⟩ | ⟨rfl, h4⟩
          · exact ⟨true, rfl, fun _ => ⟨h4, h5⟩, (fun h => by cases h)⟩
          · exact ⟨false, rfl, (fun h => by cases h), fun _ => h4⟩)
      have hnext : ∀ lv rb, (pre ++ [((((f1, f2), (t1, t2)), (lv, rb)) : Sl)]).map (·.1) = (Acre.adj cs).take (pre ++ [((((f1, f2), (t1, t2)), (lv, rb)) : Sl)]).length := fun lv rb => by
        rw [List.length_append, hpk, List.length_singleton, List.map_append, hp, List.take_add_one, hadj]
        rfl
      have HX := hide hnext
      have hJd : J pre wr.drew := hJ pre wr _ none hJk ⟨rfl, rfl, rfl, Nat.le_refl _, fun _ _ _ => rfl⟩ (fun r e => by cases e)
      have hws : n₀ ≤ wr.drew.heap.size := Nat.le_trans hn₀ hB.size
      have hcall : ∀ (R : Ending → World → Prop), (∀ w1 lv rb fn tmps assign body, (Instr.yield l #[.agg #[.int .i64 f1, .int .i64 f2, .int .i64 t1, .int .i64 t2, lv, .map (some rb)]]).run Tryz.prog w1 = .ok (.round l fn tmps assign body) w1 → RoundIn Fence.wide (n - 1) Tryz.prog l fn tmps assign body w1 (fun e W' => ∃ b : Bool, e = .returned (.bool b) ∧ (b = true → J (pre ++ [(((f1, f2), (t1, t2)), (lv, rb))]) W' ∧ KeepIt X w1 W') ∧ (b = false → Jx (pre ++ [(((f1, f2), (t1, t2)), (lv, rb))]) W')) → Below wr.drew.heap.size wr.drew w1 → R (.returned (.agg #[.int .i64 f1, .int .i64 f2, .int .i64 t1, .int .i64 t2, lv, .map (some rb)])) w1) →
          CallsIn Fence.wide (n - 1) Tryz.prog 59 #[.agg #[.slice ga E.length gcap, .int .i64 kk, .int .i64 op], .agg #[.int .i64 f1, .int .i64 f2], .agg #[.int .i64 t1, .int .i64 t2]] wr.drew R := by
        intro R hR
        refine (callsIn_wide.2 (slabBetween_any E _ base kk op (f1, f2) (t1, t2) _ (hE'.drew) hsm hEl hkk hf ht)).mono ?_
        rintro e w1 ⟨lv, rb, rfl, hS, hb1⟩
        obtain ⟨fn, tmps, assign, body, hy, hRd⟩ := hY2 pre (((f1, f2), (t1, t2)), (lv, rb)) w1 (hJ pre _ w1 none hJd ⟨hb1.os, hb1.tape, hb1.output, hb1.size, fun i hi _ => hb1.block i hi⟩ (fun r e => by cases e)) (hS.base hws) (HX.out lv rb) (by omega)
        exact hR w1 lv rb fn tmps assign body hy hRd hb1
      have HC := hide hcall
      have HJ := hide hJ
      have HP := hide hp
      have HA := hide hadj
      clear hnext hY2 hY hcall hJd hJ hE hE' hC hC' hcs hsm hJk hr h0 hEn hCn hf ht hp hadj
      gi_region_with (first | (refine ⟨trivial, ?_⟩; gi_at_call 59; refine HC.out _ ?_; intro w1 lv rb fn tmps assign body hy hR hb1; have HR := hide hR; clear hR) | (refine RoundIn.mono HR.out ?_; rintro e W3 ⟨b, rfl, hTF⟩; have HTF := hide hTF; clear hTF hy) | gi_in)
      all_goals
        have hbB : KeepIt X W w1 := hB.trans ⟨hb1.size, fun k _ hk => hb1.block k hk⟩
        cases b
        · have hx := HTF.out.2 rfl
          clear HTF hb1 hB
          gi_wp2
          refine bodyPost_ret (results_none rfl _ _ _) rfl ?_
          exact ⟨⟨_, rfl⟩, .inr ⟨_, HX.out _ _, hx⟩⟩
        · obtain ⟨h4, h5⟩ := HTF.out.1 rfl
          have HN : Hid ((pre ++ [(((f1, f2), (t1, t2)), (lv, rb))]).map (·.1) = (Acre.adj cs).take (k + 1) ∧ J (pre ++ [(((f1, f2), (t1, t2)), (lv, rb))]) W3 ∧ KeepIt X W W3) := by
            refine ⟨?_, h4, hbB.trans h5⟩
            rw [List.map_append, HP.out, List.take_add_one, HA.out]
            rfl
          clear HTF hb1 hB h4 h5 hbB
          gi_wp2
          go_roundw
          case rel => exact ⟨k + 1, pre ++ [(((f1, f2), (t1, t2)), (lv, rb))], by push_cast; rfl, by simp [hpk], .inr (by omega), HN⟩
          case measure => simp [intOf]; omega
    · have hlen := adj_len cs
      have hfin : pre.map (·.1) = Acre.adj cs := by rw [hp, List.take_of_length_le (by omega)]
      have HF := hide hfin
      have HJk := hide hJk
      clear hr hp hJk hfin hlen
      gi_wp2
      go_end0
      exact ⟨⟨_, rfl⟩, .inl ⟨pre, HF.out, HJk.out⟩⟩
end Go.Proofs.YtkjlkbgdkdcboaaGreatDoor

set_option linter.unusedSimpArgs false
set_option linter.unusedVariables false
namespace Go.Proofs.YtkjlkbgdkdcboaaGreatDoor
open Go.RowKit Go.Maps Go.Shelf
attribute [local go_sem] Oper.semAt_some
structure Slb (w w' : World) (BC BP : Nat) (cv u : Value) (kk : Nat) (op : Int) (cs : List Acre.Fc) : Prop where
  bC : Box w' BC [cv]
  bP : Box w' BP [u, .int .i64 kk, .int .i64 op]
  row : w'.ownsRow w.heap.size 38 2 cv cs.length (cs.flatMap frL)
  bel : Below w.heap.size w w'
set_option maxRecDepth 100000 in
set_option maxHeartbeats 2000000 in
theorem slabs_any (E : List Acre.Ed) (u : Value) (base kk : Nat) (op : Int) (more : List Acre.Fc) (mv : Value) (base2 : Nat) (w : World) (hE : w.ownsRow base 42 4 u E.length (flatE E)) (hm : w.ownsRow base2 38 2 mv more.length (more.flatMap frL))
    (hsm : ∀ e ∈ E, SmE e) (hEl : E.length ≤ 24) (hml : more.length ≤ 8000) (hmo : ∀ x ∈ more, Acre.Red x ∧ SmF x) :
    Calls Tryz.prog 28 #[.agg #[u, .int .i64 kk, .int .i64 op], mv] w fun e w' => ∃ BC BP cv, e = .returned (.func (.func 58) #[] #[.pointer (some ⟨BC, 0, none⟩), .pointer (some ⟨BP, 0, none⟩)]) ∧ Slb w w' BC BP cv u kk op (Acre.cutsP E more) := by
  have HC := hide (fun (V : World) (hb : Below w.heap.size w V) => cutsOf_any E u base more mv base2 V (row_call hE hb) (row_call hm hb) hsm hEl hml hmo)
  obtain ⟨ga, gb, gcap, rfl, hga, hcap⟩ := row_form hE
  obtain ⟨ha, hb, hcp, rfl, hha, _⟩ := row_form hm
  go_enter Tryz.func28, Tryz.ntmps28
  have bP := Box.new w [.slice ga E.length gcap, .int .i64 kk, .int .i64 op] 48
  have q1 := below1 w (.cells #[.slice ga E.length gcap, .int .i64 kk, .int .i64 op] 48)
  go_upto_region 1 with fail
  generalize w.alloc (.cells #[.slice ga E.length gcap, .int .i64 kk, .int .i64 op] 48) = W0 at *
  have c0 := bP.c 0 _ rfl
  have hlt := bP.lt (by simp)
  go_wp2_with (go_at_call 57; refine (HC.out W0 q1).mono ?_; rintro e w1 ⟨v, rfl, hrow, hb1⟩; obtain ⟨va, vb, vcap, rfl, hva, _⟩ := row_form hrow)
  go_ret
  refine ⟨w1.heap.size, w.heap.size, .slice va (Acre.cutsP E more).length vcap, rfl, ?_⟩
  have q2 := below1 w1 (.cells #[.slice va (Acre.cutsP E more).length vcap] 143)
  exact ⟨Box.new w1 [.slice va (Acre.cutsP E more).length vcap] 143, (bP.later (by simp) hb1).later (by simp) q2, row_base (row_call hrow q2) q1.size, below_call q2 (below_call hb1 q1)⟩
theorem slabs_seq (X : Nat → Prop) (n : Nat) (hn : 2 ≤ n) {w w' : World} {BC BP base : Nat} {cv u : Value} {kk : Nat} {op : Int} {E : List Acre.Ed} {cs : List Acre.Fc} (h : Slb w w' BC BP cv u kk op cs) (hE : w'.ownsRow base 42 4 u E.length (flatE E))
    (hsm : ∀ e ∈ E, SmE e) (hEl : E.length ≤ 24) (hkk : kk ≤ 24) (hcs : ∀ x ∈ cs, CutOk x) (hcl : cs.length ≤ 100000) (hXC : X BC) (hXP : X BP) (hXu : ∀ c, u.ownBlock = some c → X c) (hXv : ∀ c, cv.ownBlock = some c → X c) :
    SeqAt Fence.wide n Tryz.prog 58 #[.pointer (some ⟨BC, 0, none⟩), .pointer (some ⟨BP, 0, none⟩)] (fun x : Sl => #[slV4 x]) (KeepIt X) (fun x W => SlabV w'.heap.size W E kk op x.1.1 x.1.2 x.2.1 x.2.2) (fun xs => xs.map (·.1) = Acre.adj cs) (fun pre => pre.map (·.1) = (Acre.adj cs).take pre.length) (cs.length - 1) w' := by
  intro l J Jx W hb hJ _ hY h0
  exact slabs1_in X n hn l BC BP w'.heap.size base w.heap.size E u kk op cs cv J Jx hY W hb.size hJ hXC hXP (h.bC.later (by simp) hb) (h.bP.later (by simp) hb) (row_call hE hb) hXu (row_call h.row hb) hXv hsm hEl hkk hcs hcl h0
end Go.Proofs.YtkjlkbgdkdcboaaGreatDoor
namespace Go.Proofs.YtkjlkbgdkdcboaaGreatDoor
theorem low_den (n d : Int) : (Acre.low n d).2 ≤ d.natAbs := by
  have h : (Acre.low n d).2.natAbs ≤ d.natAbs := by
    unfold Acre.low
    rw [Int.natAbs_tdiv]
    exact Nat.div_le_self _ _
  omega
theorem mul_small {x y : Int} (hx : -24 ≤ x ∧ x ≤ 24) (hy : -24 ≤ y ∧ y ≤ 24) : (x * y).natAbs ≤ 576 := by
  rw [Int.natAbs_mul]
  exact Nat.mul_le_mul (show x.natAbs ≤ 24 by omega) (show y.natAbs ≤ 24 by omega)
theorem onG {p : Acre.Pt} (h : Acre.onGrid p = true) : (-12 ≤ p.1 ∧ p.1 ≤ 12) ∧ -12 ≤ p.2 ∧ p.2 ≤ 12 := by
  unfold Acre.onGrid at h; simp at h; omega
theorem turn_bd {e f : Acre.Ed} (he : Acre.onGrid e.1 = true ∧ Acre.onGrid e.2 = true) (hf : Acre.onGrid f.1 = true ∧ Acre.onGrid f.2 = true) : (Acre.turn e.1 e.2 f.1 f.2).natAbs ≤ 1152 := by
  have a1 := onG he.1
  have a2 := onG he.2
  have a3 := onG hf.1
  have a4 := onG hf.2
  have m1 := mul_small (x := e.2.1 - e.1.1) (y := f.2.2 - f.1.2) (by omega) (by omega)
  have m2 := mul_small (x := e.2.2 - e.1.2) (y := f.2.1 - f.1.1) (by omega) (by omega)
  unfold Acre.turn
  omega
theorem cutsP_ok {E : List Acre.Ed} {more : List Acre.Fc} (F : Acre.Fld E) (hm : ∀ x ∈ more, CutOk x) : ∀ x ∈ Acre.cutsP E more, CutOk x := by
  intro x hx
  refine ⟨Acre.cutsP_lim F (fun y hy => (hm y hy).lim) x hx, ?_⟩
  unfold Acre.cutsP at hx
  rw [Acre.mem_sortD] at hx
  unfold Acre.cutL at hx
  rcases List.mem_append.1 hx with h | h
  · exact (hm x h).d
  · obtain ⟨i, hi, hx⟩ := List.mem_flatMap.1 h
    have hi := List.mem_range.1 hi
    unfold Acre.cutI at hx
    rcases List.mem_cons.1 hx with rfl | hx
    · show (1 : Int) ≤ 1152; omega
    · obtain ⟨j, hj, hx⟩ := List.mem_filterMap.1 hx
      have hj := List.mem_range.1 hj
      have hb := turn_bd (F.grid _ (Acre.gd_mem hi)) (F.grid _ (Acre.gd_mem (show j < E.length by omega)))
      unfold Acre.crossOf at hx
      split at hx
      · simp at hx
      · split at hx
        · simp only [Option.some.injEq] at hx
          rw [← hx]
          unfold Acre.crossX
          have := low_den ((Acre.gd E i).1.1 * Acre.turn (Acre.gd E i).1 (Acre.gd E i).2 (Acre.gd E j).1 (Acre.gd E j).2 + Acre.share (Acre.gd E i).1.1 (Acre.gd E i).1.2 (Acre.gd E j).1.1 (Acre.gd E j).1.2 (Acre.gd E j).2.1 (Acre.gd E j).2.2 * ((Acre.gd E i).2.1 - (Acre.gd E i).1.1)) (Acre.turn (Acre.gd E i).1 (Acre.gd E i).2 (Acre.gd E j).1 (Acre.gd E j).2)
          omega
        · simp at hx
theorem flatMap_le {α β : Type} (f : α → List β) (m : Nat) : ∀ (l : List α), (∀ a ∈ l, (f a).length ≤ m) → (l.flatMap f).length ≤ m * l.length
  | [], _ => by simp
  | a :: r, h => by
    have h1 := flatMap_le f m r (fun b hb => h b (List.mem_cons_of_mem _ hb))
    have h2 := h a (List.mem_cons_self ..)
    rw [List.flatMap_cons, List.length_append, List.length_cons, Nat.mul_succ]
    omega
theorem cutsP_len {E : List Acre.Ed} {more : List Acre.Fc} (hE : E.length ≤ 24) : (Acre.cutsP E more).length ≤ more.length + 600 := by
  unfold Acre.cutsP
  refine Nat.le_trans (sortD_len _) ?_
  unfold Acre.cutL
  rw [List.length_append]
  have h := flatMap_le (Acre.cutI E) 25 (List.range E.length) (fun i hi => by
    have hi := List.mem_range.1 hi
    unfold Acre.cutI
    have := List.length_filterMap_le (fun j => Acre.crossOf (Acre.gd E i) (Acre.gd E j)) (List.range i)
    rw [List.length_range] at this
    rw [List.length_cons]
    omega)
  rw [List.length_range] at h
  have := Nat.mul_le_mul_left 25 hE
  omega
end Go.Proofs.YtkjlkbgdkdcboaaGreatDoor
namespace Go.Proofs.YtkjlkbgdkdcboaaGreatDoor
open Go.RowKit Go.Maps
attribute [local go_sem ↓] Go.wp_at_zero Go.wp_at_succ
def within (f : Acre.Fc) : Bool := (decide (1 ≤ f.2) && decide (f.2 ≤ 1152)) && ((decide (-(12 * f.2) ≤ f.1) && decide (f.1 ≤ 12 * f.2)) && Acre.g f.1 f.2 == 1)
set_option maxHeartbeats 400000 in
theorem isWithin_any (N D : Int) (w : World) :
    Calls Tryz.prog 134 #[.agg #[.int .i64 N, .int .i64 D], .int .i64 12] w fun e w' => e = .returned (.bool (within (N, D))) ∧ Below w.heap.size w w' := by
  unfold within
  dsimp only
  by_cases h1 : D < 1
  · go_enter Tryz.func134, Tryz.ntmps134
    go_wp2
    go_ret
    exact ⟨ret_bool (by rw [decide_eq_false (show ¬ 1 ≤ D by omega)]; rfl), below1 _ _⟩
  · by_cases h2 : 1152 < D
    · go_enter Tryz.func134, Tryz.ntmps134
      go_wp2
      go_ret
      exact ⟨ret_bool (by rw [decide_eq_false (show ¬ D ≤ 1152 by omega)]; simp), below1 _ _⟩
    · have e1 : decide (1 ≤ D) = true := by simp; omega
      have e2 : decide (D ≤ 1152) = true := by simp; omega
      rw [e1, e2]
      by_cases h3 : -(12 * D) ≤ N
      · by_cases h4 : N ≤ 12 * D
        · go_enter Tryz.func134, Tryz.ntmps134
          go_wp2_with fail
          refine (gcd_any _ _ _ (by omega) (by omega)).mono ?_
          rintro e w1 ⟨rfl, hb1⟩
          go_wp2
          go_ret
          exact ⟨ret_bool (by simp; omega), below_call hb1 (below1 _ _)⟩
        · go_enter Tryz.func134, Tryz.ntmps134
          go_wp2
          go_ret
          exact ⟨ret_bool (by simp; omega), below1 _ _⟩
      · go_enter Tryz.func134, Tryz.ntmps134
        go_wp2
        go_ret
        exact ⟨ret_bool (by simp; omega), below1 _ _⟩
theorem within_ok {f : Acre.Fc} (h : within f = true) : CutOk f := by
  unfold within at h
  simp only [Bool.and_eq_true, decide_eq_true_eq, beq_iff_eq] at h
  obtain ⟨⟨h1, h2⟩, ⟨h3, h4⟩, h5⟩ := h
  have hp : 0 < f.2 := by omega
  refine ⟨⟨⟨hp, h5⟩, ?_, ?_⟩, h2⟩
  · exact (Acre.le_v (f := f) (a := -12) hp).1 (by omega)
  · exact (Acre.v_le (f := f) (a := 12) hp).1 (by omega)
theorem within_sm {f : Acre.Fc} (h : within f = true) : SmF f := by
  have := (within_ok h).n
  exact ⟨by omega, by omega⟩
def isL (E : List Acre.Ed) (n : Int) : Bool := decide (n < E.length) && !Acre.upr (Acre.gd E n.toNat)
set_option maxRecDepth 100000 in
set_option maxHeartbeats 400000 in
theorem isLine_any (E : List Acre.Ed) (u : Value) (base B : Nat) (n : Int) (w : World) (hE : w.ownsRow base 42 4 u E.length (flatE E)) (hB : w.cell? ⟨B, 0, none⟩ = some u) (h0 : 0 ≤ n) (hEl : E.length ≤ 24) :
    Calls Tryz.prog 132 #[.int .i64 n, .pointer (some ⟨B, 0, none⟩)] w fun e w' => e = .returned (.bool (isL E n)) ∧ Below w.heap.size w w' := by
  obtain ⟨ga, gb, gcap, rfl, hga, hcap⟩ := row_form hE
  by_cases hn : n < E.length
  · obtain ⟨k, rfl⟩ : ∃ k : Nat, n = k := ⟨n.toNat, by omega⟩
    have hk : k < E.length := by omega
    obtain rfl := hga (by omega)
    obtain ⟨x0, x1, x2, x3⟩ := rowE_cells hE k hk
    have hgd : Acre.gd E k = E[k] := by unfold Acre.gd; simp [hk]
    have hr : isL E k = !Acre.upr E[k] := by unfold isL; simp [hgd, hn]
    rw [hr]
    have t1 : decide ((k : Int) < (E.length : Int)) = true := decide_eq_true hn
    obtain ⟨⟨⟨e0, e1⟩, ⟨e2, e3⟩⟩, he⟩ : ∃ e, E[k] = e := ⟨_, rfl⟩
    rw [he] at x0 x1 x2 x3 ⊢
    clear hr hgd he hE
    dsimp only at x0 x1 x2 x3
    go_enter Tryz.func132, Tryz.ntmps132
    go_wp2_with fail
    refine (isUpright_any ((e0, e1), (e2, e3)) w).mono ?_
    rintro e w1 ⟨rfl, hb1⟩
    go_wp2
    go_ret
    exact ⟨rfl, hb1⟩
  · have hr : isL E n = false := by unfold isL; simp; intro h; omega
    rw [hr]
    have t1 : decide (n < (E.length : Int)) = false := decide_eq_false hn
    go_enter Tryz.func132, Tryz.ntmps132
    go_wp2
    go_ret
    exact ⟨rfl, Below.refl _ _⟩
def pieceC (E : List Acre.Ed) (d : Dr) : Option Acre.Pc :=
  if within d.f = true ∧ within d.t = true ∧ Acre.ordF d.f d.t < 0 ∧ isL E d.lo = true ∧ isL E d.hi = true then some ((d.f, d.t), (Acre.gd E d.lo.toNat, Acre.gd E d.hi.toNat)) else none
def pcV (p : Acre.Pc) : Value := .agg (pcL p).toArray
structure PcPost (E : List Acre.Ed) (d : Dr) (w : World) (e : Ending) (w' : World) : Prop where
  bel : Below w.heap.size w w'
  out : (pieceC E d = none ∧ ∃ j, e = misfit j) ∨ (∃ p, pieceC E d = some p ∧ e = .returned (pcV p))
structure PIS (w V : World) (l : List Value) (u : Value) (z : List Value) : Prop where
  bd : Box V w.heap.size l
  be : Box V (w.heap.size + 1) [u]
  bz : Box V (w.heap.size + 1 + 1) z
  bel : Below w.heap.size w V
theorem PIS.later {w V V' : World} {l z : List Value} {u : Value} (h : PIS w V l u z) (hl : 0 < l.length) (hz : 0 < z.length) (hb : Below V.heap.size V V') : PIS w V' l u z :=
  ⟨h.bd.later hl hb, h.be.later (by simp) hb, h.bz.later hz hb, below_call hb h.bel⟩
theorem PIS.drew {w V : World} {l z : List Value} {u : Value} (h : PIS w V l u z) (hl : 0 < l.length) (hz : 0 < z.length) : PIS w V.drew l u z := h.later hl hz (Below.drew (Below.refl _ _))
theorem PcPost.no {E : List Acre.Ed} {d : Dr} {w w' : World} {e : Ending} (hb : Below w.heap.size w w') (h : pieceC E d = none) (he : ∃ j, e = misfit j) : PcPost E d w e w' := ⟨hb, .inl ⟨h, he⟩⟩
end Go.Proofs.YtkjlkbgdkdcboaaGreatDoor
