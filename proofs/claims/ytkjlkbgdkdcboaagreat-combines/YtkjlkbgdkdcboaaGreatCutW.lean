import Derived.Test.YtkjlkbgdkdcboaaGreatSlA
import Derived.Test.YtkjlkbgdkdcboaaGreatJoinW

set_option linter.unusedSimpArgs false
set_option linter.unusedVariables false

set_option linter.unusedSimpArgs false
set_option linter.unusedVariables false

namespace Go.Proofs.YtkjlkbgdkdcboaaGreat
open Go.RowKit Go.Maps Go.Shelf
attribute [local go_sem] Oper.semAt_some

theorem psOf_all (E : List Acre.Ed) (kk : Nat) (op : Int) (cs : List Acre.Fc) (xs : List Sl) (h : xs.map (·.1) = Acre.adj cs) : psOf E kk op xs = Acre.joinAll (Acre.bandsP E kk op) cs := by
  unfold psOf Acre.joinAll
  rw [h]
theorem enter86 (args : Array Value) (w : World) : (callFunc 86 args).run Tryz.prog w = .ok (.enter 86 args) w := by
  simp [go_sem, Tryz.func86]

set_option maxRecDepth 100000 in
set_option maxHeartbeats 2000000 in
theorem cut_any (E : List Acre.Ed) (u : Value) (base kk : Nat) (op : Int) (w : World) (F : Acre.Fld E) (hE : w.ownsRow base 37 4 u E.length (flatE E)) (hsm : ∀ e ∈ E, SmE e) (hEl : E.length ≤ 24) (hkk : kk ≤ 24) :
    Calls Tryz.prog 24 #[.agg #[u, .int .i64 kk, .int .i64 op]] w fun e w' => ∃ v, e = .returned v ∧ w'.ownsRow w.heap.size 39 12 v (Acre.joinAll (Acre.bandsP E kk op) (Acre.cutsP E [])).length (flatP (Acre.joinAll (Acre.bandsP E kk op) (Acre.cutsP E []))) ∧ Below w.heap.size w w' := by
  have HC := hide (fun (V : World) (hb : Below w.heap.size w V) => slabs_any E u base kk op [] (.slice none 0 0) 0 V (row_call hE hb) (World.ownsRow_nil _ _ _ _) hsm hEl (by simp) (by simp))
  have hcl := cutsP_len (E := E) (more := []) hEl
  have hok := cutsP_ok (E := E) (more := []) F (by simp)
  have HJ := hide (fun (V w1 : World) (hb : Below w.heap.size w V) (BC BP : Nat) (cv : Value) (h : Slb V w1 BC BP cv u kk op (Acre.cutsP E [])) => callsIn_wide.1 (joined_in 86 #[.pointer (some ⟨BC, 0, none⟩), .pointer (some ⟨BP, 0, none⟩)] enter86 E kk op w1.heap.size _ _ ((Acre.cutsP E []).length - 1) (by simp at hcl; omega) w1 (Nat.le_refl _) hsm hEl ((slabs_seq (fun k => k < w1.heap.size) 18 (by omega) h (row_call (row_call hE hb) h.bel) hsm hEl hkk hok (by simp at hcl; omega) (h.bC.lt (by simp)) (h.bP.lt (by simp)) (fun c e => ((row_call (row_call hE hb) h.bel).lt c e).2) (fun c e => (h.row.lt c e).2)).weak (fun A B hAB => KeepIt.of_below hAB (fun _ hk _ => hk)))))
  obtain ⟨ga, gb, gcap, rfl, hga, hcap⟩ := row_form hE
  go_enter Tryz.func24, Tryz.ntmps24
  clear hE
  have q1 := below1 w (.cells #[.slice ga E.length gcap, .int .i64 kk, .int .i64 op] 69)
  go_wp2_with (first
    | (go_at_call 52; refine (HC.out _ q1).mono ?_; rintro e w1 ⟨BC, BP, cv, rfl, hS⟩; have HS := hide hS; clear hS)
    | (go_at_call 51; refine (HJ.out _ w1 q1 BC BP cv HS.out).mono ?_; rintro e w2 ⟨v, xs, rfl, hxs, hrow, hb2⟩; rw [psOf_all E kk op _ xs hxs] at hrow; obtain ⟨va, vb, vcap, rfl, hva, _⟩ := row_form hrow))
  go_ret
  exact ⟨_, rfl, row_base hrow (Nat.le_trans q1.size HS.out.bel.size), below_call hb2 (below_call HS.out.bel q1)⟩

end Go.Proofs.YtkjlkbgdkdcboaaGreat
