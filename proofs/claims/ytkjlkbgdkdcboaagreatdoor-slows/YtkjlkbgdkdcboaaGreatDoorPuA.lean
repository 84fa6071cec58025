import Derived.Test.YtkjlkbgdkdcboaaGreatDoorDoA
import Derived.Test.YtkjlkbgdkdcboaaGreatDoorBsA
import Derived.Test.YtkjlkbgdkdcboaaGreatDoorRtA

set_option linter.unusedSimpArgs false
set_option linter.unusedVariables false

set_option linter.unusedSimpArgs false
set_option linter.unusedVariables false

namespace Go.Proofs.YtkjlkbgdkdcboaaGreatDoor.Ref
open Go.RowKit Go.Maps
attribute [local go_sem ↓] Go.wp_at_zero Go.wp_at_succ

def fcL (f : Acre.Fc) : List Value := [.int .i64 f.1, .int .i64 f.2]
def flatF (l : List Acre.Fc) : List Value := l.flatMap fcL
theorem flatF_snoc (l : List Acre.Fc) (f : Acre.Fc) : flatF (l ++ [f]) = flatF l ++ fcL f := by simp [flatF]
def fcV (f : Acre.Fc) : Value := .agg #[.int .i64 f.1, .int .i64 f.2]
/-- a fraction as it comes up -/
def Mid (f : Acre.Fc) : Prop := (-3000000000 ≤ f.1 ∧ f.1 ≤ 3000000000) ∧ (0 < f.2 ∧ f.2 ≤ 70000000)

/-- one step of putting a fraction in -/
def pst (f : Acre.Fc) (s : List Acre.Fc × Bool) (z : Acre.Fc) : List Acre.Fc × Bool :=
  if (!s.2 && decide (Acre.Lt f z)) = true then (s.1 ++ [f] ++ [z], true) else (s.1 ++ [z], s.2 || decide (z = f))
def pfin (f : Acre.Fc) (s : List Acre.Fc × Bool) : List Acre.Fc := if s.2 = true then s.1 else s.1 ++ [f]
theorem pst_true (f : Acre.Fc) : ∀ (l acc : List Acre.Fc), l.foldl (pst f) (acc, true) = (acc ++ l, true)
  | [], acc => by simp
  | z :: r, acc => by
    rw [List.foldl_cons]
    have : pst f (acc, true) z = (acc ++ [z], true) := by unfold pst; simp
    rw [this, pst_true f r]
    simp
theorem pst_false (f : Acre.Fc) : ∀ (l acc : List Acre.Fc), pfin f (l.foldl (pst f) (acc, false)) = acc ++ Acre.insF f l
  | [], acc => by simp [pfin, Acre.insF]
  | z :: r, acc => by
    rw [List.foldl_cons]
    unfold Acre.insF
    by_cases h1 : f = z
    · subst h1
      have : pst f (acc, false) f = (acc ++ [f], true) := by unfold pst; simp [Acre.Lt.irrefl]
      rw [this, pst_true, if_pos rfl]
      simp [pfin]
    · rw [if_neg h1]
      by_cases h2 : Acre.Lt f z
      · have : pst f (acc, false) z = (acc ++ [f] ++ [z], true) := by unfold pst; simp [h2]
        rw [this, pst_true, if_pos h2]
        simp [pfin]
      · have : pst f (acc, false) z = (acc ++ [z], false) := by unfold pst; simp [h2, Ne.symm h1]
        rw [this, pst_false f r, if_neg h2]
        simp
theorem pst_len (f : Acre.Fc) : ∀ (l : List Acre.Fc) (s : List Acre.Fc × Bool), (l.foldl (pst f) s).1.length + (if (l.foldl (pst f) s).2 = true then 0 else 1) ≤ s.1.length + l.length + (if s.2 = true then 0 else 1)
  | [], s => Nat.le_refl _
  | z :: r, s => by
    rw [List.foldl_cons]
    have ih := pst_len f r (pst f s z)
    have : (pst f s z).1.length + (if (pst f s z).2 = true then 0 else 1) ≤ s.1.length + 1 + (if s.2 = true then 0 else 1) := by
      unfold pst
      cases hs : s.2
      · by_cases h2 : Acre.Lt f z
        · simp [h2]
        · by_cases h1 : z = f
          · subst h1; simp [Acre.Lt.irrefl]
          · simp [h2, h1]
      · simp
    simp only [List.length_cons]
    omega

theorem info50 : (Tryz.prog.info? 90).map (fun i => (i.zero, i.size, i.bytes)) = some (some (.agg #[.int .i64 0, .int .i64 0]), 2, 16) := by kernel_rfl

theorem eql50 (u v x y : Int) (w' : World) : (binOp .eql 90 (.agg #[.int .i64 u, .int .i64 v]) (.agg #[.int .i64 x, .int .i64 y])).run Tryz.prog w' = .ok (.bool (u == x && v == y)) w' := by
  by_cases h1 : u = x <;> by_cases h2 : v = y <;> simp [go_sem, h1, h2]

/-- while a fraction is put in -/
structure PuI (w wr : World) (f : Acre.Fc) (v : Value) (out : List Acre.Fc) : Prop where
  row : wr.ownsRow (w.heap.size + 1) 90 2 v out.length (flatF out)
  box : Box wr w.heap.size (fcL f)
  bel : Below w.heap.size w wr
  siz : w.heap.size + 1 ≤ wr.heap.size
theorem PuI.call {w wr w' : World} {f : Acre.Fc} {v : Value} {out : List Acre.Fc} (h : PuI w wr f v out) (hb : Below wr.heap.size wr w') : PuI w w' f v out :=
  ⟨row_call h.row hb, h.box.later (by simp [fcL]) hb, below_call hb h.bel, by have := h.siz; have := hb.size; omega⟩
theorem PuI.alloc {w wr : World} {f : Acre.Fc} {v : Value} {out : List Acre.Fc} (h : PuI w wr f v out) (o : Obj) : PuI w (wr.alloc o) f v out := h.call (below1 _ _)
theorem PuI.app {w wr w' : World} {f z : Acre.Fc} {v v' : Value} {out : List Acre.Fc} (h : PuI w wr f v out) (hg : wr.grownBy w' v.ownBlock) (hown : w'.ownsRow (w.heap.size + 1) 90 2 v' (out.length + 1) (flatF out ++ fcL z)) : PuI w w' f v' (out ++ [z]) :=
  ⟨by rw [flatF_snoc, List.length_append]; exact hown, h.box.kept (by simp [fcL]) hg (fun e => by have := (h.row.lt _ e).1; omega), h.bel.grown hg (by have := h.siz; omega) (fun c hc => by have := (h.row.lt c hc).1; omega), by have := h.siz; have := hg.size; omega⟩
theorem row_f {w : World} {base g cap : Nat} {l : List Acre.Fc} (h : w.ownsRow base 90 2 (.slice (some ⟨g, 0, none⟩) l.length cap) l.length (flatF l)) (k : Nat) (hk : k < l.length) : w.cell? ⟨g, k * 2, none⟩ = some (.int .i64 l[k].1) ∧ w.cell? ⟨g, k * 2 + 1, none⟩ = some (.int .i64 l[k].2) := by
  have a := row_at (f := fcL) (m := 2) (fun _ => rfl) h k 0 hk (by omega)
  have b := row_at (f := fcL) (m := 2) (fun _ => rfl) h k 1 hk (by omega)
  exact ⟨a, b⟩

set_option maxRecDepth 100000 in
set_option maxHeartbeats 2000000 in
theorem put_any (l : List Acre.Fc) (f : Acre.Fc) (v : Value) (base : Nat) (w : World) (hl : w.ownsRow base 90 2 v l.length (flatF l)) (hm : ∀ z ∈ l, Mid z) (hf : Mid f) (hlen : l.length ≤ 1000000000000) :
    Calls Tryz.prog 67 #[v, fcV f] w fun e w' => ∃ u, e = .returned u ∧ w'.ownsRow w.heap.size 90 2 u (Acre.insF f l).length (flatF (Acre.insF f l)) ∧ Below w.heap.size w w' := by
  obtain ⟨ga, gb, gcap, rfl, hga⟩ := rowE_form hl
  obtain ⟨i0, hi, hz0, hz1, hz2⟩ := info_parts info50
  have HF := hide (pst_false f l [])
  have HL := hide (fun k => pst_len f (l.take k) ([], false))
  obtain ⟨f1, f2⟩ := f
  unfold fcV
  dsimp only
  go_enter Tryz.func67, Tryz.ntmps67
  go_wp2
  go_loopw [5, 6, 7] (fun ov dv i wr => ∃ (k : Nat) (out : List Acre.Fc) (d : Bool), i = .int .i64 k ∧ dv = .bool d ∧ k ≤ l.length ∧ Hid ((l.take k).foldl (pst (f1, f2)) ([], false) = (out, d) ∧ PuI w wr (f1, f2) ov out)) (fun _ _ i _ => l.length - (intOf i).toNat)
  case atStart =>
    exact ⟨0, [], false, rfl, rfl, Nat.zero_le _, rfl, World.ownsRow_nil _ _ _ _, Box.new w [.int .i64 f1, .int .i64 f2] 90, below1 _ _, by simp⟩
  case round =>
    obtain ⟨k, out, d, rfl, rfl, hk, hr⟩ := hrel
    by_cases hlt : k < l.length
    · obtain ⟨hst, hI⟩ := hr.out
      obtain rfl := hga (by omega)
      obtain ⟨x0, x1⟩ := row_f hl k hlt
      have hgb0 : gb < w.heap.size := World.block_lt_of_cell? _ _ x0
      have y0 := cell_later hI.bel x0
      have y1 := cell_later hI.bel x1
      have htk : l.take (k + 1) = l.take k ++ [l[k]] := List.take_succ_eq_append_getElem hlt
      have hmz := hm l[k] (List.getElem_mem hlt)
      obtain ⟨⟨z1, z2⟩, hz⟩ : ∃ z, l[k] = z := ⟨_, rfl⟩
      rw [hz] at y0 y1 htk hmz
      have hst2 : (l.take (k + 1)).foldl (pst (f1, f2)) ([], false) = pst (f1, f2) (out, d) (z1, z2) := by rw [htk, List.foldl_append, hst]; rfl
      have hle := HL.out k
      rw [hst] at hle
      have Hst := hide hst2
      obtain ⟨⟨hm1, hm2⟩, ⟨hm3, hm4⟩⟩ := hmz
      obtain ⟨⟨hf1, hf2⟩, ⟨hf3, hf4⟩⟩ := id hf
      dsimp only at hm1 hm2 hm3 hm4 hf1 hf2 hf3 hf4
      have b1 := mul_bd (p := f1) (q := z2) (P := 3000000000) (Q := 70000000) ⟨hf1, hf2⟩ ⟨by omega, hm4⟩
      have b2 := mul_bd (p := z1) (q := f2) (P := 3000000000) (Q := 70000000) ⟨hm1, hm2⟩ ⟨by omega, hf4⟩
      have HB := hide (fun V => rbelow_any f1 f2 z1 z2 V (by omega) (by omega))
      have q0 := hI.box.c 0 _ rfl
      have q1 := hI.box.c 1 _ rfl
      have HI := hide hI
      have hol : out.length ≤ l.length := by
        simp only [List.length_take] at hle
        simp at hle
        omega
      clear x0 x1 hst hst2 htk hz hI hr hle b1 b2
      cases d
      case' false =>
        go_wp2_with fail
        go_region_with (first
          | (go_at_call 65; refine (HB.out _).mono ?_; rintro e w1 ⟨rfl, hb1⟩)
          | go_in)
        all_goals
          have hI1 := HI.out.call (below_call hb1 (Below.drew (Below.refl _ _)))
          have y0' := cell_later hb1 y0
          have y1' := cell_later hb1 y1
          clear HI hb1 y0 y1 q0 q1 HB
          have q0 := hI1.box.c 0 _ rfl
          have q1 := hI1.box.c 1 _ rfl
          have hsz := hI1.siz
          have hu : ∀ c, u5.ownBlock = some c → w.heap.size + 1 ≤ c ∧ c < w1.heap.size := hI1.row.lt
          by_cases hlf : f1 * z2 < z1 * f2
          case' pos =>
            have hne : ¬ (z1 = f1 ∧ z2 = f2) := fun h => by rw [h.1, h.2] at hlf; omega
            have Hps := hide (show pst (f1, f2) (out, false) (z1, z2) = (out ++ [(f1, f2)] ++ [(z1, z2)], true || decide ((z1, z2) = (f1, f2))) by unfold pst; simp [hlf])
            have hd : decide (f1 * z2 < z1 * f2) = true := by simpa using hlf
            have HI1 := hide hI1
            have hrow := hI1.row
            clear hI1
            go_wp2_with (at_builtin; refine wpList_append_own_at _ rfl _ _ 95 rfl (w.heap.size + 1) 90 i0 _ 2 16 Tryz.underlying95 hi hz0 hz1 hz2 rfl (by decide) _ _ _ rfl (hrow.alloc _) ⟨w1.heap.size, 0, none⟩ 1 1 [.int .i64 f1, .int .i64 f2] rfl rfl (cell_two_new _ _ _ _) (one2 _ _) (by unfold maxLen; omega) (by omega) (by simp; omega) ?_; intro v' w2 hown' hgrow hnil hloc)
            have hI2 := (HI1.out.alloc (.cells #[.int .i64 f1, .int .i64 f2] 90)).app (z := (f1, f2)) hgrow hown'
            have zc0 := hgrow.cell (cell_later (below1 w1 _) y0') (fun e => by have := (hu gb e.symm).1; omega)
            have zc1 := hgrow.cell (cell_later (below1 w1 _) y1') (fun e => by have := (hu gb e.symm).1; omega)
            clear y0' y1' q0 q1 hsz hrow hown' hgrow hnil hloc HI1 hu hd hlf
            generalize w2 = U at *
            have hol2 : (out ++ [(f1, f2)]).length ≤ l.length + 1 := by rw [List.length_append]; simp; omega
            generalize out ++ [(f1, f2)] = out2 at *
          case' neg =>
            have hd : decide (f1 * z2 < z1 * f2) = false := by simpa using hlf
            have Hps := hide (show pst (f1, f2) (out, false) (z1, z2) = (out ++ [(z1, z2)], false || decide ((z1, z2) = (f1, f2))) by unfold pst; simp [hlf])
            have hI2 := hI1
            have zc0 := y0'
            have zc1 := y1'
            clear y0' y1' hI1 hsz hu
            generalize w1 = U at *
            have hol2 : out.length ≤ l.length + 1 := by omega
            generalize out = out2 at *
      case' true =>
        go_wp2_with fail
        go_quiet (fail)
        generalize hV0 : wr.drewN _ = U
        have Hps := hide (show pst (f1, f2) (out, true) (z1, z2) = (out ++ [(z1, z2)], true || decide ((z1, z2) = (f1, f2))) by unfold pst; simp)
        have hbU : Below wr.heap.size wr U := by rw [← hV0]; exact below_drewN (Below.refl _ _) _
        have hI2 := HI.out.call hbU
        have zc0 := cell_later hbU y0
        have zc1 := cell_later hbU y1
        clear y0 y1 HI HB hbU hV0 q0 q1
        have hol2 : out.length ≤ l.length + 1 := by omega
        generalize out = out2 at *
      all_goals
        have q0 := hI2.box.c 0 _ rfl
        have q1 := hI2.box.c 1 _ rfl
        have heq := eql50 z1 z2 f1 f2
        have hdz : decide ((z1, z2) = (f1, f2)) = (z1 == f1 && z2 == f2) := by
          rw [Bool.eq_iff_iff]
          simp
        rw [hdz] at Hps
        have HI2 := hide hI2
        have hrow := hI2.row
        have hsz := hI2.siz
        clear hdz hI2
        cases hbe : (z1 == f1 && z2 == f2)
        all_goals
          rw [hbe] at heq Hps
          clear hbe
          go_wp2_with fail
          go_quiet (fail)
          generalize hV : U.drewN _ = V
          have hbV : Below U.heap.size U V := by rw [← hV]; exact below_drewN (Below.refl _ _) _
          have hI3 := HI2.out.call hbV
          have z0' := cell_later hbV zc0
          have z1' := cell_later hbV zc1
          have hrow3 := hI3.row
          have hsz3 := hI3.siz
          have HI3 := hide hI3
          clear zc0 zc1 q0 q1 hrow hsz HI2 hbV hV hI3
          go_wp2_with (at_builtin; refine wpList_append_own_at _ rfl _ _ 95 rfl (w.heap.size + 1) 90 i0 _ 2 16 Tryz.underlying95 hi hz0 hz1 hz2 rfl (by decide) _ _ _ rfl (hrow3.alloc _) ⟨V.heap.size, 0, none⟩ 1 1 [.int .i64 z1, .int .i64 z2] rfl rfl (cell_two_new _ _ _ _) (one2 _ _) (by unfold maxLen; omega) (by omega) (by simp; omega) ?_; intro v3 w3 hown3 hgrow3 hnil3 hloc3)
          have hI4 := hide ((HI3.out.alloc (.cells #[.int .i64 z1, .int .i64 z2] 90)).app (z := (z1, z2)) hgrow3 hown3)
          clear HI3 hrow3 hown3 hgrow3 hnil3 hloc3 z0' z1'
          go_wp2
          go_roundw
          case rel => exact ⟨k + 1, _, _, by go_num, rfl, by omega, by rw [Hst.out, Hps.out]; rfl, hI4.out⟩
          case measure => simp [intOf]; omega
    · obtain rfl : k = l.length := by omega
      obtain ⟨hst, hI⟩ := hr.out
      have hle := HL.out l.length
      rw [hst] at hle
      rw [List.take_length] at hst
      have hfin := HF.out
      rw [hst] at hfin
      have Hfin := hide hfin
      have hol : out.length ≤ l.length + 1 := by
        simp only [List.length_take] at hle
        simp at hle
        omega
      have q0 := hI.box.c 0 _ rfl
      have q1 := hI.box.c 1 _ rfl
      have hrow := hI.row
      have hsz := hI.siz
      have HI := hide hI
      clear hst hle hfin HF HL hr hI
      cases d
      · go_wp2_with (at_builtin; refine wpList_append_own_at _ rfl _ _ 95 rfl (w.heap.size + 1) 90 i0 _ 2 16 Tryz.underlying95 hi hz0 hz1 hz2 rfl (by decide) _ _ _ rfl (hrow.alloc _) ⟨wr.heap.size, 0, none⟩ 1 1 [.int .i64 f1, .int .i64 f2] rfl rfl (cell_two_new _ _ _ _) (one2 _ _) (by unfold maxLen; omega) (by omega) (by simp; omega) ?_; intro v3 w3 hown3 hgrow3 hnil3 hloc3)
        have hI4 := hide ((HI.out.alloc (.cells #[.int .i64 f1, .int .i64 f2] 90)).app (z := (f1, f2)) hgrow3 hown3)
        clear HI hrow hown3 hgrow3 hnil3 hloc3 q0 q1
        have e : Acre.insF (f1, f2) l = out ++ [(f1, f2)] := by have := Hfin.out; unfold pfin at this; simpa using this.symm
        go_wp2
        go_ret
        try rw [e]
        exact ⟨_, rfl, row_base hI4.out.row (by omega), hI4.out.bel⟩
      · have e : Acre.insF (f1, f2) l = out := by have := Hfin.out; unfold pfin at this; simpa using this.symm
        clear hrow
        go_wp2
        go_ret
        try rw [e]
        exact ⟨_, rfl, row_base HI.out.row (by omega), HI.out.bel⟩

end Go.Proofs.YtkjlkbgdkdcboaaGreatDoor.Ref

set_option linter.unusedSimpArgs false
set_option linter.unusedVariables false

namespace Go.Proofs.YtkjlkbgdkdcboaaGreatDoor.Ref
open Go.RowKit Go.Maps
attribute [local go_sem ↓] Go.wp_at_zero Go.wp_at_succ

theorem info56 : (Tryz.prog.info? 86).map (fun i => (i.zero, i.size, i.bytes)) = some (some (.agg #[.int .i64 0, .int .i64 0, .int .i64 0, .int .i64 0]), 4, 32) := by kernel_rfl
theorem row_e {w : World} {base g cap : Nat} {t : TypeId} {l : List Acre.Ed} (h : w.ownsRow base t 4 (.slice (some ⟨g, 0, none⟩) l.length cap) l.length (flatE l)) (k : Nat) (hk : k < l.length) : w.cell? ⟨g, k * 4, none⟩ = some (.int .i64 l[k].1.1) ∧ w.cell? ⟨g, k * 4 + 1, none⟩ = some (.int .i64 l[k].1.2) ∧ w.cell? ⟨g, k * 4 + 2, none⟩ = some (.int .i64 l[k].2.1) ∧ w.cell? ⟨g, k * 4 + 3, none⟩ = some (.int .i64 l[k].2.2) := by
  have a := row_at (f := fun e : Acre.Ed => [.int .i64 e.1.1, .int .i64 e.1.2, .int .i64 e.2.1, .int .i64 e.2.2]) (m := 4) (fun _ => rfl) h k 0 hk (by omega)
  have b := row_at (f := fun e : Acre.Ed => [.int .i64 e.1.1, .int .i64 e.1.2, .int .i64 e.2.1, .int .i64 e.2.2]) (m := 4) (fun _ => rfl) h k 1 hk (by omega)
  have c := row_at (f := fun e : Acre.Ed => [.int .i64 e.1.1, .int .i64 e.1.2, .int .i64 e.2.1, .int .i64 e.2.2]) (m := 4) (fun _ => rfl) h k 2 hk (by omega)
  have d := row_at (f := fun e : Acre.Ed => [.int .i64 e.1.1, .int .i64 e.1.2, .int .i64 e.2.1, .int .i64 e.2.2]) (m := 4) (fun _ => rfl) h k 3 hk (by omega)
  exact ⟨a, b, c, d⟩
theorem one4 (a b c d : Int) : ∀ u ∈ [Value.int .i64 a, .int .i64 b, .int .i64 c, .int .i64 d], u.oneCell' = true := by
  intro u hu
  simp at hu
  rcases hu with rfl | rfl | rfl | rfl <;> rfl
structure RoI (w wr : World) (v : Value) (out : List Acre.Ed) : Prop where
  row : wr.ownsRow w.heap.size 86 4 v out.length (flatE out)
  bel : Below w.heap.size w wr
theorem RoI.app {w wr w' : World} {e : Acre.Ed} {v v' : Value} {out : List Acre.Ed} (h : RoI w wr v out) (o : Obj) (hg : (wr.alloc o).grownBy w' v.ownBlock) (hown : w'.ownsRow w.heap.size 86 4 v' (out.length + 1) (flatE out ++ [.int .i64 e.1.1, .int .i64 e.1.2, .int .i64 e.2.1, .int .i64 e.2.2])) : RoI w w' v' (out ++ [e]) :=
  ⟨by rw [flatE_append, List.length_append]; simpa [flatE] using hown, (below_call (below1 _ o) h.bel).grown hg (by have := h.bel.size; simp; omega) (fun c hc => (h.row.lt c hc).1)⟩

set_option maxRecDepth 100000 in
set_option maxHeartbeats 2000000 in
theorem rjoined_any (A B : List Acre.Ed) (va vb : Value) (b1 b2 : Nat) (w : World) (hA : w.ownsRow b1 86 4 va A.length (flatE A)) (hB : w.ownsRow b2 86 4 vb B.length (flatE B)) (hla : A.length ≤ 1000) (hlb : B.length ≤ 1000) :
    Calls Tryz.prog 32 #[va, vb] w fun e w' => ∃ u, e = .returned u ∧ w'.ownsRow w.heap.size 86 4 u (A ++ B).length (flatE (A ++ B)) ∧ Below w.heap.size w w' := by
  obtain ⟨ga, gb, gcap, rfl, hga⟩ := rowE_form hA
  obtain ⟨ha, hb, hcap, rfl, hha⟩ := rowE_form hB
  obtain ⟨i0, hi, hz0, hz1, hz2⟩ := info_parts info56
  go_enter Tryz.func32, Tryz.ntmps32
  go_wp2
  go_loopw [5, 6] (fun ov i wr => ∃ k : Nat, i = .int .i64 k ∧ k ≤ A.length ∧ Hid (RoI w wr ov (A.take k))) (fun _ i _ => A.length - (intOf i).toNat)
  case atStart => exact ⟨0, rfl, Nat.zero_le _, World.ownsRow_nil _ _ _ _, Below.refl _ _⟩
  case round =>
    obtain ⟨k, rfl, hk, hr⟩ := hrel
    by_cases hlt : k < A.length
    · obtain rfl := hga (by omega)
      obtain ⟨x0, x1, x2, x3⟩ := row_e hA k hlt
      have y0 := cell_later hr.out.bel x0
      have y1 := cell_later hr.out.bel x1
      have y2 := cell_later hr.out.bel x2
      have y3 := cell_later hr.out.bel x3
      have htk : A.take (k + 1) = A.take k ++ [A[k]] := List.take_succ_eq_append_getElem hlt
      obtain ⟨⟨⟨e0, e1⟩, ⟨e2, e3⟩⟩, he⟩ : ∃ e, A[k] = e := ⟨_, rfl⟩
      rw [he] at y0 y1 y2 y3 htk
      have Htk := hide htk
      have hrow := hr.out.row
      have hsz := hr.out.bel.size
      have hlen : (A.take k).length = k := by rw [List.length_take]; omega
      clear x0 x1 x2 x3 htk he
      generalize hout : A.take k = out at *
      go_wp2_with (at_builtin; refine wpList_append_own_at _ rfl _ _ 25 rfl w.heap.size 86 i0 _ 4 32 Tryz.underlying25 hi hz0 hz1 hz2 rfl (by decide) _ _ _ rfl (hrow.alloc _) ⟨wr.heap.size, 0, none⟩ 1 1 [.int .i64 e0, .int .i64 e1, .int .i64 e2, .int .i64 e3] rfl rfl (World.news_of_block (cs := #[.int .i64 e0, .int .i64 e1, .int .i64 e2, .int .i64 e3]) (t := 86) (fr := (0, 0)) (heap_alloc_new wr _)) (one4 _ _ _ _) (by unfold maxLen; omega) (by omega) (by simp; omega) ?_; intro v3 w3 hown3 hgrow3 hnil3 hloc3)
      have hI := hide (hr.out.app (e := ((e0, e1), (e2, e3))) _ hgrow3 hown3)
      clear hr hrow hown3 hgrow3 hnil3 hloc3 y0 y1 y2 y3
      go_wp2
      go_roundw
      case rel => exact ⟨k + 1, by go_num, by omega, by rw [Htk.out]; exact hI⟩
      case measure => simp [intOf]; omega
    · obtain rfl : k = A.length := by omega
      have hr1 := hr.out
      rw [List.take_length] at hr1
      have HR1 := hide hr1
      clear hr hr1
      go_wp2
      go_loopw [5, 7] (fun ov i wr => ∃ k : Nat, i = .int .i64 k ∧ k ≤ B.length ∧ Hid (RoI w wr ov (A ++ B.take k))) (fun _ i _ => B.length - (intOf i).toNat)
      case atStart => exact ⟨0, rfl, Nat.zero_le _, by rw [List.take_zero, List.append_nil]; exact HR1⟩
      case round =>
        obtain ⟨k, rfl, hk, hr⟩ := hrel
        by_cases hlt : k < B.length
        · obtain rfl := hha (by omega)
          obtain ⟨x0, x1, x2, x3⟩ := row_e hB k hlt
          have y0 := cell_later hr.out.bel x0
          have y1 := cell_later hr.out.bel x1
          have y2 := cell_later hr.out.bel x2
          have y3 := cell_later hr.out.bel x3
          have htk : A ++ B.take (k + 1) = A ++ B.take k ++ [B[k]] := by rw [List.take_succ_eq_append_getElem hlt, List.append_assoc]
          obtain ⟨⟨⟨e0, e1⟩, ⟨e2, e3⟩⟩, he⟩ : ∃ e, B[k] = e := ⟨_, rfl⟩
          rw [he] at y0 y1 y2 y3 htk
          have Htk := hide htk
          have hrow := hr.out.row
          have hsz := hr.out.bel.size
          have hlen : (A ++ B.take k).length = A.length + k := by rw [List.length_append, List.length_take]; omega
          clear x0 x1 x2 x3 htk he HR1
          generalize hout : A ++ B.take k = out at *
          go_wp2_with (at_builtin; refine wpList_append_own_at _ rfl _ _ 25 rfl w.heap.size 86 i0 _ 4 32 Tryz.underlying25 hi hz0 hz1 hz2 rfl (by decide) _ _ _ rfl (hrow.alloc _) ⟨wr.heap.size, 0, none⟩ 1 1 [.int .i64 e0, .int .i64 e1, .int .i64 e2, .int .i64 e3] rfl rfl (World.news_of_block (cs := #[.int .i64 e0, .int .i64 e1, .int .i64 e2, .int .i64 e3]) (t := 86) (fr := (0, 0)) (heap_alloc_new wr _)) (one4 _ _ _ _) (by unfold maxLen; omega) (by omega) (by simp; omega) ?_; intro v3 w3 hown3 hgrow3 hnil3 hloc3)
          have hI := hide (hr.out.app (e := ((e0, e1), (e2, e3))) _ hgrow3 hown3)
          clear hr hrow hown3 hgrow3 hnil3 hloc3 y0 y1 y2 y3
          go_wp2
          go_roundw
          case rel => exact ⟨k + 1, by go_num, by omega, by rw [Htk.out]; exact hI⟩
          case measure => simp [intOf]; omega
        · obtain rfl : k = B.length := by omega
          have hr1 := hr.out
          rw [List.take_length] at hr1
          clear hr
          have HR2 := hide hr1
          clear hr1
          go_wp2
          go_ret
          exact ⟨_, rfl, HR2.out.row, HR2.out.bel⟩

end Go.Proofs.YtkjlkbgdkdcboaaGreatDoor.Ref

