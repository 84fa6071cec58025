import Derived.Test.YtkjlkbgdkdcboaaDoorRows
import Derived.Test.YtkjlkbgdkdcboaaDoorPlane
import Derived.WalkKit
import Derived.WalkSpells
import Derived.WalkLawsBesides
import Derived.Deep.QuietTactic
import Derived.BigQuiet
import Derived.Deep.RegionHeld3
import Derived.Deep.DrawnRows
import Derived.Maps.AppendAt
import Derived.Laws.AppendOwn
import Derived.WalkSmall
import Derived.Deep.AppendLies
import Derived.OwnWalk
namespace Go.Proofs.YtkjlkbgdkdcboaaDoor
open Go.RowKit
attribute [local go_sem ↓] Go.wp_at_zero Go.wp_at_succ

theorem ret_int {k : IntKind} {a b : Int} (h : a = b) : Ending.returned (.int k a) = .returned (.int k b) := by rw [h]

theorem ret_bool {a b : Bool} (h : a = b) : Ending.returned (.bool a) = .returned (.bool b) := by rw [h]

set_option maxHeartbeats 400000 in
theorem keepsSide_any (n : Int) (w : World) :
    Calls Tryd.prog 30 #[.int .i64 n] w fun e w' => e = .returned (.bool (decide (-12 ≤ n ∧ n ≤ 12))) ∧ w' = w := by
  by_cases h1 : -12 ≤ n
  · by_cases h2 : n ≤ 12
    · go_enter Tryd.func30, Tryd.ntmps30
      go_wp2
      go_ret
      exact ⟨ret_bool (by simp; omega), rfl⟩
    · go_enter Tryd.func30, Tryd.ntmps30
      go_wp2
      go_ret
      exact ⟨ret_bool (by simp; omega), rfl⟩
  · go_enter Tryd.func30, Tryd.ntmps30
    go_wp2
    go_ret
    exact ⟨ret_bool (by simp; omega), rfl⟩

theorem wrap_in (n : Int) (h : -9223372036854775808 ≤ n ∧ n ≤ 9223372036854775807) : IntKind.i64.wrap n = n := by
  rw [IntKind.wrap_i64]; omega

theorem below_call {W w1 w2 : World} (hb : Below w1.heap.size w1 w2) (h : Below W.heap.size W w1) : Below W.heap.size W w2 := h.trans (hb.mono h.size)

/-- three boxes -/
theorem below3 (w : World) (a b c : Obj) : Below w.heap.size w (((w.alloc a).alloc b).alloc c) :=
  (((Below.refl _ _).alloc (Nat.le_refl _) _).alloc (by simp) _).alloc (by simp; omega) _

theorem below2 (w : World) (a b : Obj) : Below w.heap.size w ((w.alloc a).alloc b) :=
  ((Below.refl _ _).alloc (Nat.le_refl _) _).alloc (by simp) _

theorem below1 (w : World) (a : Obj) : Below w.heap.size w (w.alloc a) := (Below.refl _ _).alloc (Nat.le_refl _) _

/-- the points of a slice, in memory -/
def PtsAt (w : World) (b off : Nat) (ps : List (Int × Int)) : Prop :=
  ∀ k, (h : k < ps.length) → w.cell? ⟨b, off + k * 2, none⟩ = some (.int .i64 ps[k].1) ∧ w.cell? ⟨b, off + k * 2 + 1, none⟩ = some (.int .i64 ps[k].2)

set_option maxHeartbeats 400000 in
theorem areOnGrid_any (ps : List (Int × Int)) (b off cap : Nat) (w : World) (hn : ps.length < 2000000000000) (hp : PtsAt w b off ps) (hb : b < w.heap.size) :
    Calls Tryd.prog 18 #[.slice (some ⟨b, off, none⟩) ps.length cap] w fun e w' => e = .returned (.bool (ps.all Acre.onGrid)) ∧ Below w.heap.size w w' := by
  go_enter Tryd.func18, Tryd.ntmps18
  go_wp2
  go_loopw [7] (fun i wr => ∃ k : Nat, i = .int .i64 k ∧ k ≤ ps.length ∧ Hid ((ps.take k).all Acre.onGrid = true) ∧ Below w.heap.size w wr) (fun i _ => ps.length - (intOf i).toNat)
  case atStart => exact ⟨0, rfl, Nat.zero_le _, by simp [Hid], Below.refl _ _⟩
  case round =>
    obtain ⟨k, rfl, hk, ha, hw⟩ := hrel
    by_cases hlt : k < ps.length
    · obtain ⟨c0, c1⟩ := hp k hlt
      have d0 := (hw.cell (p := ⟨b, off + k * 2, none⟩) hb).trans c0
      have d1 := (hw.cell (p := ⟨b, off + k * 2 + 1, none⟩) hb).trans c1
      have hs := Acre.all_snoc ps k hlt
      have hno := Acre.all_no ps k hlt
      have Hs : Hid _ := hs
      have Hno : Hid _ := hno
      clear hs hno c0 c1
      generalize hp0 : ps[k].1 = px at *
      generalize hp1 : ps[k].2 = py at *
      have hon : Acre.onGrid ps[k] = (decide (-12 ≤ px ∧ px ≤ 12) && decide (-12 ≤ py ∧ py ≤ 12)) := by unfold Acre.onGrid; rw [hp0, hp1]
      have Hon : Hid _ := hon
      clear hon hp0 hp1 hp
      cases hx : decide (-12 ≤ px ∧ px ≤ 12)
      · have Hx : Hid _ := hx
        go_wp2_with (first | (go_at_call 30; refine (keepsSide_any _ _).mono ?_; rintro e w' ⟨rfl, rfl⟩; rw [hx]))
        go_ret
        exact ⟨ret_bool (Hno.out (by rw [Hon.out, Hx.out]; rfl)).symm, hw.alloc hw.size _⟩
      · cases hy : decide (-12 ≤ py ∧ py ≤ 12)
        · have Hx : Hid _ := hx
          have Hy : Hid _ := hy
          go_wp2_with fail
          refine (keepsSide_any _ _).mono ?_; rintro e w' ⟨rfl, rfl⟩; rw [hx]
          go_wp2_with fail
          refine (keepsSide_any _ _).mono ?_; rintro e w' ⟨rfl, rfl⟩; rw [hy]
          go_wp2
          go_ret
          exact ⟨ret_bool (Hno.out (by rw [Hon.out, Hx.out, Hy.out]; rfl)).symm, hw.alloc hw.size _⟩
        · have Hx : Hid _ := hx
          have Hy : Hid _ := hy
          go_wp2_with fail
          refine (keepsSide_any _ _).mono ?_; rintro e w' ⟨rfl, rfl⟩; rw [hx]
          go_wp2_with fail
          refine (keepsSide_any _ _).mono ?_; rintro e w' ⟨rfl, rfl⟩; rw [hy]
          go_wp2
          go_roundw
          case rel => exact ⟨k + 1, by go_num, by omega, by have := Hs.out; rw [ha.out, Hon.out, Hx.out, Hy.out] at this; exact this, hw.alloc hw.size _⟩
          case measure => simp [intOf]; omega
    · go_wp2
      go_ret
      exact ⟨ret_bool (by have h := ha.out; rw [List.take_of_length_le (by omega)] at h; exact h.symm), hw⟩

/-- a ring in memory -/
def Ring (w : World) (s : Value) (ps : List Acre.Pt) : Prop :=
  ∃ ga b off cap, s = .slice ga ps.length cap ∧ (0 < ps.length → ga = some ⟨b, off, none⟩ ∧ b < w.heap.size) ∧ PtsAt w b off ps

/-- a list of rings in memory -/
def Rings (w : World) (v : Value) (R : List (List Acre.Pt)) : Prop :=
  ∃ ga b off cap, v = .slice ga R.length cap ∧ (0 < R.length → ga = some ⟨b, off, none⟩) ∧ ∀ i (h : i < R.length), ∃ s, w.cell? ⟨b, off + i, none⟩ = some s ∧ Ring w s R[i]

theorem PtsAt.later {w w' : World} {b off : Nat} {ps : List Acre.Pt} (h : PtsAt w b off ps) (hb : Below w.heap.size w w') : PtsAt w' b off ps :=
  fun k hk => ⟨cell_later hb (h k hk).1, cell_later hb (h k hk).2⟩

theorem Ring.later {w w' : World} {s : Value} {ps : List Acre.Pt} (h : Ring w s ps) (hb : Below w.heap.size w w') : Ring w' s ps := by
  obtain ⟨ga, b, off, cap, h1, h2, h3⟩ := h
  exact ⟨ga, b, off, cap, h1, fun h => ⟨(h2 h).1, Nat.lt_of_lt_of_le (h2 h).2 hb.size⟩, h3.later hb⟩

theorem Rings.later {w w' : World} {v : Value} {R : List (List Acre.Pt)} (h : Rings w v R) (hb : Below w.heap.size w w') : Rings w' v R := by
  obtain ⟨ga, b, off, cap, h1, h2, h3⟩ := h
  refine ⟨ga, b, off, cap, h1, h2, fun i hi => ?_⟩
  obtain ⟨s, k1, k2⟩ := h3 i hi
  exact ⟨s, cell_later hb k1, k2.later hb⟩

theorem fieldOk_long {R : List (List Acre.Pt)} (h : 2 < R.length) : Acre.fieldOk R = false := by
  unfold Acre.fieldOk; rw [decide_eq_false (by omega)]; rfl

theorem fieldOk_no {R : List (List Acre.Pt)} (k : Nat) (hk : k < R.length) (h : Acre.ringOk R[k] = false) : Acre.fieldOk R = false := by
  unfold Acre.fieldOk
  have : R.all Acre.ringOk = false := by rw [List.all_eq_false]; exact ⟨R[k], List.getElem_mem hk, by simp [h]⟩
  rw [this]; simp

theorem fieldOk_yes {R : List (List Acre.Pt)} (h0 : R.length ≤ 2) (h : ∀ k (hk : k < R.length), Acre.ringOk R[k] = true) : Acre.fieldOk R = true := by
  unfold Acre.fieldOk
  rw [decide_eq_true h0, Bool.true_and, List.all_eq_true]
  intro x hx
  obtain ⟨j, hj, rfl⟩ := List.getElem_of_mem hx
  exact h j hj

set_option maxHeartbeats 1000000 in
theorem isField_any (R : List (List Acre.Pt)) (v : Value) (w : World) (hR : Rings w v R) (hn : R.length ≤ maxLen) (hm : ∀ r ∈ R, r.length ≤ maxLen) :
    Calls Tryd.prog 10 #[v] w fun e w' => e = .returned (.bool (Acre.fieldOk R)) ∧ Below w.heap.size w w' := by
  obtain ⟨ga, b, off, cap, rfl, hga, hcs⟩ := hR
  unfold maxLen at hn hm
  by_cases h2 : 2 < R.length
  · have hf : Hid _ := fieldOk_long h2
    have h2' : (2 : Int) < (R.length : Int) := by omega
    go_enter Tryd.func10, Tryd.ntmps10
    go_wp2
    go_ret
    exact ⟨ret_bool hf.out.symm, Below.refl _ _⟩
  · have h2' : ¬ (2 : Int) < (R.length : Int) := by omega
    go_enter Tryd.func10, Tryd.ntmps10
    go_wp2
    go_loopw [10] (fun i wr => ∃ k : Nat, i = .int .i64 k ∧ k ≤ R.length ∧ Hid (∀ j (hj : j < R.length), j < k → Acre.ringOk R[j] = true) ∧ Below w.heap.size w wr) (fun i _ => R.length - (intOf i).toNat)
    case atStart => exact ⟨0, rfl, Nat.zero_le _, fun j _ h => absurd h (by omega), Below.refl _ _⟩
    case round =>
      obtain ⟨k, rfl, hk, ha, hw⟩ := hrel
      by_cases hlt : k < R.length
      · obtain rfl := hga (by omega)
        obtain ⟨s, hs, hring⟩ := hcs k hlt
        have hs' := cell_later hw hs
        have hml := hm R[k] (List.getElem_mem hlt)
        obtain ⟨ra, rb, roff, rcap, rfl, hra, hpts⟩ := hring.later hw
        have hno := fieldOk_no k hlt
        generalize hr : R[k] = r at *
        have hno' : Acre.ringOk r = false → Acre.fieldOk R = false := hno
        have Hno : Hid _ := hno'
        have Hr : Hid _ := hr
        clear hno hno' hs hr
        by_cases hl3 : r.length < 3
        · have hx : Acre.ringOk r = false := by unfold Acre.ringOk; rw [decide_eq_false (show ¬ 3 ≤ r.length by omega)]; rfl
          have Hx : Hid _ := Hno.out hx
          have hl3' : ((r.length : Int)) < 3 := by omega
          clear hx
          go_wp2
          go_ret
          exact ⟨ret_bool Hx.out.symm, hw⟩
        · have hl3' : ¬ ((r.length : Int)) < 3 := by omega
          by_cases hl6 : 6 < r.length
          · have hx : Acre.ringOk r = false := by unfold Acre.ringOk; rw [decide_eq_false (show ¬ r.length ≤ 6 by omega)]; simp
            have Hx : Hid _ := Hno.out hx
            have hl6' : (6 : Int) < ((r.length : Int)) := by omega
            clear hx
            go_wp2
            go_ret
            exact ⟨ret_bool Hx.out.symm, hw⟩
          · have hl6' : ¬ (6 : Int) < ((r.length : Int)) := by omega
            obtain ⟨rfl, hrb⟩ := hra (by omega)
            cases hG : r.all Acre.onGrid
            · have hx : Acre.ringOk r = false := by unfold Acre.ringOk; rw [hG]; simp
              have Hx : Hid _ := Hno.out hx
              have HG : Hid _ := hG
              clear hx hG
              go_wp2_with fail
              refine (areOnGrid_any r rb roff rcap _ (by omega) hpts hrb).mono ?_
              rintro e w1 ⟨rfl, hb1⟩
              rw [HG.out]
              go_wp2
              go_ret
              exact ⟨ret_bool Hx.out.symm, below_call hb1 hw⟩
            · have hx : Acre.ringOk r = true := by
                unfold Acre.ringOk; rw [hG, decide_eq_true (show 3 ≤ r.length by omega), decide_eq_true (show r.length ≤ 6 by omega)]; rfl
              have Hx : Hid _ := hx
              have HG : Hid _ := hG
              clear hx hG
              go_wp2_with fail
              refine (areOnGrid_any r rb roff rcap _ (by omega) hpts hrb).mono ?_
              rintro e w1 ⟨rfl, hb1⟩
              rw [HG.out]
              go_wp2
              go_roundw
              case rel =>
                exact ⟨k + 1, by go_num, by omega, fun j hj hjk => by
                  rcases Nat.lt_succ_iff_lt_or_eq.1 hjk with h | h
                  · exact ha.out j hj h
                  · subst h; rw [Hr.out]; exact Hx.out, below_call hb1 hw⟩
              case measure => simp [intOf]; omega
      · go_wp2
        go_ret
        exact ⟨ret_bool (fieldOk_yes (by omega) (fun j hj => ha.out j hj (by omega))).symm, hw⟩

theorem info51 : (Tryd.prog.info? 39).map (fun i => (i.zero, i.size, i.bytes)) = some (some (.agg #[.int .i64 0, .int .i64 0]), 2, 16) := by kernel_rfl

/-- points as cells -/
def flat (ps : List Acre.Pt) : List Value := ps.flatMap fun p => [.int .i64 p.1, .int .i64 p.2]

theorem row_call {w w' : World} {base size n : Nat} {t : TypeId} {v : Value} {xs : List Value} (h : w.ownsRow base t size v n xs) (hb : Below w.heap.size w w') : w'.ownsRow base t size v n xs :=
  h.kept (row := none) ⟨hb.os, hb.tape, hb.output, hb.size, fun i hi _ => hb.block i hi⟩ (by cases v.ownBlock <;> simp)

theorem one2 (x y : Int) : ∀ u ∈ [Value.int .i64 x, .int .i64 y], u.oneCell' = true := by
  intro u hu; simp at hu; rcases hu with rfl | rfl <;> rfl

theorem info66 : (Tryd.prog.info? 35).map (fun i => (i.zero, i.size, i.bytes)) = some (some (.slice none 0 0), 1, 24) := by kernel_rfl

theorem flat_app (p q : List Acre.Pt) : flat (p ++ q) = flat p ++ flat q := by simp [flat]

theorem flat_at (p : List Acre.Pt) (k : Nat) (h : k < p.length) : (flat p)[k * 2]? = some (.int .i64 p[k].1) ∧ (flat p)[k * 2 + 1]? = some (.int .i64 p[k].2) := by
  induction p generalizing k with
  | nil => simp at h
  | cons a r ih =>
    cases k with
    | zero => simp [flat]
    | succ k =>
      have := ih k (by simpa using h)
      have e1 : (k + 1) * 2 = k * 2 + 1 + 1 := by omega
      simp only [flat, List.flatMap_cons] at *
      rw [e1]
      simpa using this

/-- a ring that has been copied, away from the row of l -/
def RingC (w : World) (l : Value) (s : Value) (ps : List Acre.Pt) : Prop :=
  ∃ ga b off cap, s = .slice ga ps.length cap ∧ (0 < ps.length → ga = some ⟨b, off, none⟩ ∧ b < w.heap.size ∧ l.ownBlock ≠ some b) ∧ PtsAt w b off ps

theorem RingC.below {w w' : World} {l s : Value} {ps : List Acre.Pt} (h : RingC w l s ps) (hb : Below w.heap.size w w') : RingC w' l s ps := by
  obtain ⟨ga, b, off, cap, h1, h2, h3⟩ := h
  exact ⟨ga, b, off, cap, h1, fun k => ⟨(h2 k).1, Nat.lt_of_lt_of_le (h2 k).2.1 hb.size, (h2 k).2.2⟩, h3.later hb⟩

theorem RingC.append {w w' : World} {l l' s : Value} {ps : List Acre.Pt} {H : Nat} (h : RingC w l s ps) (hg : w.grownBy w' l.ownBlock) (hl : l'.ownBlock = l.ownBlock ∨ l'.ownBlock = some H) (hH : w.heap.size ≤ H) : RingC w' l' s ps := by
  obtain ⟨ga, b, off, cap, h1, h2, h3⟩ := h
  refine ⟨ga, b, off, cap, h1, fun k => ?_, fun k hk => ?_⟩
  · obtain ⟨e1, e2, e3⟩ := h2 k
    refine ⟨e1, Nat.lt_of_lt_of_le e2 hg.size, ?_⟩
    rcases hl with e | e
    · rw [e]; exact e3
    · rw [e]; intro e'; simp at e'; omega
  · obtain ⟨e1, e2, e3⟩ := h2 (by omega)
    have c := h3 k hk
    exact ⟨hg.cell c.1 (fun e => e3 e.symm), hg.cell c.2 (fun e => e3 e.symm)⟩

theorem RingC.ring {w : World} {l s : Value} {ps : List Acre.Pt} (h : RingC w l s ps) : Ring w s ps := by
  obtain ⟨ga, b, off, cap, h1, h2, h3⟩ := h
  exact ⟨ga, b, off, cap, h1, fun k => ⟨(h2 k).1, (h2 k).2.1⟩, h3⟩

theorem RingC.row {w : World} {l v : Value} {H : Nat} {t : TypeId} {ps : List Acre.Pt} (h : w.ownsRow H t 2 v ps.length (flat ps)) (hl : ∀ c, l.ownBlock = some c → c < H) : RingC w l v ps := by
  rcases h.2 with ⟨rfl, h0⟩ | ⟨g, cap, cur, rfl, hHg, hgg, _⟩
  · refine ⟨none, 0, 0, 0, by rw [h0], fun k => absurd k (by omega), fun k hk => absurd hk (by omega)⟩
  · refine ⟨_, g, 0, cap, rfl, fun _ => ⟨rfl, (Array.getElem?_eq_some_iff.1 hgg).1, fun e => by have := hl g e; omega⟩, fun k hk => ?_⟩
    obtain ⟨e1, e2⟩ := flat_at ps k hk
    simp only [Nat.zero_add]
    exact ⟨(h.cellAt _ (by omega)).trans e1, (h.cellAt _ (by omega)).trans e2⟩

/-- what has been copied -/
def Copied (w : World) (base : Nat) (l : Value) (R : List (List Acre.Pt)) : Prop :=
  ∃ vs : List Value, vs.length = R.length ∧ (∀ u ∈ vs, u.oneCell' = true) ∧ w.ownsRow base 35 1 l R.length vs ∧ ∀ i (h : i < R.length) (h' : i < vs.length), RingC w l vs[i] R[i]

theorem Copied.rings {w : World} {base : Nat} {l : Value} {R : List (List Acre.Pt)} (h : Copied w base l R) : Rings w l R := by
  obtain ⟨vs, h1, _, h2, h3⟩ := h
  rcases h2.2 with ⟨rfl, h0⟩ | ⟨g, cap, cur, rfl, _⟩
  · exact ⟨none, 0, 0, 0, by rw [h0], fun k => absurd k (by omega), fun i hi => absurd hi (by omega)⟩
  · refine ⟨_, g, 0, cap, rfl, fun _ => rfl, fun i hi => ⟨vs[i], ?_, (h3 i hi (by omega)).ring⟩⟩
    rw [Nat.zero_add]
    exact (h2.cellAt i (by omega)).trans (List.getElem?_eq_getElem (by omega))

set_option maxRecDepth 100000 in
set_option maxHeartbeats 4000000 in
theorem field_any (R : List (List Acre.Pt)) (v : Value) (w : World) (hR : Rings w v R) (hn : R.length * 24 ≤ 140737488351232) (hm : ∀ r ∈ R, r.length * 16 ≤ 140737488351232) :
    Calls Tryd.prog 4 #[v] w fun e w' => ∃ u, e = .returned u ∧ Rings w' u R ∧ Below w.heap.size w w' := by
  obtain ⟨ga, b, off, cap, rfl, hga, hcs⟩ := hR
  obtain ⟨i0, hi, hz0, hz1, hz2⟩ := info_parts info51
  obtain ⟨i1, hi1, hy0, hy1, hy2⟩ := info_parts info66
  go_enter Tryd.func4, Tryd.ntmps4
  go_wp2
  go_loopw [3, 4] (fun l i wr => ∃ k : Nat, i = .int .i64 k ∧ k ≤ R.length ∧ Hid (Copied wr w.heap.size l (R.take k) ∧ Below w.heap.size w wr)) (fun _ i _ => R.length - (intOf i).toNat)
  case atStart => exact ⟨0, rfl, Nat.zero_le _, ⟨[], rfl, by simp, World.ownsRow_nil _ _ _ _, fun i h _ => by simp at h⟩, Below.refl _ _⟩
  case round =>
    obtain ⟨k, rfl, hk, hr⟩ := hrel
    by_cases hlt : k < R.length
    · obtain ⟨o1, hw⟩ := hr.out
      obtain rfl := hga (by omega)
      obtain ⟨s, hs, hring⟩ := hcs k hlt
      have hml := hm R[k] (List.getElem_mem hlt)
      obtain ⟨ra, rb, roff, rcap, rfl, hra, hpts0⟩ := hring
      have htk : R.take (k + 1) = R.take k ++ [R[k]] := List.take_succ_eq_append_getElem hlt
      obtain ⟨r, hrr⟩ : ∃ r, R[k] = r := ⟨_, rfl⟩
      rw [hrr] at hs hml hra hpts0 htk
      have Htk : Hid _ := htk
      have Ho1 : Hid (Copied wr w.heap.size u3 (R.take k)) := o1
      have hbw : b < w.heap.size := World.block_lt_of_cell? _ _ hs
      have hsW := hw.size
      clear htk hrr hr o1
      obtain ⟨WO, hWO⟩ : ∃ WO, WO = wr := ⟨_, rfl⟩
      subst hWO
      go_wp2
      go_loopw [5, 6] (fun q i w2 => ∃ j : Nat, i = .int .i64 j ∧ j ≤ r.length ∧ Hid (w2.ownsRow WO.heap.size 39 2 q j (flat (r.take j)) ∧ Below WO.heap.size WO w2)) (fun _ i _ => r.length - (intOf i).toNat)
      case atStart => exact ⟨0, rfl, Nat.zero_le _, World.ownsRow_nil _ _ _ _, Below.refl _ _⟩
      case round =>
        obtain ⟨j, rfl, hj, hr2⟩ := hrel
        obtain ⟨o2, hw2⟩ := hr2.out
        have hww : Below w.heap.size w wr := below_call hw2 hw
        have hs2 := cell_later hww hs
        have lbb : b < wr.heap.size := World.block_lt_of_cell? _ _ hs2
        have hk0 : (0 : Int) ≤ (k : Int) := Int.natCast_nonneg _
        have hk1 : (k : Int) < (R.length : Int) := by omega
        by_cases hjl : j < r.length
        · obtain ⟨rfl, hrb⟩ := hra (by omega)
          obtain ⟨p0, p1⟩ := (hpts0.later hww) j hjl
          have lb : rb < wr.heap.size := World.block_lt_of_cell? _ _ p0
          have hu : ∀ c, u5.ownBlock = some c → WO.heap.size ≤ c ∧ c < wr.heap.size := o2.lt
          have av : u5.ownBlock ≠ some b := fun e => by have := hu _ e; omega
          have ak : u5.ownBlock ≠ some rb := fun e => by have := hu _ e; omega
          have hj2 : (0 : Int) ≤ (j : Int) := Int.natCast_nonneg _
          have hj3 : (j : Int) < (r.length : Int) := by omega
          have hst : r.take (j + 1) = r.take j ++ [r[j]] := List.take_succ_eq_append_getElem hjl
          have Hst : Hid _ := hst
          clear hst
          generalize r[j] = pj at *
          go_wp2_with fail
          go_region_held3 (fun w' => w'.cell? ⟨b, off + k, none⟩ = some (.slice (some ⟨rb, roff, none⟩) r.length rcap) ∧ w'.cell? ⟨rb, roff + j * 2, none⟩ = some (.int .i64 pj.1) ∧ w'.cell? ⟨rb, roff + j * 2 + 1, none⟩ = some (.int .i64 pj.2))
            (first
              | go_keep
              | (go_split_ands
                 refine ⟨?_, ?_, ?_⟩
                 · (rw [hgrow.cell_far _ (Nat.lt_trans lbb (by simp)) (Ne.symm av)]; assumption)
                 · (rw [hgrow.cell_far _ (Nat.lt_trans lb (by simp)) (Ne.symm ak)]; assumption)
                 · (rw [hgrow.cell_far _ (Nat.lt_trans lb (by simp)) (Ne.symm ak)]; assumption)))
            ((refine step_append_lies _ (by rfl) _ _ _ (by rfl) WO.heap.size 39 i0 _ 2 16 Tryd.underlying35 hi hz0 hz1 hz2 rfl (by omega) u5 j (flat (r.take j)) (by rfl) ((o2.alloc _).drew)
                ⟨wr.heap.size, 0, none⟩ 1 1 [.int .i64 pj.1, .int .i64 pj.2] (by rfl) (by rfl) (World.news_of_block (cs := #[.int .i64 pj.1, .int .i64 pj.2]) (t := 39) (fr := (0, 0)) (heap_alloc_new wr _)) (by simp [Value.oneCell'])
                (by omega) (by unfold maxLen; omega) (by omega) (by have := hw2.size; simp; omega) (wr.heap.size + 1) (by simp) ?_; intro gg cap' w1 hown1 hgrow hat hlt'))
          have n1 : w1.ownsRow WO.heap.size 39 2 (.slice (some ⟨gg, 0, none⟩) (j + 1) cap') (j + 1) (flat (r.take (j + 1))) := by
            rw [Hst.out, flat_app]; exact hown1
          have n2 : Below WO.heap.size WO w1 := (Below.drew (hw2.alloc hw2.size _)).grown hgrow (by have := hw2.size; simp; omega) (fun c hc => (hu c hc).1)
          have NN : Hid (w1.ownsRow WO.heap.size 39 2 (.slice (some ⟨gg, 0, none⟩) (j + 1) cap') (j + 1) (flat (r.take (j + 1))) ∧ Below WO.heap.size WO w1) := ⟨n1, n2⟩
          clear n1 n2 hown1 hgrow
          go_wp2
          go_roundw
          case rel => exact ⟨j + 1, by go_num, by omega, NN⟩
          case measure => simp [intOf]; omega
        · obtain rfl : j = r.length := by omega
          rw [List.take_of_length_le (Nat.le_refl _)] at o2
          obtain ⟨vs, v1, v2, v3, v4⟩ := Ho1.out
          have hkl : (R.take k).length = k := by rw [List.length_take]; omega
          rw [hkl] at v1 v3
          have v3' := row_call v3 hw2
          have hlo : ∀ c, u3.ownBlock = some c → c < WO.heap.size := fun c hc => (v3.lt c hc).2
          have hnew : RingC wr u3 u5 r := RingC.row o2 hlo
          have hone : u5.oneCell' = true := by rcases o2.2 with ⟨rfl, _⟩ | ⟨g, cap, cur, rfl, _⟩ <;> rfl
          have Hnew : Hid (RingC wr u3 u5 r) := hnew
          have Hv4 : Hid (∀ i (h : i < (R.take k).length) (h' : i < vs.length), RingC wr u3 vs[i] (R.take k)[i]) := fun i h h' => (v4 i h h').below hw2
          have Hv2 : Hid _ := v2
          have hform : ∃ ga5 cap5, u5 = .slice ga5 r.length cap5 := by
            rcases o2.2 with ⟨rfl, h0⟩ | ⟨g, cap, cur, rfl, _⟩
            · exact ⟨none, 0, by rw [h0]⟩
            · exact ⟨_, _, rfl⟩
          obtain ⟨ga5, cap5, rfl⟩ := hform
          clear hnew v4 v2 v3
          go_wp2_with (first
            | (at_builtin; refine wpList_append_own_at _ rfl _ _ 23 rfl w.heap.size 35 i1 (.slice none 0 0) 1 24 Tryd.underlying23 hi1 hy0 hy1 hy2 rfl (by decide) _ _ _ rfl (v3'.alloc _) ⟨wr.heap.size, 0, none⟩ 1 1 [.slice ga5 r.length cap5] rfl rfl (cell_one_new _ _ _) ?_ ?_ ?_ ?_ ?_)
            | go_in)
          · intro u hu; simp only [List.mem_singleton] at hu; rw [hu]; rfl
          · unfold maxLen; omega
          · omega
          · have := hww.size; simp; omega
          · intro v' w' hown hgrow hne hob
            have n0 : Below w.heap.size w w' := (hww.alloc hww.size _).grown hgrow (by have := hww.size; simp; omega) (fun c hc => (v3'.lt c hc).1)
            have n1 : Copied w' w.heap.size v' (R.take (k + 1)) := by
              rw [Htk.out]
              refine ⟨vs ++ [.slice ga5 r.length cap5], by simp [v1, hkl], ?_, ?_, ?_⟩
              · intro u hu
                rcases List.mem_append.1 hu with h | h
                · exact Hv2.out u h
                · rw [List.mem_singleton.1 h]; rfl
              · have : (R.take k ++ [r]).length = k + 1 := by simp [hkl]
                rw [this]; exact hown
              · have hal : Below wr.heap.size wr (wr.alloc (.cells #[.slice ga5 r.length cap5] 35)) := (Below.refl _ _).alloc (Nat.le_refl _) _
                intro i h h'
                have hi' : i < k + 1 := by simpa [hkl] using h
                by_cases hik : i < k
                · have e1 : (vs ++ [Value.slice ga5 r.length cap5])[i] = vs[i]'(by omega) := List.getElem_append_left (by omega)
                  have e2 : (R.take k ++ [r])[i] = (R.take k)[i]'(by omega) := List.getElem_append_left (by omega)
                  rw [e1, e2]
                  exact ((Hv4.out i (by omega) (by omega)).below hal).append hgrow hob (by simp)
                · obtain rfl : i = k := by omega
                  have e1 : (vs ++ [Value.slice ga5 r.length cap5])[i] = Value.slice ga5 r.length cap5 := by
                    rw [List.getElem_append_right (by omega)]; simp [v1]
                  have e2 : (R.take i ++ [r])[i] = r := by
                    rw [List.getElem_append_right (by omega)]; simp [hkl]
                  rw [e1, e2]
                  exact (Hnew.out.below hal).append hgrow hob (by simp)
            have NN : Hid (Copied w' w.heap.size v' (R.take (k + 1)) ∧ Below w.heap.size w w') := ⟨n1, n0⟩
            clear n0 n1 hown hgrow
            go_wp2
            go_roundw
            case rel => exact ⟨k + 1, by go_num, by omega, NN⟩
            case measure => simp [intOf]; omega
    · obtain rfl : k = R.length := by omega
      obtain ⟨o1, hw⟩ := hr.out
      rw [List.take_of_length_le (Nat.le_refl _)] at o1
      go_wp2
      go_ret
      exact ⟨_, rfl, o1.rings, hw⟩

theorem gb_refl (w : World) (r : Option Nat) : w.grownBy w r := ⟨rfl, rfl, rfl, Nat.le_refl _, fun _ _ _ => rfl⟩

theorem gb_trans {a b c : World} {r : Option Nat} (h : a.grownBy b r) (k : b.grownBy c r) : a.grownBy c r :=
  ⟨k.os.trans h.os, k.tape.trans h.tape, k.output.trans h.output, Nat.le_trans h.size k.size, fun i hi hn => (k.block i (Nat.lt_of_lt_of_le hi h.size) hn).trans (h.block i hi hn)⟩

theorem gb_set (w : World) (b o : Nat) (v : Value) : w.grownBy (w.setCell ⟨b, o, none⟩ v) (some b) :=
  ⟨rfl, rfl, rfl, by simp [World.setCell], fun k hk hn => Below.heap_setCell _ _ _ _ (fun e => hn (by rw [e]))⟩

theorem gb_drewN (w : World) (n : Nat) (r : Option Nat) : w.grownBy (w.drewN n) r := ⟨rfl, rfl, rfl, Nat.le_refl _, fun _ _ _ => rfl⟩

theorem frozen_set (w : World) (p q : Addr) (v : Value) : (w.setCell p v).frozen? q = w.frozen? q := by
  go_simp

/-- the byte there, or -1 behind the end -/
def bt (s : ByteArray) (k : Nat) : Int := if h : k < s.size then (s[k].toNat : Int) else -1

theorem bt_in {s : ByteArray} {k : Nat} (h : k < s.size) : bt s k = (s[k].toNat : Int) := dif_pos h

theorem bt_out {s : ByteArray} {k : Nat} (h : ¬ k < s.size) : bt s k = -1 := dif_neg h

theorem bt_pos {s : ByteArray} {k : Nat} (h : 0 ≤ bt s k) : k < s.size := by
  by_cases hk : k < s.size
  · exact hk
  · rw [bt_out hk] at h; omega

theorem bt_lt (s : ByteArray) (k : Nat) : bt s k < 256 := by
  by_cases hk : k < s.size
  · rw [bt_in hk]; have := s[k].toNat_lt; omega
  · rw [bt_out hk]; omega

theorem hide {p : Prop} (h : p) : Hid p := h

theorem gb_alloc (w : World) (o : Obj) (r : Option Nat) : w.grownBy (w.alloc o) r := ⟨rfl, rfl, rfl, by simp, fun k hk _ => Below.heap_alloc _ _ _ hk⟩

theorem ringOk_no {r : List Acre.Pt} (k : Nat) (hk : k < r.length) (h : Acre.onGrid r[k] = false) : Acre.ringOk r = false := by
  unfold Acre.ringOk; rw [Acre.all_no r k hk h]; simp

theorem ringOk_yes {r : List Acre.Pt} (h3 : 3 ≤ r.length) (h6 : r.length ≤ 6) (h : ∀ j (hj : j < r.length), Acre.onGrid r[j] = true) : Acre.ringOk r = true := by
  unfold Acre.ringOk
  rw [decide_eq_true h3, decide_eq_true h6, Bool.and_self, Bool.true_and, List.all_eq_true]
  intro x hx
  obtain ⟨j, hj, rfl⟩ := List.getElem_of_mem hx
  exact h j hj

set_option maxHeartbeats 2000000 in
theorem rField_any (R : List (List Acre.Pt)) (v : Value) (w : World) (hR : Rings w v R) (hn : R.length ≤ maxLen) (hm : ∀ r ∈ R, r.length ≤ maxLen) :
    Calls Tryd.prog 13 #[v] w fun e w' => e = .returned (.bool (Acre.fieldOk R)) ∧ Below w.heap.size w w' := by
  obtain ⟨ga, b, off, cap, rfl, hga, hcs⟩ := hR
  unfold maxLen at hn hm
  by_cases h2 : 2 < R.length
  · have hf : Hid _ := fieldOk_long h2
    have h2' : (2 : Int) < (R.length : Int) := by omega
    go_enter Tryd.func13, Tryd.ntmps13
    go_wp2
    go_ret
    exact ⟨ret_bool hf.out.symm, Below.refl _ _⟩
  · have h2' : ¬ (2 : Int) < (R.length : Int) := by omega
    go_enter Tryd.func13, Tryd.ntmps13
    go_wp2
    go_loopw [3] (fun i wr => ∃ k : Nat, i = .int .i64 k ∧ k ≤ R.length ∧ Hid (∀ j (hj : j < R.length), j < k → Acre.ringOk R[j] = true) ∧ Below w.heap.size w wr) (fun i _ => R.length - (intOf i).toNat)
    case atStart => exact ⟨0, rfl, Nat.zero_le _, fun j _ h => absurd h (by omega), Below.refl _ _⟩
    case round =>
      obtain ⟨k, rfl, hk, ha, hw⟩ := hrel
      by_cases hlt : k < R.length
      · obtain rfl := hga (by omega)
        obtain ⟨s, hs, hring⟩ := hcs k hlt
        have hs' := cell_later hw hs
        have hml := hm R[k] (List.getElem_mem hlt)
        obtain ⟨ra, rb, roff, rcap, rfl, hra, hpts0⟩ := hring
        have hno := fieldOk_no k hlt
        have hnok := ringOk_no (r := R[k])
        generalize hr : R[k] = r at *
        have Hno : Hid (Acre.ringOk r = false → Acre.fieldOk R = false) := hno
        have Hnok : Hid (∀ (k : Nat) (hk : k < r.length), Acre.onGrid r[k] = false → Acre.ringOk r = false) := hnok
        have Hr : Hid _ := hr
        clear hno hnok hr
        by_cases hl3 : r.length < 3
        · have hx : Acre.ringOk r = false := by unfold Acre.ringOk; rw [decide_eq_false (show ¬ 3 ≤ r.length by omega)]; rfl
          have Hx : Hid _ := Hno.out hx
          have hl3' : ((r.length : Int)) < 3 := by omega
          clear hx
          go_wp2
          go_ret
          exact ⟨ret_bool Hx.out.symm, hw⟩
        · have hl3' : ¬ ((r.length : Int)) < 3 := by omega
          by_cases hl6 : 6 < r.length
          · have hx : Acre.ringOk r = false := by unfold Acre.ringOk; rw [decide_eq_false (show ¬ r.length ≤ 6 by omega)]; simp
            have Hx : Hid _ := Hno.out hx
            have hl6' : (6 : Int) < ((r.length : Int)) := by omega
            clear hx
            go_wp2
            go_ret
            exact ⟨ret_bool Hx.out.symm, hw⟩
          · have hl6' : ¬ (6 : Int) < ((r.length : Int)) := by omega
            obtain ⟨rfl, hrb⟩ := hra (by omega)
            go_wp2
            go_loopw [4] (fun i w2 => ∃ j : Nat, i = .int .i64 j ∧ j ≤ r.length ∧ Hid (∀ t (ht : t < r.length), t < j → Acre.onGrid r[t] = true) ∧ Below w.heap.size w w2) (fun i _ => r.length - (intOf i).toNat)
            case atStart => exact ⟨0, rfl, Nat.zero_le _, fun j _ h => absurd h (by omega), hw⟩
            case round =>
              obtain ⟨j, rfl, hj, hb, hw2⟩ := hrel
              have hs2 := cell_later hw2 hs
              by_cases hjl : j < r.length
              · obtain ⟨p0, p1⟩ := (hpts0.later hw2) j hjl
                have hgr : Hid _ := Hnok.out j hjl
                obtain ⟨p, hp⟩ : ∃ p, r[j] = p := ⟨_, rfl⟩
                rw [hp] at p0 p1 hgr
                have Hp : Hid _ := hp
                clear hp
                have hon : Acre.onGrid p = (decide (-12 ≤ p.1 ∧ p.1 ≤ 12) && decide (-12 ≤ p.2 ∧ p.2 ≤ 12)) := rfl
                have Hon : Hid _ := hon
                clear hon
                by_cases g1 : p.1 < -12
                · have Hx : Hid _ := Hno.out (hgr.out (by rw [Hon.out, decide_eq_false (by omega)]; rfl))
                  go_wp2
                  go_ret
                  exact ⟨ret_bool Hx.out.symm, hw2.alloc hw2.size _⟩
                · by_cases g2 : 12 < p.1
                  · have Hx : Hid _ := Hno.out (hgr.out (by rw [Hon.out, decide_eq_false (by omega)]; rfl))
                    go_wp2
                    go_ret
                    exact ⟨ret_bool Hx.out.symm, hw2.alloc hw2.size _⟩
                  · by_cases g3 : p.2 < -12
                    · have Hx : Hid _ := Hno.out (hgr.out (by rw [Hon.out, decide_eq_false (p := -12 ≤ p.2 ∧ p.2 ≤ 12) (by omega)]; simp))
                      go_wp2
                      go_ret
                      exact ⟨ret_bool Hx.out.symm, hw2.alloc hw2.size _⟩
                    · by_cases g4 : 12 < p.2
                      · have Hx : Hid _ := Hno.out (hgr.out (by rw [Hon.out, decide_eq_false (p := -12 ≤ p.2 ∧ p.2 ≤ 12) (by omega)]; simp))
                        go_wp2
                        go_ret
                        exact ⟨ret_bool Hx.out.symm, hw2.alloc hw2.size _⟩
                      · have Hx : Hid (Acre.onGrid p = true) := by show _ = _; rw [Hon.out, decide_eq_true (by omega), decide_eq_true (by omega)]; rfl
                        go_wp2
                        go_roundw
                        case rel =>
                          exact ⟨j + 1, by go_num, by omega, fun t ht htj => by
                            rcases Nat.lt_succ_iff_lt_or_eq.1 htj with h | h
                            · exact hb.out t ht h
                            · subst h; rw [Hp.out]; exact Hx.out, hw2.alloc hw2.size _⟩
                        case measure => simp [intOf]; omega
              · have Hx : Hid _ := ringOk_yes (by omega) (by omega) (fun t ht => hb.out t ht (by omega))
                go_wp2
                go_roundw
                case rel =>
                  exact ⟨k + 1, by go_num, by omega, fun t ht htk => by
                    rcases Nat.lt_succ_iff_lt_or_eq.1 htk with h | h
                    · exact ha.out t ht h
                    · subst h; rw [Hr.out]; exact Hx.out, hw2⟩
                case measure => simp [intOf]; omega
      · go_wp2
        go_ret
        exact ⟨ret_bool (fieldOk_yes (by omega) (fun j hj => ha.out j hj (by omega))).symm, hw⟩

end Go.Proofs.YtkjlkbgdkdcboaaDoor
