import Derived.Test.YtkjlkbgdkdcboaaWalksA
namespace Go.Proofs.Ytkjlkbgdkdcboaa
open Go.RowKit
attribute [local go_sem ↓] Go.wp_at_zero Go.wp_at_succ

/-- three boxes -/
theorem below3 (w : World) (a b c : Obj) : Below w.heap.size w (((w.alloc a).alloc b).alloc c) :=
  (((Below.refl _ _).alloc (Nat.le_refl _) _).alloc (by simp) _).alloc (by simp; omega) _
theorem below2 (w : World) (a b : Obj) : Below w.heap.size w ((w.alloc a).alloc b) :=
  ((Below.refl _ _).alloc (Nat.le_refl _) _).alloc (by simp) _
theorem below1 (w : World) (a : Obj) : Below w.heap.size w (w.alloc a) := (Below.refl _ _).alloc (Nat.le_refl _) _

set_option maxHeartbeats 400000 in
theorem isOn_any (x0 y0 x1 y1 xN xD yN yD : Int) (w : World) (hx0 : Sm x0) (hy0 : Sm y0) (hx1 : Sm x1) (hy1 : Sm y1) (hx : Fr xN xD) (hy : Fr yN yD) :
    Calls Try.prog 27 #[.agg #[.int .i64 x0, .int .i64 y0, .int .i64 x1, .int .i64 y1], .agg #[.int .i64 xN, .int .i64 xD], .agg #[.int .i64 yN, .int .i64 yD]] w fun e w' => e = .returned (.bool (Acre.onE x0 y0 x1 y1 xN xD yN yD)) ∧ Below w.heap.size w w' := by
  unfold Acre.onE
  cases hb : Acre.sd x0 y0 x1 y1 xN xD yN yD == 0
  · go_enter Try.func27, Try.ntmps27
    go_wp2_with fail
    refine (side_any _ _ _ _ _ _ _ _ _ hx0 hy0 hx1 hy1 hx hy).mono ?_
    rintro e w1 ⟨rfl, hb1⟩
    go_wp2
    go_ret
    exact ⟨rfl, below_call hb1 (below3 _ _ _ _)⟩
  · go_enter Try.func27, Try.ntmps27
    go_wp2_with fail
    refine (side_any _ _ _ _ _ _ _ _ _ hx0 hy0 hx1 hy1 hx hy).mono ?_
    rintro e w1 ⟨rfl, hb1⟩
    obtain ⟨hc, hf⟩ := bcell hb1
    have hz := hb1.size
    go_wp2_with fail
    refine (isInBox_any _ _ _ _ _ _ _ _ _ hx0 hy0 hx1 hy1 hx hy).mono ?_
    rintro e w2 ⟨rfl, hb2⟩
    go_wp2
    go_ret
    exact ⟨by simp, below_call hb2 (below_call hb1 (below3 _ _ _ _))⟩

set_option maxHeartbeats 400000 in
theorem difference_any (px py qx qy : Int) (w : World) (h1 : -1000 ≤ px - qx ∧ px - qx ≤ 1000) (h2 : -1000 ≤ py - qy ∧ py - qy ≤ 1000) :
    Calls Try.prog 61 #[.agg #[.int .i64 px, .int .i64 py], .agg #[.int .i64 qx, .int .i64 qy]] w fun e w' => e = .returned (.agg #[.int .i64 (px - qx), .int .i64 (py - qy)]) ∧ Below w.heap.size w w' := by
  go_enter Try.func61, Try.ntmps61
  go_wp2
  exact bodyPost_ret (v := .agg #[.int .i64 (px - qx), .int .i64 (py - qy)]) (by simp [results, Try.results61, go_sem]) rfl ⟨rfl, below3 _ _ _ _⟩

set_option maxHeartbeats 400000 in
theorem along_any (x0 y0 x1 y1 : Int) (w : World) (h1 : -1000 ≤ x1 - x0 ∧ x1 - x0 ≤ 1000) (h2 : -1000 ≤ y1 - y0 ∧ y1 - y0 ≤ 1000) :
    Calls Try.prog 35 #[.agg #[.int .i64 x0, .int .i64 y0, .int .i64 x1, .int .i64 y1]] w fun e w' => e = .returned (.agg #[.int .i64 (x1 - x0), .int .i64 (y1 - y0)]) ∧ Below w.heap.size w w' := by
  go_enter Try.func35, Try.ntmps35
  go_wp2_with fail
  refine (difference_any _ _ _ _ _ h1 h2).mono ?_
  rintro e w1 ⟨rfl, hb1⟩
  obtain ⟨hc, hf⟩ := bcell hb1
  have hz := hb1.size
  go_wp2
  exact bodyPost_ret (v := .agg #[.int .i64 (x1 - x0), .int .i64 (y1 - y0)]) (by simp [results, Try.results35, go_sem, hc]) rfl ⟨rfl, ((below_call hb1 (below2 _ _ _)).setCell (by simp) _).setCell (by simp) _⟩

set_option maxHeartbeats 400000 in
theorem cross_any (vx vy wx wy : Int) (w : World) (h1 : -10000000 ≤ vx * wy ∧ vx * wy ≤ 10000000) (h2 : -10000000 ≤ vy * wx ∧ vy * wx ≤ 10000000) :
    Calls Try.prog 34 #[.agg #[.int .i64 vx, .int .i64 vy], .agg #[.int .i64 wx, .int .i64 wy]] w fun e w' => e = .returned (.int .i64 (vx * wy - vy * wx)) ∧ Below w.heap.size w w' := by
  go_enter Try.func34, Try.ntmps34
  go_wp2
  go_ret
  exact ⟨rfl, below2 _ _ _⟩

theorem gcd_step (a b : Int) (h : b ≠ 0) : Int.gcd b (a.tmod b) = Int.gcd a b ∧ (a.tmod b).natAbs < b.natAbs := by
  refine ⟨?_, ?_⟩
  · rw [Int.gcd_comm b]
    unfold Int.gcd
    rw [Int.natAbs_tmod, ← Nat.gcd_rec, Nat.gcd_comm]
  · rw [Int.natAbs_tmod]; exact Nat.mod_lt _ (by omega)

set_option maxHeartbeats 400000 in
theorem gcd_any (a b : Int) (w : World) (ha : -1000000000 ≤ a ∧ a ≤ 1000000000) (hb : -1000000000 ≤ b ∧ b ≤ 1000000000) :
    Calls Try.prog 52 #[.int .i64 a, .int .i64 b] w fun e w' => e = .returned (.int .i64 (Acre.g a b)) ∧ Below w.heap.size w w' := by
  go_enter Try.func52, Try.ntmps52
  go_wp2
  go_loopw [0, 1] (fun x y wr => ∃ p q : Int, x = .int .i64 p ∧ y = .int .i64 q ∧ (-1000000000 ≤ p ∧ p ≤ 1000000000) ∧ (-1000000000 ≤ q ∧ q ≤ 1000000000) ∧ Hid (Int.gcd p q = Int.gcd a b) ∧ Below w.heap.size w wr) (fun _ y _ => (intOf y).natAbs)
  case atStart => exact ⟨a, b, rfl, rfl, ha, hb, rfl, Below.refl _ _⟩
  case round =>
    obtain ⟨p, q, rfl, rfl, hp, hq, hg, hw⟩ := hrel
    by_cases h0 : q = 0
    · subst h0
      have hg' : Hid (p.natAbs = Int.gcd a b) := by have h := hg.out; simp at h; exact h
      by_cases h1 : p < 0
      · go_wp2
        go_ret
        exact ⟨ret_int (by unfold Acre.g; rw [← hg'.out]; omega), hw⟩
      · go_wp2
        go_ret
        exact ⟨ret_int (by unfold Acre.g; rw [← hg'.out]; omega), hw⟩
    · have hs := gcd_step p q h0
      have h00 : (q == 0) = false := by simpa using h0
      have h01 : (q != 0) = true := by simpa using h0
      have H1 : Hid _ := hs.1
      have h2 := hs.2
      clear hs
      have hm : -1000000000 ≤ p.tmod q ∧ p.tmod q ≤ 1000000000 := by omega
      go_wp2
      go_quiet (fail)
      go_wp2
      go_roundw
      case rel => exact ⟨q, p.tmod q, rfl, rfl, hq, hm, (H1.out.trans hg.out : _), below_drewN hw _⟩
      case measure => simpa [intOf] using h2

set_option maxHeartbeats 400000 in
theorem rgcd_any (a b : Int) (w : World) (ha : 0 ≤ a ∧ a ≤ 1000000000) (hb : 0 ≤ b ∧ b ≤ 1000000000) :
    Calls Try.prog 57 #[.int .i64 a, .int .i64 b] w fun e w' => e = .returned (.int .i64 (Acre.g a b)) ∧ Below w.heap.size w w' := by
  go_enter Try.func57, Try.ntmps57
  go_wp2
  go_loopw [0, 1] (fun x y wr => ∃ p q : Int, x = .int .i64 p ∧ y = .int .i64 q ∧ (0 ≤ p ∧ p ≤ 1000000000) ∧ (0 ≤ q ∧ q ≤ 1000000000) ∧ Hid (Int.gcd p q = Int.gcd a b) ∧ Below w.heap.size w wr) (fun _ y _ => (intOf y).natAbs)
  case atStart => exact ⟨a, b, rfl, rfl, ha, hb, rfl, Below.refl _ _⟩
  case round =>
    obtain ⟨p, q, rfl, rfl, hp, hq, hg, hw⟩ := hrel
    by_cases h0 : q = 0
    · subst h0
      have hg' : Hid (p.natAbs = Int.gcd a b) := by have h := hg.out; simp at h; exact h
      go_wp2
      go_ret
      exact ⟨ret_int (by unfold Acre.g; rw [← hg'.out]; omega), hw⟩
    · have hs := gcd_step p q h0
      have h00 : (q == 0) = false := by simpa using h0
      have h01 : (q != 0) = true := by simpa using h0
      have H1 : Hid _ := hs.1
      have h2 := hs.2
      clear hs
      have hm0 : 0 ≤ p.tmod q := Int.tmod_nonneg _ hp.1
      have hm : 0 ≤ p.tmod q ∧ p.tmod q ≤ 1000000000 := by omega
      go_wp2
      go_quiet (fail)
      go_wp2
      go_roundw
      case rel =>
        have he : p.tmod q = p % q := Int.tmod_eq_emod_of_nonneg hp.1
        rw [he] at hm
        exact ⟨q, p % q, rfl, rfl, hq, hm, (by have h := H1.out.trans hg.out; rw [he] at h; exact h), below_drewN hw _⟩
      case measure => simp only [intOf]; rw [← Int.tmod_eq_emod_of_nonneg hp.1]; exact h2

set_option maxHeartbeats 400000 in
theorem abs_any (n : Int) (w : World) (h : -1000000000 ≤ n ∧ n ≤ 1000000000) :
    Calls Try.prog 58 #[.int .i64 n] w fun e w' => e = .returned (.int .i64 (n.natAbs : Int)) ∧ w' = w := by
  by_cases h1 : n < 0
  · go_enter Try.func58, Try.ntmps58
    go_wp2
    go_ret
    exact ⟨ret_int (by omega), rfl⟩
  · go_enter Try.func58, Try.ntmps58
    go_wp2
    go_ret
    exact ⟨ret_int (by omega), rfl⟩

set_option maxHeartbeats 400000 in
theorem lowest_any (n d : Int) (w : World) (hn : -1000000 ≤ n ∧ n ≤ 1000000) (hd : -1000000 ≤ d ∧ d ≤ 1000000) (h0 : d ≠ 0) :
    Calls Try.prog 74 #[.int .i64 n, .int .i64 d] w fun e w' => e = .returned (.agg #[.int .i64 (Acre.low n d).1, .int .i64 (Acre.low n d).2]) ∧ Below w.heap.size w w' := by
  obtain ⟨k1, k2⟩ := Acre.com_bd n d h0
  have t1 := Acre.tdiv_bd n (Acre.g n d * Acre.sgn d)
  have t2 := Acre.tdiv_bd d (Acre.g n d * Acre.sgn d)
  have k3 : (Acre.g n d * Acre.sgn d == 0) = false := by simpa using k2
  go_enter Try.func74, Try.ntmps74
  go_wp2_with fail
  refine (gcd_any _ _ _ (by omega) (by omega)).mono ?_
  rintro e w1 ⟨rfl, hb1⟩
  obtain ⟨hc, hf⟩ := bcell hb1
  have hz := hb1.size
  go_wp2_with fail
  refine (sign_any _ _).mono ?_
  rintro e w2 ⟨rfl, h2⟩
  subst h2
  go_wp2_with fail
  go_region
  go_wp2
  refine bodyPost_ret (v := .agg #[.int .i64 (Acre.low n d).1, .int .i64 (Acre.low n d).2]) ?_ rfl ⟨rfl, ?_⟩
  · simp [results, Try.results74, go_sem, hc]
    exact ⟨rfl, rfl⟩
  · exact (((below_call hb1 (below1 _ _)).setCell (Nat.le_refl _) _).setCell (Nat.le_refl _) _).drew

set_option maxHeartbeats 400000 in
theorem of_any (n d : Int) (w : World) (hn : -1000000 ≤ n ∧ n ≤ 1000000) (hd : -1000000 ≤ d ∧ d ≤ 1000000) (h0 : d ≠ 0) :
    Calls Try.prog 39 #[.int .i64 n, .int .i64 d] w fun e w' => e = .returned (.agg #[.int .i64 (Acre.low n d).1, .int .i64 (Acre.low n d).2]) ∧ Below w.heap.size w w' := by
  have g1 := Acre.g_pos n d h0
  have g2 := Acre.g_le n d h0
  have g3 : (Acre.g n d == 0) = false := by simp; omega
  by_cases h1 : d < 0
  · have t1 := Acre.tdiv_bd (-n) (Acre.g n d)
    have t2 := Acre.tdiv_bd (-d) (Acre.g n d)
    rw [Int.neg_tdiv] at t1 t2
    have hl := Acre.low_neg n d h1
    have HL : Hid _ := hl
    clear hl
    go_enter Try.func39, Try.ntmps39
    go_wp2_with fail
    refine (abs_any _ _ (by omega)).mono ?_
    rintro e w2 ⟨rfl, h2⟩
    subst h2
    go_wp2_with fail
    refine (rgcd_any _ _ _ (by omega) (by omega)).mono ?_
    rintro e w1 ⟨rfl, hb1⟩
    rw [Acre.g_neg]
    obtain ⟨hc, hf⟩ := bcell hb1
    have hz := hb1.size
    go_wp2_with fail
    go_region
    go_wp2
    refine bodyPost_ret (v := .agg #[.int .i64 (Acre.low n d).1, .int .i64 (Acre.low n d).2]) ?_ rfl ⟨rfl, ?_⟩
    · rw [HL.out]
      simp [results, Try.results39, go_sem, hc]
    · exact (((below_call hb1 (below1 _ _)).setCell (Nat.le_refl _) _).setCell (Nat.le_refl _) _).drew
  · have t1 := Acre.tdiv_bd n (Acre.g n d)
    have t2 := Acre.tdiv_bd d (Acre.g n d)
    have hl := Acre.low_pos n d (by omega)
    have HL : Hid _ := hl
    clear hl
    go_enter Try.func39, Try.ntmps39
    go_wp2_with fail
    refine (abs_any _ _ (by omega)).mono ?_
    rintro e w2 ⟨rfl, h2⟩
    subst h2
    go_wp2_with fail
    refine (rgcd_any _ _ _ (by omega) (by omega)).mono ?_
    rintro e w1 ⟨rfl, hb1⟩
    rw [Acre.g_abs]
    obtain ⟨hc, hf⟩ := bcell hb1
    have hz := hb1.size
    go_wp2_with fail
    go_region
    go_wp2
    refine bodyPost_ret (v := .agg #[.int .i64 (Acre.low n d).1, .int .i64 (Acre.low n d).2]) ?_ rfl ⟨rfl, ?_⟩
    · rw [HL.out]
      simp [results, Try.results39, go_sem, hc]
    · exact (((below_call hb1 (below1 _ _)).setCell (Nat.le_refl _) _).setCell (Nat.le_refl _) _).drew

/-- the points of a slice, in memory -/
def PtsAt (w : World) (b off : Nat) (ps : List (Int × Int)) : Prop :=
  ∀ k, (h : k < ps.length) → w.cell? ⟨b, off + k * 2, none⟩ = some (.int .i64 ps[k].1) ∧ w.cell? ⟨b, off + k * 2 + 1, none⟩ = some (.int .i64 ps[k].2)

set_option maxHeartbeats 400000 in
theorem areOnGrid_any (ps : List (Int × Int)) (b off cap : Nat) (w : World) (hn : ps.length < 2000000000000) (hp : PtsAt w b off ps) (hb : b < w.heap.size) :
    Calls Try.prog 33 #[.slice (some ⟨b, off, none⟩) ps.length cap] w fun e w' => e = .returned (.bool (ps.all Acre.onGrid)) ∧ Below w.heap.size w w' := by
  go_enter Try.func33, Try.ntmps33
  go_wp2
  go_loopw [7] (fun i wr => ∃ k : Nat, i = .int .i64 k ∧ k ≤ ps.length ∧ Hid ((ps.take k).all Acre.onGrid = true) ∧ Below w.heap.size w wr) (fun i _ => ps.length - (intOf i).toNat)
  case atStart => exact ⟨0, rfl, Nat.zero_le _, by simp [Hid], Below.refl _ _⟩
  case round =>
    obtain ⟨k, rfl, hk, ha, hw⟩ := hrel
    by_cases hlt : k < ps.length
    · obtain ⟨c0, c1⟩ := hp k hlt
      have d0 := (hw.cell (p := ⟨b, off + k * 2, none⟩) hb).trans c0
      have d1 := (hw.cell (p := ⟨b, off + k * 2 + 1, none⟩) hb).trans c1
      have hs := Acre.all_snoc ps k hlt
      have hno := Acre.all_no ps k hlt
      have Hs : Hid _ := hs
      have Hno : Hid _ := hno
      clear hs hno c0 c1
      generalize hp0 : ps[k].1 = px at *
      generalize hp1 : ps[k].2 = py at *
      have hon : Acre.onGrid ps[k] = (decide (-12 ≤ px ∧ px ≤ 12) && decide (-12 ≤ py ∧ py ≤ 12)) := by unfold Acre.onGrid; rw [hp0, hp1]
      have Hon : Hid _ := hon
      clear hon hp0 hp1 hp
      cases hx : decide (-12 ≤ px ∧ px ≤ 12)
      · have Hx : Hid _ := hx
        go_wp2_with (first | (go_at_call 60; refine (keepsSide_any _ _).mono ?_; rintro e w' ⟨rfl, rfl⟩; rw [hx]))
        go_ret
        exact ⟨ret_bool (Hno.out (by rw [Hon.out, Hx.out]; rfl)).symm, hw.alloc hw.size _⟩
      · cases hy : decide (-12 ≤ py ∧ py ≤ 12)
        · have Hx : Hid _ := hx
          have Hy : Hid _ := hy
          go_wp2_with fail
          refine (keepsSide_any _ _).mono ?_; rintro e w' ⟨rfl, rfl⟩; rw [hx]
          go_wp2_with fail
          refine (keepsSide_any _ _).mono ?_; rintro e w' ⟨rfl, rfl⟩; rw [hy]
          go_wp2
          go_ret
          exact ⟨ret_bool (Hno.out (by rw [Hon.out, Hx.out, Hy.out]; rfl)).symm, hw.alloc hw.size _⟩
        · have Hx : Hid _ := hx
          have Hy : Hid _ := hy
          go_wp2_with fail
          refine (keepsSide_any _ _).mono ?_; rintro e w' ⟨rfl, rfl⟩; rw [hx]
          go_wp2_with fail
          refine (keepsSide_any _ _).mono ?_; rintro e w' ⟨rfl, rfl⟩; rw [hy]
          go_wp2
          go_roundw
          case rel => exact ⟨k + 1, by go_num, by omega, by have := Hs.out; rw [ha.out, Hon.out, Hx.out, Hy.out] at this; exact this, hw.alloc hw.size _⟩
          case measure => simp [intOf]; omega
    · go_wp2
      go_ret
      exact ⟨ret_bool (by have h := ha.out; rw [List.take_of_length_le (by omega)] at h; exact h.symm), hw⟩

end Go.Proofs.Ytkjlkbgdkdcboaa
