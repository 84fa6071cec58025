import Derived.Test.YtkjlkbgdkdcboaaGreatBands

set_option linter.unusedSimpArgs false
set_option linter.unusedVariables false

namespace Go.Proofs.YtkjlkbgdkdcboaaGreat
open Go.RowKit Go.Maps
attribute [local go_sem ↓] Go.wp_at_zero Go.wp_at_succ

def frV (f : Acre.Fc) : Value := .agg #[.int .i64 f.1, .int .i64 f.2]
def edV (e : Acre.Ed) : Value := .agg #[.int .i64 e.1.1, .int .i64 e.1.2, .int .i64 e.2.1, .int .i64 e.2.2]

set_option maxHeartbeats 400000 in
theorem lowest_wide (n d : Int) (w : World) (hn : -100000000 ≤ n ∧ n ≤ 100000000) (hd : -100000000 ≤ d ∧ d ≤ 100000000) (h0 : d ≠ 0) :
    Calls Tryz.prog 125 #[.int .i64 n, .int .i64 d] w fun e w' => e = .returned (frV (Acre.low n d)) ∧ Below w.heap.size w w' := by
  obtain ⟨k1, k2⟩ := Acre.com_bd n d h0
  have t1 := Acre.tdiv_bd n (Acre.g n d * Acre.sgn d)
  have t2 := Acre.tdiv_bd d (Acre.g n d * Acre.sgn d)
  have k3 : (Acre.g n d * Acre.sgn d == 0) = false := by simpa using k2
  go_enter Tryz.func125, Tryz.ntmps125
  go_wp2_with fail
  refine (gcd_any _ _ _ (by omega) (by omega)).mono ?_
  rintro e w1 ⟨rfl, hb1⟩
  obtain ⟨hc, hf⟩ := bcell hb1
  have hz := hb1.size
  go_wp2_with fail
  refine (sign_any _ _).mono ?_
  rintro e w2 ⟨rfl, h2⟩
  subst h2
  go_wp2_with fail
  go_region
  go_wp2
  refine bodyPost_ret (v := frV (Acre.low n d)) ?_ rfl ⟨rfl, ?_⟩
  · simp [results, Tryz.results125, go_sem, hc, frV]
    exact ⟨rfl, rfl⟩
  · exact (((below_call hb1 (below1 _ _)).setCell (Nat.le_refl _) _).setCell (Nat.le_refl _) _).drew

set_option maxHeartbeats 400000 in
theorem signL_any (n : Int) (w : World) :
    Calls Tryz.prog 123 #[.int .i64 n] w fun e w' => e = .returned (.int .i64 (Acre.sgn n)) ∧ w' = w := by
  by_cases h1 : n < 0
  · go_enter Tryz.func123, Tryz.ntmps123
    go_wp2
    go_ret
    exact ⟨ret_int (Acre.sgn_neg h1).symm, rfl⟩
  · by_cases h2 : 0 < n
    · go_enter Tryz.func123, Tryz.ntmps123
      go_wp2
      go_ret
      exact ⟨ret_int (Acre.sgn_pos h2).symm, rfl⟩
    · go_enter Tryz.func123, Tryz.ntmps123
      go_wp2
      go_ret
      exact ⟨ret_int (Acre.sgn_zero (by omega) (by omega)).symm, rfl⟩

/-- a fraction of small numbers -/
structure SmF (f : Acre.Fc) : Prop where
  n : -100000000 ≤ f.1 ∧ f.1 ≤ 100000000
  d : -100000000 ≤ f.2 ∧ f.2 ≤ 100000000

set_option maxHeartbeats 400000 in
theorem order_any (f h : Acre.Fc) (w : World) (hf : SmF f) (hh : SmF h) :
    Calls Tryz.prog 103 #[frV f, frV h] w fun e w' => e = .returned (.int .i64 (Acre.ordF f h)) ∧ Below w.heap.size w w' := by
  obtain ⟨⟨a1, a2⟩, ⟨a3, a4⟩⟩ := hf
  obtain ⟨⟨b1, b2⟩, ⟨b3, b4⟩⟩ := hh
  have m1 := Acre.mul_bd f.1 h.2 100000000 100000000 (by omega) (by omega)
  have m2 := Acre.mul_bd h.1 f.2 100000000 100000000 (by omega) (by omega)
  unfold frV
  go_enter Tryz.func103, Tryz.ntmps103
  go_wp2_with fail
  refine (signL_any _ _).mono ?_
  rintro e w2 ⟨rfl, h2⟩
  subst h2
  go_wp2
  go_ret
  exact ⟨rfl, below2 _ _ _⟩

set_option maxHeartbeats 400000 in
theorem mediant_any (f h : Acre.Fc) (w : World) (hf : -1000000 ≤ f.1 ∧ f.1 ≤ 1000000) (hf2 : 0 < f.2 ∧ f.2 ≤ 1000000) (hh : -1000000 ≤ h.1 ∧ h.1 ≤ 1000000) (hh2 : 0 < h.2 ∧ h.2 ≤ 1000000) :
    Calls Tryz.prog 110 #[frV f, frV h] w fun e w' => e = .returned (frV (Acre.mdn f h)) ∧ Below w.heap.size w w' := by
  unfold frV
  go_enter Tryz.func110, Tryz.ntmps110
  go_wp2_with fail
  refine (lowest_wide _ _ _ (by omega) (by omega) (by omega)).mono ?_
  rintro e w1 ⟨rfl, hb1⟩
  obtain ⟨hc, hf⟩ := bcell hb1
  have hz := hb1.size
  unfold frV
  go_wp2
  refine bodyPost_ret (v := frV (Acre.mdn f h)) ?_ rfl ⟨rfl, ?_⟩
  · simp [results, Tryz.results110, go_sem, hc, frV]
    exact ⟨rfl, rfl⟩
  · exact ((below_call hb1 (below3 _ _ _ _)).setCell (by simp; omega) _).setCell (by simp; omega) _

set_option maxHeartbeats 400000 in
theorem isUpright_any (e : Acre.Ed) (w : World) :
    Calls Tryz.prog 102 #[edV e] w fun r w' => r = .returned (.bool (Acre.upr e)) ∧ Below w.heap.size w w' := by
  unfold edV
  go_enter Tryz.func102, Tryz.ntmps102
  go_wp2
  go_ret
  exact ⟨ret_bool (by unfold Acre.upr; rfl), below1 _ _⟩

set_option maxHeartbeats 400000 in
theorem owner_any (lv : Value) (n k op : Int) (w : World) (ga : Option Addr) (len cap : Nat) (hl : lv = .slice ga len cap) :
    Calls Tryz.prog 113 #[.agg #[lv, .int .i64 k, .int .i64 op], .int .i64 n] w fun r w' => r = .returned (.int .i64 (if n < k then 0 else 1)) ∧ Below w.heap.size w w' := by
  subst hl
  by_cases h : n < k
  · go_enter Tryz.func113, Tryz.ntmps113
    go_wp2
    go_ret
    exact ⟨rfl, below1 _ _⟩
  · go_enter Tryz.func113, Tryz.ntmps113
    go_wp2
    go_ret
    exact ⟨rfl, below1 _ _⟩

set_option maxRecDepth 100000 in
set_option maxHeartbeats 1000000 in
theorem height_any (e : Acre.Ed) (x : Acre.Fc) (w : World) (he : SmE e) (hu : Acre.upr e = false) (hx : -100000 ≤ x.1 ∧ x.1 ≤ 100000) (hx2 : 0 < x.2 ∧ x.2 ≤ 10000) :
    Calls Tryz.prog 129 #[edV e, frV x] w fun r w' => r = .returned (frV (Acre.hgt e x)) ∧ Below w.heap.size w w' := by
  obtain ⟨⟨a, b⟩, ⟨c, d⟩⟩ := e
  obtain ⟨n, m⟩ := x
  obtain ⟨⟨a1, b1⟩, ⟨c1, d1⟩⟩ := he
  dsimp only at *
  have hd : c - a ≠ 0 := by unfold Acre.upr at hu; simp at hu; omega
  have m1 := Acre.mul_bd b (c - a) 100 100 (by omega) (by omega)
  have m1' := Acre.mul_bd b (c - a) 13 26 (by omega) (by omega)
  have m2 := Acre.mul_bd (b * (c - a)) m 338 10000 (by omega) (by omega)
  have m3 := Acre.mul_bd a m 100 10000 (by omega) (by omega)
  have m4 := Acre.mul_bd (n - a * m) (d - b) 1500000 30 (by omega) (by omega)
  have m5 := Acre.mul_bd (c - a) m 100 10000 (by omega) (by omega)
  have h0 : (c - a) * m ≠ 0 := Int.mul_ne_zero hd (by omega)
  unfold edV frV
  have x0 := ((Box.new w [.int .i64 a, .int .i64 b, .int .i64 c, .int .i64 d] 37).later (by simp) (below1 _ (.cells #[.int .i64 n, .int .i64 m] 33))).later (by simp) (below1 _ (.cells #[.int .i64 0, .int .i64 0] 33))
  have x1 := (Box.new (w.alloc (.cells #[.int .i64 a, .int .i64 b, .int .i64 c, .int .i64 d] 37)) [.int .i64 n, .int .i64 m] 33).later (by simp) (below1 _ (.cells #[.int .i64 0, .int .i64 0] 33))
  have x2 := Box.new ((w.alloc (.cells #[.int .i64 a, .int .i64 b, .int .i64 c, .int .i64 d] 37)).alloc (.cells #[.int .i64 n, .int .i64 m] 33)) [.int .i64 0, .int .i64 0] 33
  simp only [World.size_alloc] at x1 x2
  go_enter Tryz.func129, Tryz.ntmps129
  go_wp2_with fail
  refine (along_any _ _ _ _ _ (by omega) (by omega)).mono ?_
  rintro e w1 ⟨rfl, hb1⟩
  go_upto_region 2 with fail
  have q2 := below1 w1 (.cells #[.int .i64 (c - a), .int .i64 (d - b)] 35)
  have y0 := (x0.later (by simp) hb1).later (by simp) q2
  have y1 := (x1.later (by simp) hb1).later (by simp) q2
  have y2 := (x2.later (by simp) hb1).later (by simp) q2
  have y3 := Box.new w1 [.int .i64 (c - a), .int .i64 (d - b)] 35
  have hB := below_call q2 (below_call hb1 (below3 w _ _ _))
  clear x0 x1 x2 q2 hb1
  generalize w1.alloc (.cells #[.int .i64 (c - a), .int .i64 (d - b)] 35) = WP at *
  have c0 := y0.c 0 _ rfl
  have c1 := y0.c 1 _ rfl
  have c2 := y1.c 0 _ rfl
  have c3 := y1.c 1 _ rfl
  have c4 := y3.c 0 _ rfl
  have c5 := y3.c 1 _ rfl
  go_wp2_with fail
  refine (lowest_wide (b * (c - a) * m + (n - a * m) * (d - b)) ((c - a) * m) _ (by omega) (by omega) h0).mono ?_
  rintro e w2 ⟨rfl, hb2⟩
  have z2 := y2.later (by simp) hb2
  have r0 := z2.c 0 _ rfl
  have r1 := z2.c 1 _ rfl
  have f0 := z2.f 0 (by simp)
  have f1 := z2.f 1 (by simp)
  unfold frV
  go_wp2
  refine bodyPost_ret (v := frV (Acre.hgt ((a, b), (c, d)) (n, m))) ?_ rfl ⟨rfl, ?_⟩
  · simp [results, Tryz.results129, go_sem, r0, r1, frV]
    exact ⟨rfl, rfl⟩
  · exact ((below_call hb2 hB).setCell (by simp; omega) _).setCell (by simp; omega) _

set_option maxHeartbeats 1000000 in
theorem spans_any (e : Acre.Ed) (f t : Acre.Fc) (w : World) (he : SmE e) (hf : Fr f.1 f.2) (ht : Fr t.1 t.2) :
    Calls Tryz.prog 112 #[edV e, frV f, frV t] w fun r w' => r = .returned (.bool (Acre.spn e f t)) ∧ Below w.heap.size w w' := by
  obtain ⟨⟨a, b⟩, ⟨c, d⟩⟩ := e
  obtain ⟨f1, f2⟩ := f
  obtain ⟨t1, t2⟩ := t
  obtain ⟨⟨a1, b1⟩, ⟨c1, d1⟩⟩ := he
  obtain ⟨hxN, hxD⟩ := hf
  obtain ⟨hyN, hyD⟩ := ht
  dsimp only at *
  unfold edV frV Acre.spn
  dsimp only
  cases hb : Acre.btw f1 f2 a c
  · go_enter Tryz.func112, Tryz.ntmps112
    go_wp2_with (first | (go_at_call 98; refine (between_any _ _ _ _ _ (by omega) (mulOk _ _ (by assumption) (by assumption)) (mulOk _ _ (by assumption) (by assumption))).mono ?_; rintro e w' ⟨rfl, hb1⟩))
    go_ret
    exact ⟨rfl, below_call hb1 (below3 _ _ _ _)⟩
  · go_enter Tryz.func112, Tryz.ntmps112
    go_wp2_with fail
    refine (between_any _ _ _ _ _ (by omega) (mulOk _ _ (by assumption) (by assumption)) (mulOk _ _ (by assumption) (by assumption))).mono ?_
    rintro e w1 ⟨rfl, hb1⟩
    obtain ⟨hc, hf⟩ := bcell hb1
    have hz := hb1.size
    go_wp2_with fail
    refine (between_any _ _ _ _ _ (by omega) (mulOk _ _ (by assumption) (by assumption)) (mulOk _ _ (by assumption) (by assumption))).mono ?_
    rintro e w2 ⟨rfl, hb2⟩
    go_wp2
    go_ret
    exact ⟨by simp, below_call hb2 (below_call hb1 (below3 _ _ _ _))⟩

set_option maxRecDepth 100000 in
set_option maxHeartbeats 1000000 in
theorem keeps_any (lv : Value) (k op : Int) (a b : Nat) (w : World) (ga : Option Addr) (len cap : Nat) (hl : lv = .slice ga len cap) (ha : a ≤ 1000) (hb : b ≤ 1000) :
    Calls Tryz.prog 114 #[.agg #[lv, .int .i64 k, .int .i64 op], .agg #[.int .i64 a, .int .i64 b]] w fun r w' => r = .returned (.bool (Acre.keepsB op a b)) ∧ Below w.heap.size w w' := by
  subst hl
  have t1 : ((a : Int).tmod 2) = (a : Int) % 2 := Int.tmod_eq_emod_of_nonneg (by omega)
  have t2 : ((b : Int).tmod 2) = (b : Int) % 2 := Int.tmod_eq_emod_of_nonneg (by omega)
  have key : ∀ (x y : Bool), (a : Int) % 2 = (if x then 1 else 0) → (b : Int) % 2 = (if y then 1 else 0) → (a % 2 == 1) = x → (b % 2 == 1) = y → Calls Tryz.prog 114 #[.agg #[.slice ga len cap, .int .i64 k, .int .i64 op], .agg #[.int .i64 a, .int .i64 b]] w fun r w' => r = .returned (.bool (Acre.opK op x y)) ∧ Below w.heap.size w w' := by
    intro x y hx hy _ _
    rw [hx] at t1
    rw [hy] at t2
    have done : ∀ o : Int, op = o → ∀ r : Bool, Acre.opK op x y = r → ∀ e : Ending, e = .returned (.bool r) → e = .returned (.bool (Acre.opK op x y)) := fun o ho r hr e he => by rw [he, hr]
    by_cases o0 : op = 0
    · have hk : Acre.opK op x y = (x && y) := by unfold Acre.opK; rw [if_pos o0]
      rw [hk]
      subst o0
      clear done hk
      cases x <;> cases y <;> simp only [if_true, Bool.false_eq_true, if_false] at hx hy t1 t2 <;>
      · go_enter Tryz.func114, Tryz.ntmps114
        go_wp2_with fail
        go_region
        go_wp2
        go_ret
        exact ⟨rfl, (below2 _ _ _).drew⟩
    · by_cases o1 : op = 1
      · have hk : Acre.opK op x y = (x || y) := by unfold Acre.opK; rw [if_neg o0, if_pos o1]
        rw [hk]
        subst o1
        clear done hk o0
        cases x <;> cases y <;> simp only [if_true, Bool.false_eq_true, if_false] at hx hy t1 t2 <;>
        · go_enter Tryz.func114, Tryz.ntmps114
          go_wp2_with fail
          go_region
          go_wp2
          go_ret
          exact ⟨rfl, (below2 _ _ _).drew⟩
      · by_cases o2 : op = 2
        · have hk : Acre.opK op x y = (x && !y) := by unfold Acre.opK; rw [if_neg o0, if_neg o1, if_pos o2]
          rw [hk]
          subst o2
          clear done hk o0 o1
          cases x <;> cases y <;> simp only [if_true, Bool.false_eq_true, if_false] at hx hy t1 t2 <;>
          · go_enter Tryz.func114, Tryz.ntmps114
            go_wp2_with fail
            go_region
            go_wp2
            go_ret
            exact ⟨rfl, (below2 _ _ _).drew⟩
        · have hk : Acre.opK op x y = (x != y) := by unfold Acre.opK; rw [if_neg o0, if_neg o1, if_neg o2]
          rw [hk]
          clear done hk
          have p0 : (op == 0) = false := by simpa using o0
          have p1 : (op == 1) = false := by simpa using o1
          have p2 : (op == 2) = false := by simpa using o2
          cases x <;> cases y <;> simp only [if_true, Bool.false_eq_true, if_false] at hx hy t1 t2 <;>
          · go_enter Tryz.func114, Tryz.ntmps114
            go_wp2_with fail
            go_region
            go_wp2
            go_ret
            exact ⟨rfl, (below2 _ _ _).drew⟩
  unfold Acre.keepsB
  rcases Nat.mod_two_eq_zero_or_one a with h1 | h1 <;> rcases Nat.mod_two_eq_zero_or_one b with h2 | h2
  · have := key false false (by simp; omega) (by simp; omega) (by rw [h1]; rfl) (by rw [h2]; rfl)
    rw [h1, h2]; exact this
  · have := key false true (by simp; omega) (by simp; omega) (by rw [h1]; rfl) (by rw [h2]; rfl)
    rw [h1, h2]; exact this
  · have := key true false (by simp; omega) (by simp; omega) (by rw [h1]; rfl) (by rw [h2]; rfl)
    rw [h1, h2]; exact this
  · have := key true true (by simp; omega) (by simp; omega) (by rw [h1]; rfl) (by rw [h2]; rfl)
    rw [h1, h2]; exact this

end Go.Proofs.YtkjlkbgdkdcboaaGreat
