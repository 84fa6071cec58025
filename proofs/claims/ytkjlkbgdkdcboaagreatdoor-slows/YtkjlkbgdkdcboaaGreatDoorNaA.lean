import Derived.Test.YtkjlkbgdkdcboaaGreatDoorPnA

set_option linter.unusedSimpArgs false
set_option linter.unusedVariables false

set_option linter.unusedSimpArgs false
set_option linter.unusedVariables false

namespace Go.Proofs.YtkjlkbgdkdcboaaGreatDoor.Ref
open Go.RowKit
attribute [local go_sem ↓] Go.wp_at_zero Go.wp_at_succ

/-- how many digits of a natural number are read, q of them being read -/
def natG (s : ByteArray) (i : Nat) (bad : Int) : Nat → Nat → Nat
  | 0, q => q
  | n + 1, q => if (digP s (i + q) bad && (decide (q = 0) || !decide (bt s i = 48))) = true then natG s i bad n (q + 1) else q

/-- a natural number of at most m digits: it, the place behind it, what is bad -/
def natN (s : ByteArray) (m i : Nat) (bad : Int) : Int × Nat × Int :=
  if digP s i bad = true then (digV s i (natG s i bad m 0), i + natG s i bad m 0, bad) else (0, i, failed i bad)

theorem digV_step {s : ByteArray} {i q : Nat} {bad : Int} (h : digP s (i + q) bad = true) (h0 : 0 ≤ digV s i q ∧ digV s i q < 10 ^ q) : 0 ≤ digV s i (q + 1) ∧ digV s i (q + 1) < 10 ^ (q + 1) := by
  have hb : bad < 0 ∧ 48 ≤ bt s (i + q) ∧ bt s (i + q) ≤ 57 := by simpa [digP, Bool.and_eq_true] using h
  have hv : digV s i (q + 1) = 10 * digV s i q + (bt s (i + q) - 48) := rfl
  rw [hv, Int.pow_succ]
  omega

theorem pow_five {q : Nat} (h : q ≤ 5) : (10 : Int) ^ q ≤ 100000 := by
  have : q = 0 ∨ q = 1 ∨ q = 2 ∨ q = 3 ∨ q = 4 ∨ q = 5 := by omega
  rcases this with rfl | rfl | rfl | rfl | rfl | rfl <;> decide

theorem idx_of {W : World} {b k : Nat} {s : ByteArray} {bad : Int} (h : PenAt W b s ((k : Nat) : Int) bad) : idxOf b W = k := by
  unfold idxOf; rw [h.c1]; simp

set_option maxRecDepth 100000 in
set_option maxHeartbeats 4000000 in
theorem natural_any (b : Nat) (s : ByteArray) (m i : Nat) (bad : Int) (w : World) (h : PenAt w b s i bad) (hs : s.size < 9223372036854775000) (hm : m ≤ 5) (hm0 : 0 < m) :
    Calls Tryz.prog 116 #[.pointer (some ⟨b, 0, none⟩), .int .i64 m] w fun e w' => e = .returned (.int .i64 (natN s m i bad).1) ∧ PenAt w' b s (natN s m i bad).2.1 (natN s m i bad).2.2 ∧ w.grownBy w' (some b) := by
  obtain ⟨c0, c1, c2, f1, f2⟩ := id h
  have lb := h.lt
  cases hd : digP s i bad with
  | false =>
    have ht : natN s m i bad = (0, i, failed i bad) := by simp [natN, hd]
    rw [ht]
    have hdig := dig_any b s i bad w h
    rw [hd] at hdig
    have Hdig := hide hdig
    clear ht hdig hd
    go_enter Tryz.func116, Tryz.ntmps116
    go_wp2_with fail
    refine Hdig.out.mono ?_
    rintro e w4 ⟨rfl, h4, g4⟩
    go_wp2_with fail
    refine (fail_any b s i bad w4 h4).mono ?_
    rintro e w5 ⟨rfl, h5, g5⟩
    go_wp2
    go_ret
    exact ⟨rfl, h5, gb_trans g4 g5⟩
  | true =>
    have ht : natN s m i bad = (digV s i (natG s i bad m 0), i + natG s i bad m 0, bad) := by simp [natN, hd]
    rw [ht]
    have hdig := dig_any b s i bad w h
    rw [hd] at hdig
    have Hdig := hide hdig
    have Hd := hide hd
    clear ht hdig hd
    go_enter Tryz.func116, Tryz.ntmps116
    go_wp2_with fail
    refine Hdig.out.mono ?_
    rintro e w4 ⟨rfl, h4, g4⟩
    clear c0 c1 c2 f1 f2
    obtain ⟨c0, c1, c2, f1, f2⟩ := id h4
    go_wp2
    clear c0 c1 c2 f1 f2
    go_loopw [5, 6] (fun d n wr => ∃ (q : Nat) (V : Int), n = .int .i64 V ∧ q ≤ m ∧ d = .bool (digP s (i + q) bad) ∧ Hid (V = digV s i q ∧ 0 ≤ V ∧ V < 10 ^ q ∧ PenAt wr b s ((i + q : Nat) : Int) bad ∧ w.grownBy wr (some b) ∧ natG s i bad (m - q) q = natG s i bad m 0)) (fun _ _ wr => m - (idxOf b wr - i))
    case atStart => exact ⟨0, 0, rfl, by omega, by rw [Nat.add_zero, Hd.out], rfl, by omega, by simp, h4, g4, rfl⟩
    case round =>
      obtain ⟨q, V, rfl, hq, rfl, hr⟩ := hrel
      obtain ⟨hV, hV0, hV1, hp, hg, hG⟩ := hr.out
      have hbnd := pow_five (q := q) (by omega)
      have hidx := idx_of hp
      have hpos : i < s.size := by
        have := Hd.out
        have hb : bad < 0 ∧ 48 ≤ bt s i ∧ bt s i ≤ 57 := by simpa [digP, Bool.and_eq_true] using this
        exact bt_pos (by omega)
      have hbti := bt_in hpos
      obtain ⟨c0, c1, c2, f1, f2⟩ := id hp
      cases hdq : digP s (i + q) bad with
      | false =>
        have hK : natG s i bad m 0 = q := by
          rw [← hG]
          cases m - q with
          | zero => rfl
          | succ n => simp [natG, hdq]
        have HK := hide hK
        have HV := hide hV
        have HG := hide hG
        have Hi := hide hidx
        clear hK hV hG hdq hr hidx
        go_wp2
        go_ret
        refine ⟨?_, ?_, ?_⟩
        · rw [HK.out, HV.out]; rfl
        · rw [HK.out]; exact hp
        · exact hg
      | true =>
        by_cases hqm : q < m
        · by_cases hgo : q = 0 ∨ ¬ bt s i = 48
          · have hK : natG s i bad (m - (q + 1)) (q + 1) = natG s i bad m 0 := by
              rw [← hG]
              obtain ⟨n, hn⟩ : ∃ n, m - q = n + 1 := ⟨m - q - 1, by omega⟩
              rw [hn, show m - (q + 1) = n by omega]
              have : (digP s (i + q) bad && (decide (q = 0) || !decide (bt s i = 48))) = true := by
                rw [hdq]; rcases hgo with h | h <;> simp [h]
              simp only [natG, this, if_true]
            have hst := digV_step hdq ⟨by rw [← hV]; exact hV0, by rw [← hV]; exact hV1⟩
            have hvs : digV s i (q + 1) = 10 * V + (bt s (i + q) - 48) := by rw [hV]; rfl
            have hb : bad < 0 ∧ 48 ≤ bt s (i + q) ∧ bt s (i + q) ≤ 57 := by simpa [digP, Bool.and_eq_true] using hdq
            have hlt : i + q < s.size := bt_pos (by omega)
            have hbt := bt_in hlt
            rw [hbt] at hvs hb
            rw [hbti] at hgo
            have HK := hide hK
            have HV := hide hV
            have HG := hide hG
            have Hi := hide hidx
            have Hst := hide hst
            have Hvs := hide hvs
            have hVb : V ≤ 100000 := by omega
            clear hK hV hG hdq hr hidx hst hvs hbt hbti hV1 hbnd
            obtain ⟨hb0, hb1, hb2⟩ := hb
            have ht1 : ((i + q : Nat) : Int) - (i : Int) < (m : Int) := by omega
            have hlt2 : ((i + q : Nat) : Int) < (s.size : Int) := by omega
            have hlt3 : (i : Int) < (s.size : Int) := by omega
            have hb3 : (s[i + q]'hlt).toNat < 256 := (s[i + q]'hlt).toNat_lt
            by_cases hq0 : q = 0
            · have ht2 : (((i + q : Nat) : Int) == (i : Int)) = true := by subst hq0; simp
              have Hq := hide hq0
              generalize ht : i + q = t at *
              have Ht := hide ht
              clear hgo hq0 ht
              go_wp2
              first | go_quiet (fail) | go_region
              go_wp2_with fail
              have p6 : PenAt ((wr.drewN nq).setCell ⟨b, 1, none⟩ (.int .i64 ((t : Int) + 1))) b s ((t + 1 : Nat) : Int) bad := by
                have := (hp.drewN nq).setI ((t : Int) + 1)
                simpa using this
              have g6 : w.grownBy ((wr.drewN nq).setCell ⟨b, 1, none⟩ (.int .i64 ((t : Int) + 1))) (some b) := gb_trans (gb_trans hg (gb_drewN _ _ _)) (gb_set _ _ _ _)
              refine (dig_any b s (t + 1) bad _ p6).mono ?_
              rintro e w6 ⟨rfl, h6, g7⟩
              have e1 : Hid (i + (q + 1) = t + 1) := by have := Ht.out; show _ = _; omega
              have N6 : Hid (PenAt w6 b s ((i + (q + 1) : Nat) : Int) bad ∧ w.grownBy w6 (some b) ∧ idxOf b w6 = t + 1) := ⟨by rw [e1.out]; exact h6, gb_trans g6 g7, idx_of h6⟩
              have e2 : Hid (digP s (i + (q + 1)) bad = digP s (t + 1) bad) := by
                have e : i + (q + 1) = t + 1 := by have := Ht.out; omega
                show _ = _
                rw [e]
              clear p6 g6 h6 g7 c0 c1 c2 f1 f2 hp hg
              generalize digP s (t + 1) bad = D at *
              go_wp2
              go_roundw
              case rel =>
                refine ⟨q + 1, 10 * V + ((s[t].toNat : Int) - 48), by go_num, by omega, by rw [e2.out], ?_⟩
                refine ⟨Hvs.out.symm, ?_, ?_, N6.out.1, N6.out.2.1, HK.out⟩
                · rw [← Hvs.out]; exact Hst.out.1
                · rw [← Hvs.out]; exact Hst.out.2
              case measure =>
                rw [N6.out.2.2, Hi.out]
                have := Ht.out
                omega
            · have ht2 : (((i + q : Nat) : Int) == (i : Int)) = false := by simp; omega
              have hne : ((s[i].toNat : Int) == 48) = false := by
                rcases hgo with h | h
                · exact absurd h hq0
                · simpa using h
              have hne2 : ((s[i].toNat : Int) != 48) = true := by simp only [bne, hne]; rfl
              generalize ht : i + q = t at *
              have Ht := hide ht
              clear hgo hq0 ht
              go_wp2
              first | go_quiet (fail) | go_region
              go_wp2_with fail
              have p6 : PenAt ((wr.drewN nq).setCell ⟨b, 1, none⟩ (.int .i64 ((t : Int) + 1))) b s ((t + 1 : Nat) : Int) bad := by
                have := (hp.drewN nq).setI ((t : Int) + 1)
                simpa using this
              have g6 : w.grownBy ((wr.drewN nq).setCell ⟨b, 1, none⟩ (.int .i64 ((t : Int) + 1))) (some b) := gb_trans (gb_trans hg (gb_drewN _ _ _)) (gb_set _ _ _ _)
              refine (dig_any b s (t + 1) bad _ p6).mono ?_
              rintro e w6 ⟨rfl, h6, g7⟩
              have e1 : Hid (i + (q + 1) = t + 1) := by have := Ht.out; show _ = _; omega
              have N6 : Hid (PenAt w6 b s ((i + (q + 1) : Nat) : Int) bad ∧ w.grownBy w6 (some b) ∧ idxOf b w6 = t + 1) := ⟨by rw [e1.out]; exact h6, gb_trans g6 g7, idx_of h6⟩
              have e2 : Hid (digP s (i + (q + 1)) bad = digP s (t + 1) bad) := by
                have e : i + (q + 1) = t + 1 := by have := Ht.out; omega
                show _ = _
                rw [e]
              clear p6 g6 h6 g7 c0 c1 c2 f1 f2 hp hg
              generalize digP s (t + 1) bad = D at *
              go_wp2
              go_roundw
              case rel =>
                refine ⟨q + 1, 10 * V + ((s[t].toNat : Int) - 48), by go_num, by omega, by rw [e2.out], ?_⟩
                refine ⟨Hvs.out.symm, ?_, ?_, N6.out.1, N6.out.2.1, HK.out⟩
                · rw [← Hvs.out]; exact Hst.out.1
                · rw [← Hvs.out]; exact Hst.out.2
              case measure =>
                rw [N6.out.2.2, Hi.out]
                have := Ht.out
                omega
          · have hK : natG s i bad m 0 = q := by
              rw [← hG]
              obtain ⟨n, hn⟩ : ∃ n, m - q = n + 1 := ⟨m - q - 1, by omega⟩
              rw [hn]
              have : (digP s (i + q) bad && (decide (q = 0) || !decide (bt s i = 48))) = false := by
                have h1 : q ≠ 0 := fun h => hgo (.inl h)
                have h2 : bt s i = 48 := Classical.byContradiction fun h => hgo (.inr h)
                simp [h1, h2]
              simp [natG, this]
            have h1 : q ≠ 0 := fun h => hgo (.inl h)
            have h2 : bt s i = 48 := Classical.byContradiction fun h => hgo (.inr h)
            rw [hbti] at h2
            have HK := hide hK
            have HV := hide hV
            have hlt3 : (i : Int) < (s.size : Int) := by omega
            have ht1 : ((i + q : Nat) : Int) - (i : Int) < (m : Int) := by omega
            have ht2 : (((i + q : Nat) : Int) == (i : Int)) = false := by simp; omega
            have hne : ((s[i].toNat : Int) == 48) = true := by simpa using h2
            have hne2 : ((s[i].toNat : Int) != 48) = false := by simp only [bne, hne]; rfl
            clear hK hV hG hdq hr hidx hbti hgo h1 h2
            have Hp := hide hp
            clear hp
            generalize ht : i + q = t at c1 ht1 ht2
            clear ht
            go_wp2
            go_ret
            refine ⟨?_, ?_, ?_⟩
            · rw [HK.out, HV.out]; rfl
            · rw [HK.out]; exact Hp.out
            · exact hg
        · have hK : natG s i bad m 0 = q := by
            rw [← hG, show m - q = 0 by omega]; rfl
          have HK := hide hK
          have HV := hide hV
          have ht1 : ¬ ((i + q : Nat) : Int) - (i : Int) < (m : Int) := by omega
          clear hK hV hG hdq hr hidx hbti
          go_wp2
          go_ret
          refine ⟨?_, ?_, ?_⟩
          · rw [HK.out, HV.out]; rfl
          · rw [HK.out]; exact hp
          · exact hg

theorem natG_bd (s : ByteArray) (i : Nat) (bad : Int) : ∀ (n q : Nat), (0 ≤ digV s i q ∧ digV s i q < 10 ^ q) → natG s i bad n q ≤ q + n ∧ 0 ≤ digV s i (natG s i bad n q) ∧ digV s i (natG s i bad n q) < 10 ^ (natG s i bad n q)
  | 0, q, h => by simpa [natG] using h
  | n + 1, q, h => by
    unfold natG
    split
    · rename_i hc
      have hd : digP s (i + q) bad = true := by
        cases hh : digP s (i + q) bad
        · rw [hh] at hc; simp at hc
        · rfl
      have ih := natG_bd s i bad n (q + 1) (digV_step hd h)
      exact ⟨by omega, ih.2⟩
    · exact ⟨by omega, h⟩

theorem natN_bd (s : ByteArray) (m i : Nat) (bad : Int) (hm : m ≤ 5) : 0 ≤ (natN s m i bad).1 ∧ (natN s m i bad).1 < 100000 := by
  unfold natN
  split
  · have h := natG_bd s i bad m 0 (by simp [digV])
    have := pow_five (q := natG s i bad m 0) (by omega)
    exact ⟨h.2.1, by simp only; omega⟩
  · exact ⟨by simp, by simp⟩

theorem natN_le (s : ByteArray) (m i : Nat) (bad : Int) : i ≤ (natN s m i bad).2.1 := by
  unfold natN
  split
  · simp
  · simp

/-- what is bad behind a minus -/
def zeroB (s : ByteArray) (i : Nat) (bad : Int) : Int :=
  if (onP s i bad 45 && onP s (gotI s i bad 45) bad 48) = true then failed (gotI s i bad 45) bad else bad

/-- a fraction, as it stands: it, the place behind it, what is bad -/
def fracP (s : ByteArray) (i : Nat) (bad : Int) : (Int × Int) × Nat × Int :=
  let a := natN s 5 (gotI s i bad 45) (zeroB s i bad)
  let c := natN s 4 (gotI s a.2.1 a.2.2 47) (mustB s a.2.1 a.2.2 47)
  ((if onP s i bad 45 then -a.1 else a.1, c.1), c.2)

set_option maxRecDepth 100000 in
set_option maxHeartbeats 4000000 in
theorem frac_any (b : Nat) (s : ByteArray) (i : Nat) (bad : Int) (w : World) (h : PenAt w b s i bad) (hs : s.size < 9223372036854775000) :
    Calls Tryz.prog 115 #[.pointer (some ⟨b, 0, none⟩)] w fun e w' => e = .returned (.agg #[.int .i64 (fracP s i bad).1.1, .int .i64 (fracP s i bad).1.2]) ∧ PenAt w' b s (fracP s i bad).2.1 (fracP s i bad).2.2 ∧ w.grownBy w' (some b) := by
  have lb := h.lt
  have hgot := fun W hp => got_any b s i bad 45 W hp (by decide) (by omega)
  have hon := fun W hp => on_any b s (gotI s i bad 45) bad 48 W hp (by decide)
  have hnat := fun W Z hp => natural_any b s 5 (gotI s i bad 45) Z W hp hs (by decide) (by decide)
  obtain ⟨Z, hZ⟩ : ∃ Z, zeroB s i bad = Z := ⟨_, rfl⟩
  obtain ⟨M, hM⟩ : ∃ M, onP s i bad 45 = M := ⟨_, rfl⟩
  obtain ⟨L, hL⟩ : ∃ L, onP s (gotI s i bad 45) bad 48 = L := ⟨_, rfl⟩
  have nb := natN_bd s 5 (gotI s i bad 45) Z (by decide)
  obtain ⟨⟨n, j1, b1⟩, hA⟩ : ∃ A, natN s 5 (gotI s i bad 45) Z = A := ⟨_, rfl⟩
  have hmu := fun W hp => must_any b s j1 b1 47 W hp (by decide) (by omega)
  obtain ⟨j2, hj2⟩ : ∃ j2, gotI s j1 b1 47 = j2 := ⟨_, rfl⟩
  obtain ⟨b2, hb2⟩ : ∃ b2, mustB s j1 b1 47 = b2 := ⟨_, rfl⟩
  have hnat2 := fun W hp => natural_any b s 4 j2 b2 W hp hs (by decide) (by decide)
  obtain ⟨⟨d, j3, b3⟩, hC⟩ : ∃ C, natN s 4 j2 b2 = C := ⟨_, rfl⟩
  have hF : fracP s i bad = ((if M then -n else n, d), j3, b3) := by
    unfold fracP
    rw [hZ, hM, hA]
    simp only
    rw [hj2, hb2, hC]
  rw [hF]
  have hnat1 := fun W hp => hnat W Z hp
  rw [hA] at hnat1 nb
  rw [hC] at hnat2
  rw [hj2, hb2] at hmu
  rw [hM] at hgot
  rw [hL] at hon
  unfold zeroB at hZ
  rw [hM, hL] at hZ
  clear hF hnat hA hC hj2 hb2 hM hL
  generalize gotI s i bad 45 = j at *
  have hA2 := hide hnat1
  have hC2 := hide hmu
  have hD2 := hide hnat2
  have Hgot := hide hgot
  have Hon := hide hon
  have HZ := hide hZ
  clear hnat1 hmu hnat2 hgot hon hZ
  have nb0 : 0 ≤ n := nb.1
  have nb1 : n < 100000 := nb.2
  clear nb
  have p0 := h.alloc (.cells #[.int .i64 0, .int .i64 0] 90)
  have r0 : BoxN (w.alloc (.cells #[.int .i64 0, .int .i64 0] 90)) w.heap.size 0 0 := by constructor <;> simp [go_sem]
  cases M with
  | false =>
    obtain rfl : bad = Z := by have := HZ.out; simpa using this
    go_enter Tryz.func115, Tryz.ntmps115
    go_wp2_with fail
    refine (Hgot.out _ p0).mono ?_
    rintro e w1 ⟨rfl, h1, g1⟩
    go_wp2_with fail
    refine (hA2.out _ h1).mono ?_
    rintro e w4 ⟨rfl, h4, g4⟩
    go_wp2_with fail
    refine (hC2.out _ h4).mono ?_
    rintro e w5 ⟨rfl, h5, g5⟩
    go_wp2_with fail
    refine (hD2.out _ h5).mono ?_
    rintro e w6 ⟨rfl, h6, g6⟩
    have gg := gb_trans (gb_trans (gb_trans g1 g4) g5) g6
    have r6 := r0.kept gg (by simp; omega)
    have gw := gb_trans (gb_alloc w (.cells #[.int .i64 0, .int .i64 0] 90) (some b)) gg
    obtain ⟨rc0, rc1, rf0, rf1⟩ := id r6
    have z1 : BoxN ((w6.setCell ⟨w.heap.size, 0, none⟩ (.int .i64 n)).setCell ⟨w.heap.size, 1, none⟩ (.int .i64 d)) w.heap.size n d := by
      constructor <;> simp [go_sem, *]
    obtain ⟨zc0, zc1, _, _⟩ := id z1
    have z2 : PenAt ((w6.setCell ⟨w.heap.size, 0, none⟩ (.int .i64 n)).setCell ⟨w.heap.size, 1, none⟩ (.int .i64 d)) b s j3 b3 := (h6.kept (gb_set _ _ _ _) (by simp; omega)).kept (gb_set _ _ _ _) (by simp; omega)
    have z3 : w.grownBy ((w6.setCell ⟨w.heap.size, 0, none⟩ (.int .i64 n)).setCell ⟨w.heap.size, 1, none⟩ (.int .i64 d)) (some b) := gb_new (gb_new gw (Nat.le_refl _)) (Nat.le_refl _)
    go_wp2
    exact bodyPost_ret (v := .agg #[.int .i64 n, .int .i64 d]) (by simp [results, Tryz.results115, go_sem, zc0, zc1]) rfl ⟨rfl, z2, z3⟩
  | true =>
    cases L with
    | false =>
      obtain rfl : bad = Z := by have := HZ.out; simpa using this
      go_enter Tryz.func115, Tryz.ntmps115
      go_wp2_with fail
      refine (Hgot.out _ p0).mono ?_
      rintro e w1 ⟨rfl, h1, g1⟩
      go_wp2_with fail
      refine (Hon.out _ h1).mono ?_
      rintro e w2 ⟨rfl, h2, g2⟩
      go_wp2_with fail
      refine (hA2.out _ h2).mono ?_
      rintro e w4 ⟨rfl, h4, g4⟩
      go_wp2_with fail
      refine (hC2.out _ h4).mono ?_
      rintro e w5 ⟨rfl, h5, g5⟩
      go_wp2_with fail
      refine (hD2.out _ h5).mono ?_
      rintro e w6 ⟨rfl, h6, g6⟩
      have gg := gb_trans (gb_trans (gb_trans (gb_trans g1 g2) g4) g5) g6
      have r6 := r0.kept gg (by simp; omega)
      have gw := gb_trans (gb_alloc w (.cells #[.int .i64 0, .int .i64 0] 90) (some b)) gg
      obtain ⟨rc0, rc1, rf0, rf1⟩ := id r6
      have z1 : BoxN ((w6.setCell ⟨w.heap.size, 0, none⟩ (.int .i64 (-n))).setCell ⟨w.heap.size, 1, none⟩ (.int .i64 d)) w.heap.size (-n) d := by
        constructor <;> simp [go_sem, *]
      obtain ⟨zc0, zc1, _, _⟩ := id z1
      have z2 : PenAt ((w6.setCell ⟨w.heap.size, 0, none⟩ (.int .i64 (-n))).setCell ⟨w.heap.size, 1, none⟩ (.int .i64 d)) b s j3 b3 := (h6.kept (gb_set _ _ _ _) (by simp; omega)).kept (gb_set _ _ _ _) (by simp; omega)
      have z3 : w.grownBy ((w6.setCell ⟨w.heap.size, 0, none⟩ (.int .i64 (-n))).setCell ⟨w.heap.size, 1, none⟩ (.int .i64 d)) (some b) := gb_new (gb_new gw (Nat.le_refl _)) (Nat.le_refl _)
      go_wp2
      exact bodyPost_ret (v := .agg #[.int .i64 (-n), .int .i64 d]) (by simp [results, Tryz.results115, go_sem, zc0, zc1]) rfl ⟨rfl, z2, z3⟩
    | true =>
      obtain rfl : failed j bad = Z := by have := HZ.out; simpa using this
      go_enter Tryz.func115, Tryz.ntmps115
      go_wp2_with fail
      refine (Hgot.out _ p0).mono ?_
      rintro e w1 ⟨rfl, h1, g1⟩
      go_wp2_with fail
      refine (Hon.out _ h1).mono ?_
      rintro e w2 ⟨rfl, h2, g2⟩
      go_wp2_with fail
      refine (fail_any b s j bad w2 h2).mono ?_
      rintro e w3 ⟨rfl, h3, g3⟩
      go_wp2_with fail
      refine (hA2.out _ h3).mono ?_
      rintro e w4 ⟨rfl, h4, g4⟩
      go_wp2_with fail
      refine (hC2.out _ h4).mono ?_
      rintro e w5 ⟨rfl, h5, g5⟩
      go_wp2_with fail
      refine (hD2.out _ h5).mono ?_
      rintro e w6 ⟨rfl, h6, g6⟩
      have gg := gb_trans (gb_trans (gb_trans (gb_trans (gb_trans g1 g2) g3) g4) g5) g6
      have r6 := r0.kept gg (by simp; omega)
      have gw := gb_trans (gb_alloc w (.cells #[.int .i64 0, .int .i64 0] 90) (some b)) gg
      obtain ⟨rc0, rc1, rf0, rf1⟩ := id r6
      have z1 : BoxN ((w6.setCell ⟨w.heap.size, 0, none⟩ (.int .i64 (-n))).setCell ⟨w.heap.size, 1, none⟩ (.int .i64 d)) w.heap.size (-n) d := by
        constructor <;> simp [go_sem, *]
      obtain ⟨zc0, zc1, _, _⟩ := id z1
      have z2 : PenAt ((w6.setCell ⟨w.heap.size, 0, none⟩ (.int .i64 (-n))).setCell ⟨w.heap.size, 1, none⟩ (.int .i64 d)) b s j3 b3 := (h6.kept (gb_set _ _ _ _) (by simp; omega)).kept (gb_set _ _ _ _) (by simp; omega)
      have z3 : w.grownBy ((w6.setCell ⟨w.heap.size, 0, none⟩ (.int .i64 (-n))).setCell ⟨w.heap.size, 1, none⟩ (.int .i64 d)) (some b) := gb_new (gb_new gw (Nat.le_refl _)) (Nat.le_refl _)
      go_wp2
      exact bodyPost_ret (v := .agg #[.int .i64 (-n), .int .i64 d]) (by simp [results, Tryz.results115, go_sem, zc0, zc1]) rfl ⟨rfl, z2, z3⟩

end Go.Proofs.YtkjlkbgdkdcboaaGreatDoor.Ref

set_option linter.unusedSimpArgs false
set_option linter.unusedVariables false

namespace Go.Proofs.YtkjlkbgdkdcboaaGreatDoor.Ref
open Go.RowKit
attribute [local go_sem ↓] Go.wp_at_zero Go.wp_at_succ

/-- a piece as it stands in a text: its ends, its edges' numbers, the places of its four parts -/
structure PcT where
  fr : Int × Int
  tt : Int × Int
  lo : Int
  hi : Int
  t0 : Nat
  t1 : Nat
  t2 : Nat
  t3 : Nat

def PcT.cells (p : PcT) : List Int := [p.fr.1, p.fr.2, p.tt.1, p.tt.2, p.lo, p.hi, p.t0, p.t0, p.t1, p.t2, p.t3]

def pieceP (s : ByteArray) (i : Nat) (bad : Int) : PcT × Nat × Int :=
  let f := fracP s i bad
  let m1 := mustS s f.2 32
  let g := fracP s m1.1 m1.2
  let m2 := mustS s g.2 32
  let l := natN s 4 m2.1 m2.2
  let m3 := mustS s l.2 32
  let h := natN s 4 m3.1 m3.2
  (⟨f.1, g.1, l.1, h.1, i, m1.1, m2.1, m3.1⟩, h.2)

/-- a box of numbers -/
structure BoxE (W : World) (n : Nat) (l : List Int) : Prop where
  c : ∀ k v, l[k]? = some v → W.cell? ⟨n, k, none⟩ = some (.int .i64 v)
  f : ∀ k, k < l.length → W.frozen? ⟨n, k, none⟩ = false

theorem BoxE.kept {w w' : World} {n : Nat} {l : List Int} {r : Option Nat} (h : BoxE w n l) (hl : 0 < l.length) (hg : w.grownBy w' r) (hr : r ≠ some n) : BoxE w' n l := by
  have h0 : l[0]? = some l[0] := by simp
  have hb : w'.heap[n]? = w.heap[n]? := hg.block n (World.block_lt_of_cell? _ _ (h.c 0 _ h0)) (fun e => hr e.symm)
  exact ⟨fun k v hk => hg.cell (h.c k v hk) (fun e => hr e.symm), fun k hk => (World.frozen?_of_block (w := w) hb).trans (h.f k hk)⟩

theorem BoxE.set {w : World} {n : Nat} {l : List Int} (h : BoxE w n l) (k : Nat) (hk : k < l.length) (u : Int) : BoxE (w.setCell ⟨n, k, none⟩ (.int .i64 u)) n (l.set k u) := by
  have hc := h.c k l[k] (by simp)
  have hf := h.f k hk
  refine ⟨fun j v hj => ?_, fun j hj => ?_⟩
  · by_cases e : k = j
    · subst e
      rw [List.getElem?_set_self hk] at hj
      cases hj
      simp [go_sem, hc]
    · rw [List.getElem?_set_ne e] at hj
      have := h.c j v hj
      simp [go_sem, this]
      try omega
  · rw [List.length_set] at hj
    have := h.f j hj
    rw [frozen_set]
    exact this

/-- what holds while a piece is read -/
structure PcAt (w W : World) (b : Nat) (s : ByteArray) (j : Nat) (bad : Int) (l : List Int) : Prop where
  pen : PenAt W b s j bad
  box : BoxE W (w.heap.size + 1) l
  res : BoxE W w.heap.size [0, 0, 0, 0, 0, 0, 0, 0, 0, 0, 0]
  gb : w.grownBy W (some b)

theorem PcAt.call {w W W' : World} {b : Nat} {s : ByteArray} {j j' : Nat} {bad bad' : Int} {l : List Int} (h : PcAt w W b s j bad l) (hl : 0 < l.length) (hb : b < w.heap.size) (hp : PenAt W' b s j' bad') (hg : W.grownBy W' (some b)) : PcAt w W' b s j' bad' l :=
  ⟨hp, h.box.kept hl hg (by simp; omega), h.res.kept (by simp) hg (by simp; omega), gb_trans h.gb hg⟩

theorem PcAt.set {w W : World} {b : Nat} {s : ByteArray} {j : Nat} {bad : Int} {l : List Int} (h : PcAt w W b s j bad l) (hb : b < w.heap.size) (k : Nat) (hk : k < l.length) (u : Int) : PcAt w (W.setCell ⟨w.heap.size + 1, k, none⟩ (.int .i64 u)) b s j bad (l.set k u) :=
  ⟨h.pen.kept (gb_set _ _ _ _) (by simp; omega), h.box.set k hk u, h.res.kept (by simp) (gb_set _ _ _ _) (by simp), gb_new h.gb (by omega)⟩

set_option maxRecDepth 100000 in
set_option maxHeartbeats 4000000 in
theorem piece_any (b : Nat) (s : ByteArray) (i : Nat) (bad : Int) (w : World) (h : PenAt w b s i bad) (hs : s.size < 9223372036854775000) :
    Calls Tryz.prog 63 #[.pointer (some ⟨b, 0, none⟩)] w fun e w' => e = .returned (.agg ((pieceP s i bad).1.cells.map (fun v => Value.int .i64 v)).toArray) ∧ PenAt w' b s (pieceP s i bad).2.1 (pieceP s i bad).2.2 ∧ w.grownBy w' (some b) := by
  have lb := h.lt
  have hf := fun W hp => frac_any b s i bad W hp hs
  obtain ⟨⟨⟨x0, x1⟩, j1, b1⟩, e1⟩ : ∃ F, fracP s i bad = F := ⟨_, rfl⟩
  have hm1 := fun W hp => must_any b s j1 b1 32 W hp (by decide) (by omega)
  obtain ⟨⟨j2, b2⟩, e2⟩ : ∃ F, mustS s (j1, b1) 32 = F := ⟨_, rfl⟩
  have hg := fun W hp => frac_any b s j2 b2 W hp hs
  obtain ⟨⟨⟨y0, y1⟩, j3, b3⟩, e3⟩ : ∃ F, fracP s j2 b2 = F := ⟨_, rfl⟩
  have hm2 := fun W hp => must_any b s j3 b3 32 W hp (by decide) (by omega)
  obtain ⟨⟨j4, b4⟩, e4⟩ : ∃ F, mustS s (j3, b3) 32 = F := ⟨_, rfl⟩
  have hl := fun W hp => natural_any b s 4 j4 b4 W hp hs (by decide) (by decide)
  obtain ⟨⟨lo, j5, b5⟩, e5⟩ : ∃ F, natN s 4 j4 b4 = F := ⟨_, rfl⟩
  have hm3 := fun W hp => must_any b s j5 b5 32 W hp (by decide) (by omega)
  obtain ⟨⟨j6, b6⟩, e6⟩ : ∃ F, mustS s (j5, b5) 32 = F := ⟨_, rfl⟩
  have hh := fun W hp => natural_any b s 4 j6 b6 W hp hs (by decide) (by decide)
  obtain ⟨⟨hi, j7, b7⟩, e7⟩ : ∃ F, natN s 4 j6 b6 = F := ⟨_, rfl⟩
  have hP : pieceP s i bad = (⟨(x0, x1), (y0, y1), lo, hi, i, j2, j4, j6⟩, j7, b7) := by
    unfold pieceP
    simp only [e1, e2, e3, e4, e5, e6, e7]
  rw [hP]
  rw [e1] at hf
  rw [e3] at hg
  rw [e5] at hl
  rw [e7] at hh
  have q2 : gotI s j1 b1 32 = j2 ∧ mustB s j1 b1 32 = b2 := by simpa [mustS] using e2
  have q4 : gotI s j3 b3 32 = j4 ∧ mustB s j3 b3 32 = b4 := by simpa [mustS] using e4
  have q6 : gotI s j5 b5 32 = j6 ∧ mustB s j5 b5 32 = b6 := by simpa [mustS] using e6
  rw [q2.1, q2.2] at hm1
  rw [q4.1, q4.2] at hm2
  rw [q6.1, q6.2] at hm3
  clear hP e1 e2 e3 e4 e5 e6 e7 q2 q4 q6
  have Hf := hide hf
  have Hg := hide hg
  have Hl := hide hl
  have Hh := hide hh
  have Hm1 := hide hm1
  have Hm2 := hide hm2
  have Hm3 := hide hm3
  clear hf hg hl hh hm1 hm2 hm3
  obtain ⟨c0, c1, c2, f1, f2⟩ := id h
  have n0 : PcAt w ((w.alloc (.cells #[.int .i64 0, .int .i64 0, .int .i64 0, .int .i64 0, .int .i64 0, .int .i64 0, .int .i64 0, .int .i64 0, .int .i64 0, .int .i64 0, .int .i64 0] 93)).alloc (.cells #[.int .i64 0, .int .i64 0, .int .i64 0, .int .i64 0, .int .i64 0, .int .i64 0, .int .i64 i, .int .i64 i, .int .i64 0, .int .i64 0, .int .i64 0] 93)) b s i bad [0, 0, 0, 0, 0, 0, i, i, 0, 0, 0] := by
    refine ⟨(h.alloc _).alloc _, ⟨?_, ?_⟩, ⟨?_, ?_⟩, gb_trans (gb_alloc _ _ _) (gb_alloc _ _ _)⟩
    · intro k v hk
      rcases k with _ | _ | _ | _ | _ | _ | _ | _ | _ | _ | _ | k <;> first | (simp at hk; subst hk; simp [go_sem]) | (simp at hk)
    · intro k hk
      simp [go_sem]
    · intro k v hk
      rcases k with _ | _ | _ | _ | _ | _ | _ | _ | _ | _ | _ | k <;> first | (simp at hk; subst hk; simp [go_sem]) | (simp at hk)
    · intro k hk
      simp [go_sem]
  go_enter Tryz.func63, Tryz.ntmps63
  go_wp2_with fail
  refine (Hf.out _ n0.pen).mono ?_
  rintro e w1 ⟨rfl, h1, g1⟩
  have n1 := n0.call (by simp) lb h1 g1
  clear n0 h1 g1 c0 c1 c2 f1 f2
  have n2 := (n1.set lb 0 (by simp) x0).set lb 1 (by simp) x1
  simp only [List.set] at n2
  have a0 := n1.box.c 0 _ rfl
  have a1 := n1.box.c 1 _ rfl
  have d0 := n1.box.f 0 (by simp)
  have d1 := n1.box.f 1 (by simp)
  go_wp2_with fail
  clear a0 d0 a1 d1
  refine (Hm1.out _ n2.pen).mono ?_
  rintro e w2 ⟨rfl, h1, g1⟩
  have n3 := n2.call (by simp) lb h1 g1
  clear h1 g1
  have c1 := n3.pen.c1
  have n4 := n3.set lb 8 (by simp) (j2 : Int)
  simp only [List.set] at n4
  have a8 := n3.box.c 8 _ rfl
  have d8 := n3.box.f 8 (by simp)
  go_wp2_with fail
  clear a8 d8
  clear c1
  refine (Hg.out _ n4.pen).mono ?_
  rintro e w3 ⟨rfl, h1, g1⟩
  have n5 := n4.call (by simp) lb h1 g1
  clear h1 g1
  have n6 := (n5.set lb 2 (by simp) y0).set lb 3 (by simp) y1
  simp only [List.set] at n6
  have a2 := n5.box.c 2 _ rfl
  have d2 := n5.box.f 2 (by simp)
  have a3 := n5.box.c 3 _ rfl
  have d3 := n5.box.f 3 (by simp)
  go_wp2_with fail
  clear a2 d2 a3 d3
  refine (Hm2.out _ n6.pen).mono ?_
  rintro e w4 ⟨rfl, h1, g1⟩
  have n7 := n6.call (by simp) lb h1 g1
  clear h1 g1
  have c1 := n7.pen.c1
  have n8 := n7.set lb 9 (by simp) (j4 : Int)
  simp only [List.set] at n8
  have a9 := n7.box.c 9 _ rfl
  have d9 := n7.box.f 9 (by simp)
  go_wp2_with fail
  clear a9 d9
  clear c1
  refine (Hl.out _ n8.pen).mono ?_
  rintro e w5 ⟨rfl, h1, g1⟩
  have n9 := n8.call (by simp) lb h1 g1
  clear h1 g1
  have n10 := n9.set lb 4 (by simp) lo
  simp only [List.set] at n10
  have a4 := n9.box.c 4 _ rfl
  have d4 := n9.box.f 4 (by simp)
  go_wp2_with fail
  clear a4 d4
  refine (Hm3.out _ n10.pen).mono ?_
  rintro e w6 ⟨rfl, h1, g1⟩
  have n11 := n10.call (by simp) lb h1 g1
  clear h1 g1
  have c1 := n11.pen.c1
  have n12 := n11.set lb 10 (by simp) (j6 : Int)
  simp only [List.set] at n12
  have a10 := n11.box.c 10 _ rfl
  have d10 := n11.box.f 10 (by simp)
  go_wp2_with fail
  clear a10 d10
  clear c1
  refine (Hh.out _ n12.pen).mono ?_
  rintro e w7 ⟨rfl, h1, g1⟩
  have n13 := n12.call (by simp) lb h1 g1
  clear h1 g1
  have n14 := n13.set lb 5 (by simp) hi
  simp only [List.set] at n14
  clear n1 n2 n3 n4 n5 n6 n7 n8 n9 n10 n11 n12
  have a0 := n13.box.c 0 _ rfl
  have d0 := n13.box.f 0 (by simp)
  have a1 := n13.box.c 1 _ rfl
  have d1 := n13.box.f 1 (by simp)
  have a2 := n13.box.c 2 _ rfl
  have d2 := n13.box.f 2 (by simp)
  have a3 := n13.box.c 3 _ rfl
  have d3 := n13.box.f 3 (by simp)
  have a4 := n13.box.c 4 _ rfl
  have d4 := n13.box.f 4 (by simp)
  have a5 := n13.box.c 5 _ rfl
  have d5 := n13.box.f 5 (by simp)
  have a6 := n13.box.c 6 _ rfl
  have d6 := n13.box.f 6 (by simp)
  have a7 := n13.box.c 7 _ rfl
  have d7 := n13.box.f 7 (by simp)
  have a8 := n13.box.c 8 _ rfl
  have d8 := n13.box.f 8 (by simp)
  have a9 := n13.box.c 9 _ rfl
  have d9 := n13.box.f 9 (by simp)
  have a10 := n13.box.c 10 _ rfl
  have d10 := n13.box.f 10 (by simp)
  have r0 := n13.res.c 0 _ rfl
  have s0 := n13.res.f 0 (by simp)
  have r1 := n13.res.c 1 _ rfl
  have s1 := n13.res.f 1 (by simp)
  have r2 := n13.res.c 2 _ rfl
  have s2 := n13.res.f 2 (by simp)
  have r3 := n13.res.c 3 _ rfl
  have s3 := n13.res.f 3 (by simp)
  have r4 := n13.res.c 4 _ rfl
  have s4 := n13.res.f 4 (by simp)
  have r5 := n13.res.c 5 _ rfl
  have s5 := n13.res.f 5 (by simp)
  have r6 := n13.res.c 6 _ rfl
  have s6 := n13.res.f 6 (by simp)
  have r7 := n13.res.c 7 _ rfl
  have s7 := n13.res.f 7 (by simp)
  have r8 := n13.res.c 8 _ rfl
  have s8 := n13.res.f 8 (by simp)
  have r9 := n13.res.c 9 _ rfl
  have s9 := n13.res.f 9 (by simp)
  have r10 := n13.res.c 10 _ rfl
  have s10 := n13.res.f 10 (by simp)
  have rz := (((((((((((n14.res.set 0 (by simp) x0).set 1 (by simp) x1).set 2 (by simp) y0).set 3 (by simp) y1).set 4 (by simp) lo).set 5 (by simp) hi).set 6 (by simp) (i : Int)).set 7 (by simp) (i : Int)).set 8 (by simp) (j2 : Int)).set 9 (by simp) (j4 : Int)).set 10 (by simp) (j6 : Int))
  simp only [List.set] at rz
  have zp := (((((((((((n14.pen.kept (gb_set _ w.heap.size 0 (.int .i64 x0)) (by simp; omega)).kept (gb_set _ w.heap.size 1 (.int .i64 x1)) (by simp; omega)).kept (gb_set _ w.heap.size 2 (.int .i64 y0)) (by simp; omega)).kept (gb_set _ w.heap.size 3 (.int .i64 y1)) (by simp; omega)).kept (gb_set _ w.heap.size 4 (.int .i64 lo)) (by simp; omega)).kept (gb_set _ w.heap.size 5 (.int .i64 hi)) (by simp; omega)).kept (gb_set _ w.heap.size 6 (.int .i64 (i : Int))) (by simp; omega)).kept (gb_set _ w.heap.size 7 (.int .i64 (i : Int))) (by simp; omega)).kept (gb_set _ w.heap.size 8 (.int .i64 (j2 : Int))) (by simp; omega)).kept (gb_set _ w.heap.size 9 (.int .i64 (j4 : Int))) (by simp; omega)).kept (gb_set _ w.heap.size 10 (.int .i64 (j6 : Int))) (by simp; omega))
  have zg := (gb_new (o := 10) (v := .int .i64 (j6 : Int)) (gb_new (o := 9) (v := .int .i64 (j4 : Int)) (gb_new (o := 8) (v := .int .i64 (j2 : Int)) (gb_new (o := 7) (v := .int .i64 (i : Int)) (gb_new (o := 6) (v := .int .i64 (i : Int)) (gb_new (o := 5) (v := .int .i64 hi) (gb_new (o := 4) (v := .int .i64 lo) (gb_new (o := 3) (v := .int .i64 y1) (gb_new (o := 2) (v := .int .i64 y0) (gb_new (o := 1) (v := .int .i64 x1) (gb_new (o := 0) (v := .int .i64 x0) n14.gb (Nat.le_refl w.heap.size)) (Nat.le_refl w.heap.size)) (Nat.le_refl w.heap.size)) (Nat.le_refl w.heap.size)) (Nat.le_refl w.heap.size)) (Nat.le_refl w.heap.size)) (Nat.le_refl w.heap.size)) (Nat.le_refl w.heap.size)) (Nat.le_refl w.heap.size)) (Nat.le_refl w.heap.size)) (Nat.le_refl w.heap.size))
  have z0 := rz.c 0 _ rfl
  have z1 := rz.c 1 _ rfl
  have z2 := rz.c 2 _ rfl
  have z3 := rz.c 3 _ rfl
  have z4 := rz.c 4 _ rfl
  have z5 := rz.c 5 _ rfl
  have z6 := rz.c 6 _ rfl
  have z7 := rz.c 7 _ rfl
  have z8 := rz.c 8 _ rfl
  have z9 := rz.c 9 _ rfl
  have z10 := rz.c 10 _ rfl
  go_wp2
  exact bodyPost_ret (v := .agg #[.int .i64 x0, .int .i64 x1, .int .i64 y0, .int .i64 y1, .int .i64 lo, .int .i64 hi, .int .i64 (i : Int), .int .i64 (i : Int), .int .i64 (j2 : Int), .int .i64 (j4 : Int), .int .i64 (j6 : Int)]) (by simp [results, Tryz.results63, go_sem, z0, z1, z2, z3, z4, z5, z6, z7, z8, z9, z10]) rfl ⟨rfl, zp, zg⟩

end Go.Proofs.YtkjlkbgdkdcboaaGreatDoor.Ref

