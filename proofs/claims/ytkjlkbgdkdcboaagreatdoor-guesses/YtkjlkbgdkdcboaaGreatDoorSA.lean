import Derived.Test.YtkjlkbgdkdcboaaGreatDoorFX
import Derived.Test.YtkjlkbgdkdcboaaGreatDoorHA

set_option linter.unusedSimpArgs false
set_option linter.unusedVariables false

set_option linter.unusedSimpArgs false
set_option linter.unusedVariables false
namespace Go.Proofs.YtkjlkbgdkdcboaaGreatDoor
open Go.RowKit Go.Maps Fl
attribute [local go_sem ↓] Go.wp_at_zero Go.wp_at_succ
theorem run_store_complex' {P : Program} {w : World} {a : Addr} {m : Mode} (k : FloatKind) (x y : Nat) : (store a (.complex k x y) m).run P w = stored P w a (.complex k x y) m := run_store P w a _ m rfl
attribute [local go_sem] run_store_complex'
abbrev Sk : Type := Nat × (Nat × Nat) × (Nat × Nat)
def skV (s : Sk) : Value := .agg #[.int .i64 (s.1 : Int), .complex .f64 s.2.1.1 s.2.1.2, .complex .f64 s.2.2.1 s.2.2.2]
def skL (s : Sk) : List Value := [.int .i64 (s.1 : Int), .complex .f64 s.2.1.1 s.2.1.2, .complex .f64 s.2.2.1 s.2.2.2]
def rowS (S : Nat → Sk) (n : Nat) : List Value := (List.range n).flatMap (fun t => skL (S t))
theorem rowS_succ (S : Nat → Sk) (n : Nat) : rowS S (n + 1) = rowS S n ++ skL (S n) := by
  unfold rowS
  rw [List.range_succ, List.flatMap_append]
  simp
theorem rowS_len (S : Nat → Sk) (n : Nat) : (rowS S n).length = n * 3 := by
  induction n with
  | zero => rfl
  | succ n ih => rw [rowS_succ, List.length_append, ih]; simp [skL]; omega
theorem rowS_at (S : Nat → Sk) {n t j : Nat} (h : t < n) (hj : j < 3) : (rowS S n)[t * 3 + j]? = (skL (S t))[j]? := by
  induction n with
  | zero => omega
  | succ n ih =>
    rw [rowS_succ]
    by_cases c : t < n
    · rw [List.getElem?_append_left (by rw [rowS_len]; omega)]
      exact ih c
    · obtain rfl : t = n := by omega
      rw [List.getElem?_append_right (by rw [rowS_len]; omega), rowS_len]
      congr 1
      omega
theorem rowS_congr {S T : Nat → Sk} {n : Nat} (h : ∀ t, t < n → S t = T t) : rowS S n = rowS T n := by
  induction n with
  | zero => rfl
  | succ n ih => rw [rowS_succ, rowS_succ, ih (fun t ht => h t (by omega)), h n (by omega)]
theorem rowS_set (S : Nat → Sk) {n i : Nat} (hi : i < n) (s : Sk) : (((rowS S n).set (i * 3) (.int .i64 (s.1 : Int))).set (i * 3 + 1) (.complex .f64 s.2.1.1 s.2.1.2)).set (i * 3 + 2) (.complex .f64 s.2.2.1 s.2.2.2) = rowS (fun t => if t = i then s else S t) n := by
  apply List.ext_getElem?
  intro k
  by_cases hk : k < n * 3
  · obtain ⟨t, j, rfl, hj⟩ : ∃ t j, k = t * 3 + j ∧ j < 3 := ⟨k / 3, k % 3, by omega, by omega⟩
    have ht : t < n := by omega
    rw [rowS_at _ ht hj]
    by_cases e : t = i
    · subst e
      rw [if_pos rfl]
      rcases (show j = 0 ∨ j = 1 ∨ j = 2 by omega) with rfl | rfl | rfl
      · rw [List.getElem?_set_ne (by omega), List.getElem?_set_ne (by omega), Nat.add_zero, List.getElem?_set_self (by rw [rowS_len]; omega)]; rfl
      · rw [List.getElem?_set_ne (by omega), List.getElem?_set_self (by rw [List.length_set, rowS_len]; omega)]; rfl
      · rw [List.getElem?_set_self (by rw [List.length_set, List.length_set, rowS_len]; omega)]; rfl
    · rw [if_neg e, List.getElem?_set_ne (by omega), List.getElem?_set_ne (by omega), List.getElem?_set_ne (by omega), rowS_at _ ht hj]
  · rw [List.getElem?_eq_none (by simp only [List.length_set]; rw [rowS_len]; omega), List.getElem?_eq_none (by rw [rowS_len]; omega)]
structure SR (W : World) (base g cap n : Nat) (S : Nat → Sk) : Prop where
  row : W.ownsRow base 167 3 (.slice (some ⟨g, 0, none⟩) n cap) n (rowS S n)
theorem SR.at {W : World} {base g cap n : Nat} {S : Nat → Sk} (h : SR W base g cap n S) {t : Nat} (ht : t < n) : W.cell? ⟨g, t * 3, none⟩ = some (.int .i64 ((S t).1 : Int)) ∧ W.cell? ⟨g, t * 3 + 1, none⟩ = some (.complex .f64 (S t).2.1.1 (S t).2.1.2) ∧ W.cell? ⟨g, t * 3 + 2, none⟩ = some (.complex .f64 (S t).2.2.1 (S t).2.2.2) := by
  refine ⟨?_, ?_, ?_⟩
  · have := rowS_at S ht (j := 0) (by omega)
    rw [h.row.cellAt _ (by omega)]; exact this
  · rw [h.row.cellAt _ (by omega), rowS_at S ht (j := 1) (by omega)]; rfl
  · rw [h.row.cellAt _ (by omega), rowS_at S ht (j := 2) (by omega)]; rfl
theorem SR.set {W : World} {base g cap n : Nat} {S : Nat → Sk} (h : SR W base g cap n S) {i : Nat} (hi : i < n) (s : Sk) : SR (((W.setCell ⟨g, i * 3, none⟩ (.int .i64 (s.1 : Int))).setCell ⟨g, i * 3 + 1, none⟩ (.complex .f64 s.2.1.1 s.2.1.2)).setCell ⟨g, i * 3 + 2, none⟩ (.complex .f64 s.2.2.1 s.2.2.2)) base g cap n (fun t => if t = i then s else S t) := by
  refine ⟨?_⟩
  rw [← rowS_set S hi s]
  exact ((((h.row.stored _ _).1).stored _ _).1.stored _ _).1
theorem SR.swap {W : World} {base g cap n : Nat} {S : Nat → Sk} (h : SR W base g cap n S) {i j : Nat} (hi : i < n) (hj : j < n) : SR ((((((W.setCell ⟨g, i * 3, none⟩ (.int .i64 ((S j).1 : Int))).setCell ⟨g, i * 3 + 1, none⟩ (.complex .f64 (S j).2.1.1 (S j).2.1.2)).setCell ⟨g, i * 3 + 2, none⟩ (.complex .f64 (S j).2.2.1 (S j).2.2.2)).setCell ⟨g, j * 3, none⟩ (.int .i64 ((S i).1 : Int))).setCell ⟨g, j * 3 + 1, none⟩ (.complex .f64 (S i).2.1.1 (S i).2.1.2)).setCell ⟨g, j * 3 + 2, none⟩ (.complex .f64 (S i).2.2.1 (S i).2.2.2)) base g cap n (Hq.swf S i j) := by
  have h1 := (h.set hi (S j)).set hj (S i)
  have e : (fun t => if t = j then S i else if t = i then S j else S t) = Hq.swf S i j := by
    funext t
    unfold Hq.swf
    by_cases h1 : t = j
    · by_cases h2 : t = i
      · rw [if_pos h1, if_pos h2, ← h2, h1]
      · rw [if_pos h1, if_neg h2, if_pos h1]
    · by_cases h2 : t = i
      · rw [if_neg h1, if_pos h2, if_pos h2]
      · rw [if_neg h1, if_neg h2, if_neg h2, if_neg h1]
  rw [e] at h1
  exact h1
end Go.Proofs.YtkjlkbgdkdcboaaGreatDoor

set_option linter.unusedSimpArgs false
set_option linter.unusedVariables false
namespace Go.Proofs.YtkjlkbgdkdcboaaGreatDoor
open Go.RowKit Go.Maps Fl
attribute [local go_sem ↓] Go.wp_at_zero Go.wp_at_succ
attribute [local go_sem] run_store_complex'
def Mg (n : Nat) (S T : Nat → Sk) : Prop := ∀ t, t < n → ∃ s, s < n ∧ T t = S s
theorem Mg.refl (n : Nat) (S : Nat → Sk) : Mg n S S := fun t ht => ⟨t, ht, rfl⟩
theorem Mg.trans {n : Nat} {S T U : Nat → Sk} (h : Mg n S T) (h' : Mg n T U) : Mg n S U := fun t ht => by
  obtain ⟨s, s1, s2⟩ := h' t ht
  obtain ⟨r, r1, r2⟩ := h s s1
  exact ⟨r, r1, by rw [s2, r2]⟩
theorem Mg.swap {n : Nat} {S T : Nat → Sk} (h : Mg n S T) {i j : Nat} (hi : i < n) (hj : j < n) : Mg n S (Hq.swf T i j) := fun t ht => by
  by_cases h1 : t = i
  · rw [h1, Hq.swf_i]; exact h j hj
  · by_cases h2 : t = j
    · rw [h2, Hq.swf_j]; exact h i hi
    · rw [Hq.swf_o T h1 h2]; exact h t ht
structure Rw (W wr : World) (base g cap n : Nat) (S T : Nat → Sk) : Prop where
  sr : SR wr base g cap n T
  mg : Mg n S T
  bel : ∀ B w0, B ≤ base → Below B w0 W → Below B w0 wr
  oth : ∀ b, b < W.heap.size → b ≠ g → wr.heap[b]? = W.heap[b]?
  sz : W.heap.size ≤ wr.heap.size
theorem Rw.refl {W : World} {base g cap n : Nat} {S : Nat → Sk} (h : SR W base g cap n S) : Rw W W base g cap n S S := ⟨h, Mg.refl n S, fun _ _ _ h => h, fun _ _ _ => rfl, Nat.le_refl _⟩
theorem SR.base_le {W : World} {base g cap n : Nat} {S : Nat → Sk} (h : SR W base g cap n S) : base ≤ g ∧ g < W.heap.size := h.row.lt g rfl
def swW (W : World) (g i j : Nat) (s t : Sk) : World := ((((((W.setCell ⟨g, i * 3, none⟩ (.int .i64 (t.1 : Int))).setCell ⟨g, i * 3 + 1, none⟩ (.complex .f64 t.2.1.1 t.2.1.2)).setCell ⟨g, i * 3 + 2, none⟩ (.complex .f64 t.2.2.1 t.2.2.2)).setCell ⟨g, j * 3, none⟩ (.int .i64 (s.1 : Int))).setCell ⟨g, j * 3 + 1, none⟩ (.complex .f64 s.2.1.1 s.2.1.2)).setCell ⟨g, j * 3 + 2, none⟩ (.complex .f64 s.2.2.1 s.2.2.2))
theorem SR.drewN {W : World} {base g cap n : Nat} {S : Nat → Sk} (h : SR W base g cap n S) (k : Nat) : SR (W.drewN k) base g cap n S := ⟨h.row⟩
theorem swW_below {B : Nat} {w0 wr : World} {g : Nat} (i j : Nat) (s t : Sk) (h : Below B w0 wr) (hB : B ≤ g) : Below B w0 (swW wr g i j s t) := by
  unfold swW
  refine Below.setCell (p := ⟨g, j * 3 + 2, none⟩) ?_ hB _
  refine Below.setCell (p := ⟨g, j * 3 + 1, none⟩) ?_ hB _
  refine Below.setCell (p := ⟨g, j * 3, none⟩) ?_ hB _
  refine Below.setCell (p := ⟨g, i * 3 + 2, none⟩) ?_ hB _
  refine Below.setCell (p := ⟨g, i * 3 + 1, none⟩) ?_ hB _
  exact Below.setCell (p := ⟨g, i * 3, none⟩) h hB _
theorem swW_oth {wr : World} {g b : Nat} (i j : Nat) (s t : Sk) (h : b ≠ g) : (swW wr g i j s t).heap[b]? = wr.heap[b]? := by
  unfold swW
  have key : ∀ (w : World) (o : Nat) (v : Value), (w.setCell ⟨g, o, none⟩ v).heap[b]? = w.heap[b]? := fun w o v => heap_setCell_other w ⟨g, o, none⟩ b v h
  rw [key, key, key, key, key, key]
theorem swW_size (wr : World) (g i j : Nat) (s t : Sk) : (swW wr g i j s t).heap.size = wr.heap.size := by
  unfold swW
  have key : ∀ (w : World) (o : Nat) (v : Value), (w.setCell ⟨g, o, none⟩ v).heap.size = w.heap.size := fun w o v => by simp
  rw [key, key, key, key, key, key]
theorem Rw.swap {W wr : World} {base g cap n : Nat} {S T : Nat → Sk} (h : Rw W wr base g cap n S T) {i j : Nat} (hi : i < n) (hj : j < n) : Rw W (swW wr g i j (T i) (T j)).drew base g cap n S (Hq.swf T i j) := by
  have hg := h.sr.base_le
  have h1 := h.sr.swap hi hj
  have h3 : SR (swW wr g i j (T i) (T j)) base g cap n (Hq.swf T i j) := by unfold swW; exact h1
  have h4 := fun B w0 hB hb => swW_below i j (T i) (T j) (h.bel B w0 hB hb) (show B ≤ g by omega)
  have h5 : ∀ b, b < W.heap.size → b ≠ g → (swW wr g i j (T i) (T j)).heap[b]? = W.heap[b]? := fun b hb hne => by rw [swW_oth i j _ _ hne]; exact h.oth b hb hne
  have h6 : W.heap.size ≤ (swW wr g i j (T i) (T j)).heap.size := by rw [swW_size]; exact h.sz
  have hm := h.mg.swap hi hj
  clear h1
  generalize swW wr g i j (T i) (T j) = V at *
  exact ⟨h3.drewN 1, hm, fun B w0 hB hb => Below.drew (h4 B w0 hB hb), h5, h6⟩
set_option maxRecDepth 100000 in
set_option maxHeartbeats 2000000 in
theorem swapRange_any (base g cap N a b n : Nat) (S : Nat → Sk) (W : World) (fv : Value) (h : SR W base g cap N S) (hab : a + n ≤ b) (hbn : b + n ≤ N) (hN : N ≤ 1000000) :
    Calls Tryz.prog 195 #[.slice (some ⟨g, 0, none⟩) N cap, .int .i64 a, .int .i64 b, .int .i64 n, fv] W fun e w' => e = .returned (.tuple #[]) ∧ ∃ T, Rw W w' base g cap N S T := by
  have H0 := hide (Rw.refl h)
  clear h
  go_enter Tryz.func195, Tryz.ntmps195
  go_wp2
  go_loopw [10] (fun v wr => ∃ i T, v = .int .i64 (i : Nat) ∧ i ≤ n ∧ Hid (Rw W wr base g cap N S T)) (fun v _ => n - (intOf v).toNat)
  case atStart => exact ⟨0, S, rfl, Nat.zero_le _, H0.out⟩
  case round =>
    obtain ⟨i, T, rfl, hi, hr⟩ := hrel
    by_cases hlt : i < n
    · obtain ⟨p, hp⟩ : ∃ p : Nat, p = a + i := ⟨_, rfl⟩
      obtain ⟨q, hq⟩ : ∃ q : Nat, q = b + i := ⟨_, rfl⟩
      have e1 : (a : Int) + (i : Int) = (p : Int) := by omega
      have e2 : (b : Int) + (i : Int) = (q : Int) := by omega
      have hpN : p < N := by omega
      have hqN : q < N := by omega
      have hpq : p < q := by omega
      obtain ⟨p0, p1, p2⟩ := hr.out.sr.at hpN
      obtain ⟨q0, q1, q2⟩ := hr.out.sr.at hqN
      have HN := hide (Rw.swap hr.out hpN hqN)
      have fz := fun j => hr.out.sr.row.frozenAt j
      unfold swW at HN
      obtain ⟨⟨sp, ⟨spa, spb⟩, ⟨spc, spd⟩⟩, hTp⟩ : ∃ s, T p = s := ⟨_, rfl⟩
      obtain ⟨⟨sq, ⟨sqa, sqb⟩, ⟨sqc, sqd⟩⟩, hTq⟩ : ∃ s, T q = s := ⟨_, rfl⟩
      rw [hTp] at p0 p1 p2 HN
      rw [hTq] at q0 q1 q2 HN
      dsimp only at p0 p1 p2 q0 q1 q2 HN
      have fp0 := fz (p * 3)
      have fp1 := fz (p * 3 + 1)
      have fp2 := fz (p * 3 + 2)
      have fq0 := fz (q * 3)
      have fq1 := fz (q * 3 + 1)
      have fq2 := fz (q * 3 + 2)
      have w1 : wrap64 (p : Int) = (p : Int) := by rw [← IntWalk.i64_left, IntWalk.i64_in _ (by omega)]
      have w2 : wrap64 (q : Int) = (q : Int) := by rw [← IntWalk.i64_left, IntWalk.i64_in _ (by omega)]
      have n00 : ¬ p * 3 = q * 3 := by omega
      have n01 : ¬ p * 3 = q * 3 + 1 := by omega
      have n02 : ¬ p * 3 = q * 3 + 2 := by omega
      have n10 : ¬ p * 3 + 1 = q * 3 := by omega
      have n12 : ¬ p * 3 + 1 = q * 3 + 2 := by omega
      have n20 : ¬ p * 3 + 2 = q * 3 := by omega
      have n21 : ¬ p * 3 + 2 = q * 3 + 1 := by omega
      have npq : ¬ p = q := by omega
      have k1 : (0 : Int) ≤ (p : Int) := by omega
      have k2 : (p : Int) < (N : Int) := by omega
      have k3 : (0 : Int) ≤ (q : Int) := by omega
      have k4 : (q : Int) < (N : Int) := by omega
      clear fz hr hTp hTq hp hq H0
      go_upto_region 3 with fail
      go_region
      clear p0 p1 p2 q0 q1 q2 fp0 fp1 fp2 fq0 fq1 fq2
      generalize wr' : World.drew _ = V9 at *
      go_wp2
      go_roundw
      case rel => exact ⟨i + 1, _, by go_num, by omega, HN.out⟩
      case measure => simp [intOf]; omega
    · obtain rfl : i = n := by omega
      clear H0
      go_wp2
      go_end0
      exact ⟨rfl, T, hr.out⟩
end Go.Proofs.YtkjlkbgdkdcboaaGreatDoor

set_option linter.unusedSimpArgs false
set_option linter.unusedVariables false
namespace Go.Proofs.YtkjlkbgdkdcboaaGreatDoor
open Go.RowKit Go.Maps Fl
attribute [local go_sem ↓] Go.wp_at_zero Go.wp_at_succ
attribute [local go_sem] run_store_complex'
theorem Rw.trans {W V U : World} {base g cap n : Nat} {S T R : Nat → Sk} (h : Rw W V base g cap n S T) (h' : Rw V U base g cap n T R) : Rw W U base g cap n S R :=
  ⟨h'.sr, h.mg.trans h'.mg, fun B w0 hB hb => h'.bel B w0 hB (h.bel B w0 hB hb), fun b hb hne => (h'.oth b (Nat.lt_of_lt_of_le hb h.sz) hne).trans (h.oth b hb hne), Nat.le_trans h.sz h'.sz⟩
set_option maxRecDepth 100000 in
set_option maxHeartbeats 2000000 in
theorem rotate_any (base g cap N a m b : Nat) (S : Nat → Sk) (W : World) (fv : Value) (h : SR W base g cap N S) (ham : a < m) (hmb : m < b) (hbN : b ≤ N) (hN : N ≤ 1000000) :
    Calls Tryz.prog 180 #[.slice (some ⟨g, 0, none⟩) N cap, .int .i64 a, .int .i64 m, .int .i64 b, fv] W fun e w' => e = .returned (.tuple #[]) ∧ ∃ T, Rw W w' base g cap N S T := by
  have H0 := hide (Rw.refl h)
  obtain ⟨i0, hi0⟩ : ∃ i0 : Nat, i0 = m - a := ⟨_, rfl⟩
  obtain ⟨j0, hj0⟩ : ∃ j0 : Nat, j0 = b - m := ⟨_, rfl⟩
  have e1 : (m : Int) - (a : Int) = (i0 : Int) := by omega
  have e2 : (b : Int) - (m : Int) = (j0 : Int) := by omega
  have G1 := hide (show (1 ≤ i0 ∧ i0 ≤ m) ∧ (1 ≤ j0 ∧ m + j0 ≤ N) by omega)
  have b0 : m ≤ 1000000 := by omega
  have b9 : b ≤ 1000000 := by omega
  have b8 : a ≤ 1000000 := by omega
  have Hi0 := hide hi0
  have Hj0 := hide hj0
  have Ham := hide ham
  have Hmb := hide hmb
  clear h hi0 hj0 ham hmb
  go_enter Tryz.func180, Tryz.ntmps180
  go_wp2
  go_loopw [10, 11] (fun v u wr => ∃ i j T, v = .int .i64 (i : Nat) ∧ u = .int .i64 (j : Nat) ∧ (1 ≤ i ∧ i ≤ m) ∧ (1 ≤ j ∧ m + j ≤ N) ∧ Hid (Rw W wr base g cap N S T)) (fun v u _ => (intOf v).toNat + (intOf u).toNat)
  case atStart => exact ⟨i0, j0, S, rfl, rfl, G1.out.1, G1.out.2, H0.out⟩
  case round =>
    obtain ⟨i, j, T, rfl, rfl, hi, hj, hr⟩ := hrel
    clear e1 e2 H0
    obtain ⟨p, hp⟩ : ∃ p : Nat, p = m - i := ⟨_, rfl⟩
    have e1 : (m : Int) - (i : Int) = (p : Int) := by omega
    by_cases heq : i = j
    · subst heq
      have F1 := hide (show p + i ≤ m by omega)
      have F2 := hide (show m + i ≤ N by omega)
      have b1 : i ≤ 1000000 := by omega
      clear hi hj hp
      go_wp2_with fail
      refine (swapRange_any base g cap N p m i T _ fv hr.out.sr F1.out F2.out hN).mono ?_
      rintro e w2 ⟨rfl, R, hR⟩
      have HR := hide (hr.out.trans hR)
      clear hR hr
      go_wp2
      go_end0
      exact ⟨rfl, R, HR.out⟩
    · have d1 : ¬ (i : Int) = (j : Int) := by omega
      by_cases hgt : j < i
      · obtain ⟨i', hi'⟩ : ∃ i' : Nat, i' = i - j := ⟨_, rfl⟩
        have e3 : (i : Int) - (j : Int) = (i' : Int) := by omega
        have d2 : decide ((j : Int) < (i : Int)) = true := decide_eq_true (by omega)
        have d2' : decide (j < i) = true := decide_eq_true hgt
        have F1 := hide (show p + j ≤ m by omega)
        have F2 := hide (show m + j ≤ N by omega)
        have F3 := hide (show 1 ≤ i' ∧ i' ≤ m by omega)
        have F4 := hide hj
        have F5 := hide (show i' + j < i + j by omega)
        have b1 : i ≤ 1000000 := by omega
        have b2 : j ≤ 1000000 := by omega
        clear hi hj hp heq hgt hi'
        go_wp2_with fail
        refine (swapRange_any base g cap N p m j T _ fv hr.out.sr F1.out F2.out hN).mono ?_
        rintro e w2 ⟨rfl, R, hR⟩
        have HR := hide (hr.out.trans hR)
        clear hR hr
        go_wp2
        go_roundw
        case rel => exact ⟨i', j, R, rfl, rfl, F3.out, F4.out, HR.out⟩
        case measure => exact F5.out
      · obtain ⟨j', hj'⟩ : ∃ j' : Nat, j' = j - i := ⟨_, rfl⟩
        obtain ⟨q, hq⟩ : ∃ q : Nat, q = m + j - i := ⟨_, rfl⟩
        obtain ⟨mj, hmj⟩ : ∃ mj : Nat, mj = m + j := ⟨_, rfl⟩
        have e3 : (j : Int) - (i : Int) = (j' : Int) := by omega
        have e4 : (m : Int) + (j : Int) = (mj : Int) := by omega
        have e5 : (mj : Int) - (i : Int) = (q : Int) := by omega
        have d2 : decide ((j : Int) < (i : Int)) = false := decide_eq_false (by omega)
        have d2' : decide (j < i) = false := decide_eq_false hgt
        have F1 := hide (show p + i ≤ q by omega)
        have F2 := hide (show q + i ≤ N by omega)
        have F3 := hide hi
        have F4 := hide (show 1 ≤ j' ∧ m + j' ≤ N by omega)
        have F5 := hide (show i + j' < i + j by omega)
        have b1 : i ≤ 1000000 := by omega
        have b2 : j ≤ 1000000 := by omega
        have b6 : mj ≤ 1000000 := by omega
        clear hi hj hp heq hgt hj' hq hmj
        go_wp2_with fail
        refine (swapRange_any base g cap N p q i T _ fv hr.out.sr F1.out F2.out hN).mono ?_
        rintro e w2 ⟨rfl, R, hR⟩
        have HR := hide (hr.out.trans hR)
        clear hR hr
        go_wp2
        go_roundw
        case rel => exact ⟨i, j', R, rfl, rfl, F3.out, F4.out, HR.out⟩
        case measure => exact F5.out
end Go.Proofs.YtkjlkbgdkdcboaaGreatDoor
