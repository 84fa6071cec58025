import Derived.Test.YtkjlkbgdkdcboaaGreatDoorFX

set_option linter.unusedSimpArgs false
set_option linter.unusedVariables false

set_option linter.unusedSimpArgs false
set_option linter.unusedVariables false
namespace Go.Proofs.YtkjlkbgdkdcboaaGreatDoor.Hq
def swf {α : Type} (f : Nat → α) (i j : Nat) : Nat → α := fun t => if t = i then f j else if t = j then f i else f t
theorem swf_i {α : Type} (f : Nat → α) (i j : Nat) : swf f i j i = f j := if_pos rfl
theorem swf_j {α : Type} (f : Nat → α) (i j : Nat) : swf f i j j = f i := by
  unfold swf
  by_cases h : j = i
  · rw [if_pos h, h]
  · rw [if_neg h, if_pos rfl]
theorem swf_o {α : Type} (f : Nat → α) {i j t : Nat} (h1 : t ≠ i) (h2 : t ≠ j) : swf f i j t = f t := by
  unfold swf
  rw [if_neg h1, if_neg h2]
def From (f : Nat → Rat) (i n : Nat) : Prop := ∀ j, 0 < j → j < n → i ≤ (j - 1) / 2 → f ((j - 1) / 2) ≤ f j
theorem From.head {f : Nat → Rat} {n : Nat} (h : From f 0 n) : ∀ j, j < n → f 0 ≤ f j := by
  intro j
  induction j using Nat.strongRecOn with
  | _ j ih =>
    intro hj
    rcases Nat.eq_zero_or_pos j with rfl | hp
    · exact Rat.le_refl
    · exact Rat.le_trans (ih ((j - 1) / 2) (by omega) (by omega)) (h j hp hj (Nat.zero_le _))
structure DI (f : Nat → Rat) (i0 i n : Nat) : Prop where
  le : i0 ≤ i
  ok : ∀ j, 0 < j → j < n → i0 ≤ (j - 1) / 2 → (j - 1) / 2 ≠ i → f ((j - 1) / 2) ≤ f j
  up : i0 < i → ∀ c, c < n → (c = 2 * i + 1 ∨ c = 2 * i + 2) → f ((i - 1) / 2) ≤ f c
  par : i0 < i → i0 ≤ (i - 1) / 2
theorem DI.start {f : Nat → Rat} {i n : Nat} (h : From f (i + 1) n) : DI f i i n := ⟨Nat.le_refl _, fun j h1 h2 h3 h4 => h j h1 h2 (by omega), fun h => by omega, fun h => by omega⟩
theorem DI.swap {f : Nat → Rat} {i0 i n c : Nat} (h : DI f i0 i n) (hc : c < n) (hch : c = 2 * i + 1 ∨ c = 2 * i + 2) (hlt : f c < f i) (ho : ∀ o, o < n → (o = 2 * i + 1 ∨ o = 2 * i + 2) → f c ≤ f o) : DI (swf f i c) i0 c n := by
  have hic : i ≠ c := by omega
  have pc : (c - 1) / 2 = i := by omega
  refine ⟨by have := h.le; omega, fun j h1 h2 h3 h4 => ?_, fun _ d hd hdc => ?_, fun _ => by have := h.le; omega⟩
  · by_cases hp : (j - 1) / 2 = i
    · rw [hp, swf_i]
      by_cases hj : j = c
      · rw [hj, swf_j]; grind
      · rw [swf_o f (by omega) hj]
        exact ho j h2 (by omega)
    · have h5 := h.ok j h1 h2 h3 hp
      by_cases hj : j = i
      · subst hj
        rw [swf_i, swf_o f (by omega) (by omega)]
        by_cases hlt2 : i0 < j
        · exact h.up hlt2 c hc hch
        · have := h.le; omega
      · by_cases hj2 : j = c
        · omega
        · rw [swf_o f hj hj2, swf_o f hp h4]
          exact h5
  · rw [pc, swf_i, swf_o f (by omega) (by omega)]
    have e : (d - 1) / 2 = c := by omega
    have := h.ok d (by omega) hd (by have := h.le; omega) (by omega)
    rw [e] at this
    exact this
theorem DI.done {f : Nat → Rat} {i0 i n : Nat} (h : DI f i0 i n) (hc : ∀ c, c < n → (c = 2 * i + 1 ∨ c = 2 * i + 2) → f i ≤ f c) : From f i0 n := by
  intro j h1 h2 h3
  by_cases hp : (j - 1) / 2 = i
  · rw [hp]; exact hc j h2 (by omega)
  · exact h.ok j h1 h2 h3 hp
structure UI (f : Nat → Rat) (j n : Nat) : Prop where
  lt : j < n
  ok : ∀ t, 0 < t → t < n → t ≠ j → f ((t - 1) / 2) ≤ f t
  up : 0 < j → ∀ c, c < n → (c = 2 * j + 1 ∨ c = 2 * j + 2) → f ((j - 1) / 2) ≤ f c
theorem UI.start {f : Nat → Rat} {n : Nat} (h : From f 0 n) : UI f n (n + 1) := ⟨by omega, fun t h1 h2 h3 => h t h1 (by omega) (Nat.zero_le _), fun _ c hc hch => by omega⟩
theorem UI.swap {f : Nat → Rat} {j n : Nat} (h : UI f j n) (hj : 0 < j) (hlt : f j < f ((j - 1) / 2)) : UI (swf f ((j - 1) / 2) j) ((j - 1) / 2) n := by
  obtain ⟨p, hp⟩ : ∃ p, p = (j - 1) / 2 := ⟨_, rfl⟩
  rw [← hp] at hlt ⊢
  have hl := h.lt
  refine ⟨by omega, fun t h1 h2 h3 => ?_, fun h0 c hc hch => ?_⟩
  · by_cases ht : t = j
    · subst ht
      rw [← hp, swf_i, swf_j]; grind
    · rw [swf_o f h3 ht]
      by_cases hq : (t - 1) / 2 = p
      · rw [hq, swf_i]
        have := h.ok t h1 h2 ht
        rw [hq] at this
        grind
      · by_cases hq2 : (t - 1) / 2 = j
        · rw [hq2, swf_j]
          have := h.up hj t h2 (by omega)
          rw [← hp] at this
          exact this
        · rw [swf_o f hq hq2]
          exact h.ok t h1 h2 ht
  · have a := h.ok p h0 (by omega) (by omega)
    by_cases hcj : c = j
    · rw [hcj, swf_j, swf_o f (by omega) (by omega)]
      exact a
    · rw [swf_o f (by omega) hcj, swf_o f (by omega) (by omega)]
      have b := h.ok c (by omega) hc hcj
      have e : (c - 1) / 2 = p := by omega
      rw [e] at b
      exact Rat.le_trans a b
theorem UI.done {f : Nat → Rat} {j n : Nat} (h : UI f j n) (hd : j = 0 ∨ f ((j - 1) / 2) ≤ f j) : From f 0 n := by
  intro t h1 h2 _
  by_cases ht : t = j
  · subst ht
    rcases hd with hd | hd
    · omega
    · exact hd
  · exact h.ok t h1 h2 ht
theorem From.congr {f g : Nat → Rat} {i n : Nat} (h : From f i n) (e : ∀ t, t < n → f t = g t) : From g i n := fun j h1 h2 h3 => by
  rw [← e j h2, ← e _ (by omega)]
  exact h j h1 h2 h3
end Go.Proofs.YtkjlkbgdkdcboaaGreatDoor.Hq

set_option linter.unusedSimpArgs false
set_option linter.unusedVariables false
namespace Go.Proofs.YtkjlkbgdkdcboaaGreatDoor
open Go.RowKit Go.Maps Fl
attribute [local go_sem ↓] Go.wp_at_zero Go.wp_at_succ
theorem run_store_complex {P : Program} {w : World} {a : Addr} {m : Mode} (k : FloatKind) (x y : Nat) : (store a (.complex k x y) m).run P w = stored P w a (.complex k x y) m := run_store P w a _ m rfl
attribute [local go_sem] run_store_complex
set_option maxHeartbeats 400000 in
theorem len_any (ga : Option Addr) (n cap : Nat) (w : World) : Calls Tryz.prog 220 #[.slice ga n cap] w fun e w' => e = .returned (.int .i64 n) ∧ w' = w := by
  go_enter Tryz.func220, Tryz.ntmps220
  go_wp2
  go_ret
  exact ⟨rfl, rfl⟩
set_option maxHeartbeats 400000 in
theorem less_any (g n cap i j a b c d : Nat) (w : World) (hi : i < n) (hj : j < n) (ci : w.cell? ⟨g, i, none⟩ = some (.complex .f64 a b)) (cj : w.cell? ⟨g, j, none⟩ = some (.complex .f64 c d)) (ha : Fi a) (hc : Fi c) :
    Calls Tryz.prog 221 #[.slice (some ⟨g, 0, none⟩) n cap, .int .i64 i, .int .i64 j] w fun e w' => e = .returned (.bool (decide (V a < V c))) ∧ ∃ k, w' = w.drewN k := by
  have k1 : (0 : Int) ≤ (i : Int) := by omega
  have k2 : (i : Int) < (n : Int) := by omega
  have k3 : (0 : Int) ≤ (j : Int) := by omega
  have k4 : (j : Int) < (n : Int) := by omega
  rw [← cmp_lt ha hc]
  clear ha hc
  go_enter Tryz.func221, Tryz.ntmps221
  go_wp2
  go_quiet (fail)
  go_wp2
  go_ret
  exact ⟨rfl, _, rfl⟩
set_option maxHeartbeats 400000 in
theorem swap_any (g n cap i j a b c d : Nat) (w : World) (hi : i < n) (hj : j < n) (ci : w.cell? ⟨g, i, none⟩ = some (.complex .f64 a b)) (cj : w.cell? ⟨g, j, none⟩ = some (.complex .f64 c d)) (fi : w.frozen? ⟨g, i, none⟩ = false) (fj : w.frozen? ⟨g, j, none⟩ = false) :
    Calls Tryz.prog 222 #[.slice (some ⟨g, 0, none⟩) n cap, .int .i64 i, .int .i64 j] w fun e w' => e = .returned (.tuple #[]) ∧ w' = ((w.setCell ⟨g, i, none⟩ (.complex .f64 c d)).setCell ⟨g, j, none⟩ (.complex .f64 a b)).drew := by
  have k1 : (0 : Int) ≤ (i : Int) := by omega
  have k2 : (i : Int) < (n : Int) := by omega
  have k3 : (0 : Int) ≤ (j : Int) := by omega
  have k4 : (j : Int) < (n : Int) := by omega
  have c2 : (w.setCell ⟨g, i, none⟩ (.complex .f64 c d)).cell? ⟨g, j, none⟩ = some (.complex .f64 c d) := by
    by_cases e : i = j
    · subst e; simp [go_sem, ci]
    · simp [go_sem, cj]
  have f2 : (w.setCell ⟨g, i, none⟩ (.complex .f64 c d)).frozen? ⟨g, j, none⟩ = false := by rw [frozen_set]; exact fj
  go_enter Tryz.func222, Tryz.ntmps222
  go_wp2
  go_region
  go_end0
  exact ⟨rfl, rfl⟩
def cpx (p : Nat × Nat) : Value := .complex .f64 p.1 p.2
def rowX (X : Nat → Nat × Nat) (n : Nat) : List Value := (List.range n).map (fun t => cpx (X t))
theorem rowX_len (X : Nat → Nat × Nat) (n : Nat) : (rowX X n).length = n := by unfold rowX; simp
theorem rowX_at (X : Nat → Nat × Nat) {n t : Nat} (h : t < n) : (rowX X n)[t]? = some (cpx (X t)) := by
  unfold rowX
  rw [List.getElem?_map, List.getElem?_range h]
  rfl
theorem rowX_set (X : Nat → Nat × Nat) (n i : Nat) (p : Nat × Nat) : (rowX X n).set i (cpx p) = rowX (fun t => if t = i then p else X t) n := by
  apply List.ext_getElem?
  intro t
  by_cases ht : t < n
  · rw [rowX_at _ ht, List.getElem?_set]
    by_cases e : i = t
    · subst e
      rw [if_pos rfl, if_pos (by rw [rowX_len]; exact ht), if_pos rfl]
    · rw [if_neg e, rowX_at _ ht, if_neg (fun h => e h.symm)]
  · rw [List.getElem?_eq_none (by rw [List.length_set, rowX_len]; omega), List.getElem?_eq_none (by rw [rowX_len]; omega)]
def tagC : Obj → Option TypeId
  | .cells _ t _ => some t
  | _ => none
structure Oth (W W' : World) : Prop where
  size : W.heap.size ≤ W'.heap.size
  same : ∀ (k : Nat) (o : Obj), W.heap[k]? = some o → tagC o ≠ some 120 → tagC o ≠ some 112 → W'.heap[k]? = some o
theorem tag_ne {W : World} {k g : Nat} {o : Obj} {cs : Array Value} {t : TypeId} {fr : Nat × Nat} (hk : W.heap[k]? = some o) (ht : tagC o ≠ some t) (hg : W.heap[g]? = some (.cells cs t fr)) : k ≠ g := by
  intro e
  subst e
  rw [hk] at hg
  cases hg
  exact ht rfl
theorem row_tagC {W : World} {base g cap n size : Nat} {e : TypeId} {xs : List Value} (h : W.ownsRow base e size (.slice (some ⟨g, 0, none⟩) n cap) n xs) : ∃ cs, W.heap[g]? = some (.cells cs e (0, 0)) := by
  rcases h.2 with ⟨h0, _⟩ | ⟨g', cap', cur, hv, _, hgb, _⟩
  · cases h0
  · cases hv
    exact ⟨_, hgb⟩
structure Ot2 (hb g : Nat) (W W' : World) : Prop where
  size : W.heap.size ≤ W'.heap.size
  same : ∀ k, k < W.heap.size → k ≠ hb → k ≠ g → W'.heap[k]? = W.heap[k]?
theorem Ot2.refl (hb g : Nat) (W : World) : Ot2 hb g W W := ⟨Nat.le_refl _, fun _ _ _ _ => rfl⟩
theorem Ot2.more {hb g g' : Nat} {W W' W'' : World} (h : Ot2 hb g W W') (h' : Ot2 hb g' W' W'') (hg : g' = g ∨ W.heap.size ≤ g') : Ot2 hb g W W'' :=
  ⟨Nat.le_trans h.size h'.size, fun k hk a b => (h'.same k (Nat.lt_of_lt_of_le hk h.size) a (by rcases hg with e | e <;> omega)).trans (h.same k hk a b)⟩
theorem Ot2.set (hb g i : Nat) (W : World) (x : Value) : Ot2 hb g W (W.setCell ⟨g, i, none⟩ x) :=
  ⟨by simp, fun k _ _ hne => heap_setCell_other W ⟨g, i, none⟩ k x (fun e => hne (by simpa using e))⟩
theorem Ot2.slot (hb g : Nat) (W : World) (x : Value) : Ot2 hb g W (W.setCell ⟨hb, 0, none⟩ x) :=
  ⟨by simp, fun k _ hne _ => heap_setCell_other W ⟨hb, 0, none⟩ k x (fun e => hne (by simpa using e))⟩
def Kp (base hb g : Nat) (W W' : World) : Prop := (∀ B w0, B ≤ base → Below B w0 W → Below B w0 W') ∧ Ot2 hb g W W'
theorem Kp.refl (base : Nat) {hb g : Nat} (W : World) : Kp base hb g W W := ⟨fun _ _ _ h => h, Ot2.refl hb g W⟩
theorem Kp.more {base hb g g' : Nat} {W W' W'' : World} (h : Kp base hb g W W') (h' : Kp base hb g' W' W'') (hg : g' = g ∨ W.heap.size ≤ g') : Kp base hb g W W'' := ⟨fun B w0 hB hb => h'.1 B w0 hB (h.1 B w0 hB hb), h.2.more h'.2 hg⟩
theorem Kp.trans {base hb g : Nat} {W W' W'' : World} (h : Kp base hb g W W') (h' : Kp base hb g W' W'') : Kp base hb g W W'' := h.more h' (.inl rfl)
theorem Kp.drewN (base : Nat) {hb g : Nat} (W : World) (k : Nat) : Kp base hb g W (W.drewN k) := ⟨fun _ _ _ h => below_drewN h k, ⟨Nat.le_refl _, fun _ _ _ _ => rfl⟩⟩
structure HS (W : World) (hb base g cap n : Nat) (X : Nat → Nat × Nat) : Prop where
  slot : W.cell? ⟨hb, 0, none⟩ = some (.slice (some ⟨g, 0, none⟩) n cap)
  sf : W.frozen? ⟨hb, 0, none⟩ = false
  row : W.ownsRow base 120 1 (.slice (some ⟨g, 0, none⟩) n cap) n (rowX X n)
  lt : base ≤ hb
  tag : Boxed W hb 112 (.slice (some ⟨g, 0, none⟩) n cap)
theorem HS.base_le {W : World} {hb base g cap n : Nat} {X : Nat → Nat × Nat} (h : HS W hb base g cap n X) : base ≤ g := (h.row.lt g rfl).1
theorem HS.ne {W : World} {hb base g cap n : Nat} {X : Nat → Nat × Nat} (h : HS W hb base g cap n X) : g ≠ hb := fun e => Boxed.not_row h.tag (by decide) h.row (by simp [Value.ownBlock, e])
theorem HS.at {W : World} {hb base g cap n : Nat} {X : Nat → Nat × Nat} (h : HS W hb base g cap n X) {t : Nat} (ht : t < n) : W.cell? ⟨g, t, none⟩ = some (.complex .f64 (X t).1 (X t).2) := by
  rw [h.row.cellAt t (by omega), rowX_at X ht]
  rfl
theorem HS.drewN {W : World} {hb base g cap n : Nat} {X : Nat → Nat × Nat} (h : HS W hb base g cap n X) (k : Nat) : HS (W.drewN k) hb base g cap n X := ⟨h.slot, h.sf, h.row, h.lt, h.tag⟩
theorem HS.set {W : World} {hb base g cap n : Nat} {X : Nat → Nat × Nat} (h : HS W hb base g cap n X) (i : Nat) (p : Nat × Nat) : HS (W.setCell ⟨g, i, none⟩ (cpx p)) hb base g cap n (fun t => if t = i then p else X t) := by
  have hg := h.base_le
  refine ⟨?_, by rw [frozen_set]; exact h.sf, ?_, h.lt, (heap_setCell_other W ⟨g, i, none⟩ hb (cpx p) (fun e => h.ne (show hb = g by simpa using e).symm)).trans h.tag⟩
  · rw [← h.slot]
    have : g ≠ hb := h.ne
    simp [go_sem, this]
  · rw [← rowX_set]
    exact (h.row.stored i (cpx p)).1
theorem HS.swap {W : World} {hb base g cap n : Nat} {X : Nat → Nat × Nat} (h : HS W hb base g cap n X) (i j : Nat) : HS (((W.setCell ⟨g, i, none⟩ (.complex .f64 (X j).1 (X j).2)).setCell ⟨g, j, none⟩ (.complex .f64 (X i).1 (X i).2)).drew) hb base g cap n (Hq.swf X i j) := by
  have h1 := (h.set i (X j)).set j (X i)
  have e : (fun t => if t = j then X i else if t = i then X j else X t) = Hq.swf X i j := by
    funext t
    unfold Hq.swf
    by_cases h1 : t = j
    · by_cases h2 : t = i
      · rw [if_pos h1, if_pos h2, ← h2, h1]
      · rw [if_pos h1, if_neg h2, if_pos h1]
    · by_cases h2 : t = i
      · rw [if_neg h1, if_pos h2, if_pos h2]
      · rw [if_neg h1, if_neg h2, if_neg h2, if_neg h1]
  rw [e] at h1
  exact ⟨h1.slot, h1.sf, h1.row, h1.lt, h1.tag⟩
theorem HS.oth {W W' : World} {hb base g cap n : Nat} {X : Nat → Nat × Nat} (h : HS W hb base g cap n X) (k : Ot2 hb g W W') : Oth W W' := by
  obtain ⟨cs, hcs⟩ := row_tagC h.row
  exact ⟨k.size, fun j o hj a b => (k.same j (Array.getElem?_eq_some_iff.1 hj).1 (tag_ne hj b h.tag) (tag_ne hj a hcs)).trans hj⟩
theorem Kp.swap {W : World} {hb base g cap n : Nat} {X : Nat → Nat × Nat} (h : HS W hb base g cap n X) (i j : Nat) (x y : Nat × Nat) : Kp base hb g W (((W.setCell ⟨g, i, none⟩ (cpx x)).setCell ⟨g, j, none⟩ (cpx y)).drew) := by
  have hg := h.base_le
  refine ⟨fun B w0 hB hb => Below.drew ((hb.setCell (p := ⟨g, i, none⟩) (by show B ≤ g; omega) _).setCell (p := ⟨g, j, none⟩) (by show B ≤ g; omega) _), ?_⟩
  have o := (Ot2.set hb g i W (cpx x)).more (Ot2.set hb g j _ (cpx y)) (.inl rfl)
  exact ⟨o.size, o.same⟩
theorem lessH {W : World} {hb base g cap n : Nat} {X : Nat → Nat × Nat} (h : HS W hb base g cap n X) {i j : Nat} (hi : i < n) (hj : j < n) (hf : ∀ t, t < n → Fi (X t).1) :
    Calls Tryz.prog 221 #[.slice (some ⟨g, 0, none⟩) n cap, .int .i64 i, .int .i64 j] W fun e w' => e = .returned (.bool (decide (V (X i).1 < V (X j).1))) ∧ HS w' hb base g cap n X ∧ Kp base hb g W w' := by
  refine (less_any g n cap i j _ _ _ _ W hi hj (h.at hi) (h.at hj) (hf i hi) (hf j hj)).mono ?_
  rintro e w' ⟨rfl, k, rfl⟩
  exact ⟨rfl, h.drewN k, Kp.drewN _ _ k⟩
theorem swapH {W : World} {hb base g cap n : Nat} {X : Nat → Nat × Nat} (h : HS W hb base g cap n X) {i j : Nat} (hi : i < n) (hj : j < n) :
    Calls Tryz.prog 222 #[.slice (some ⟨g, 0, none⟩) n cap, .int .i64 i, .int .i64 j] W fun e w' => e = .returned (.tuple #[]) ∧ HS w' hb base g cap n (Hq.swf X i j) ∧ Kp base hb g W w' := by
  refine (swap_any g n cap i j _ _ _ _ W hi hj (h.at hi) (h.at hj) (h.row.frozenAt i) (h.row.frozenAt j)).mono ?_
  rintro e w' ⟨rfl, rfl⟩
  exact ⟨rfl, h.swap i j, Kp.swap h i j _ _⟩
end Go.Proofs.YtkjlkbgdkdcboaaGreatDoor

set_option linter.unusedSimpArgs false
set_option linter.unusedVariables false
namespace Go.Proofs.YtkjlkbgdkdcboaaGreatDoor
open Go.RowKit Go.Maps Fl
attribute [local go_sem ↓] Go.wp_at_zero Go.wp_at_succ
def kX (X : Nat → Nat × Nat) : Nat → Rat := fun t => V (X t).1
theorem kX_swf (X : Nat → Nat × Nat) (i j : Nat) : kX (Hq.swf X i j) = Hq.swf (kX X) i j := by
  funext t
  unfold kX Hq.swf
  by_cases h1 : t = i
  · rw [if_pos h1, if_pos h1]
  · by_cases h2 : t = j
    · rw [if_neg h1, if_neg h1, if_pos h2, if_pos h2]
    · rw [if_neg h1, if_neg h1, if_neg h2, if_neg h2]
structure Mx (n : Nat) (X Y : Nat → Nat × Nat) : Prop where
  mem : ∀ t, t < n → ∃ s, s < n ∧ Y t = X s
  out : ∀ t, n ≤ t → Y t = X t
theorem Mx.refl (n : Nat) (X : Nat → Nat × Nat) : Mx n X X := ⟨fun t h => ⟨t, h, rfl⟩, fun _ _ => rfl⟩
theorem Mx.swap {n : Nat} {X Y : Nat → Nat × Nat} (h : Mx n X Y) {i j : Nat} (hi : i < n) (hj : j < n) : Mx n X (Hq.swf Y i j) := by
  refine ⟨fun t ht => ?_, fun t ht => ?_⟩
  · by_cases h1 : t = i
    · rw [h1, Hq.swf_i]; exact h.mem j hj
    · by_cases h2 : t = j
      · rw [h2, Hq.swf_j]; exact h.mem i hi
      · rw [Hq.swf_o Y h1 h2]; exact h.mem t ht
  · rw [Hq.swf_o Y (by omega) (by omega)]; exact h.out t ht
theorem Mx.fi {n m : Nat} {X Y : Nat → Nat × Nat} (h : Mx n X Y) (hn : n ≤ m) (hf : ∀ t, t < m → Fi (X t).1) : ∀ t, t < m → Fi (Y t).1 := fun t ht => by
  by_cases c : t < n
  · obtain ⟨s, h1, h2⟩ := h.mem t c
    rw [h2]; exact hf s (by omega)
  · rw [h.out t (by omega)]; exact hf t ht
structure DnI (W wr : World) (hb base g cap N n i0 i : Nat) (X Y : Nat → Nat × Nat) : Prop where
  hs : HS wr hb base g cap N Y
  di : Hq.DI (kX Y) i0 i n
  mx : Mx n X Y
  kp : Kp base hb g W wr
set_option maxRecDepth 100000 in
set_option maxHeartbeats 1000000 in
theorem down_any (hb base g cap N n i0 : Nat) (X : Nat → Nat × Nat) (W : World) (h : HS W hb base g cap N X) (hf : ∀ t, t < N → Fi (X t).1) (hn : n ≤ N) (hN : N ≤ 1000000) (hi0 : i0 ≤ 1000000) (hfr : Hq.From (kX X) (i0 + 1) n) :
    Calls Tryz.prog 74 #[.iface 115 (.pointer (some ⟨hb, 0, none⟩)), .int .i64 i0, .int .i64 n] W fun e w' => ∃ Y, (∃ b, e = .returned (.bool b)) ∧ HS w' hb base g cap N Y ∧ Hq.From (kX Y) i0 n ∧ Mx n X Y ∧ Kp base hb g W w' := by
  have H0 : Hid (DnI W W hb base g cap N n i0 i0 X X) := hide ⟨h, Hq.DI.start hfr, Mx.refl n X, Kp.refl base W⟩
  have Hf := hide hf
  clear h hf hfr
  go_enter Tryz.func74, Tryz.ntmps74
  go_wp2
  go_loopw [7] (fun v wr => ∃ i Y, v = .int .i64 (i : Nat) ∧ i ≤ 1000000 ∧ Hid (DnI W wr hb base g cap N n i0 i X Y)) (fun v _ => n - (intOf v).toNat)
  case atStart => exact ⟨i0, X, rfl, hi0, H0.out⟩
  case round =>
    obtain ⟨i, Y, rfl, hi, hr⟩ := hrel
    have hs := hr.out.hs
    have hdi := hr.out.di
    have hmx := hr.out.mx
    have hkp := hr.out.kp
    have hfY := hmx.fi hn Hf.out
    have slot := hs.slot
    have hm := mLess slot
    obtain ⟨j1, hj1⟩ : ∃ j1 : Nat, j1 = 2 * i + 1 := ⟨_, rfl⟩
    obtain ⟨j2, hj2⟩ : ∃ j2 : Nat, j2 = 2 * i + 2 := ⟨_, rfl⟩
    have hw0 : wrap64 (2 * (i : Int)) = 2 * (i : Int) := by rw [← IntWalk.i64_left, IntWalk.i64_in _ (by omega)]
    have hw1 : wrap64 (2 * (i : Int) + 1) = (j1 : Int) := by rw [← IntWalk.i64_left, IntWalk.i64_in _ (by omega)]; omega
    have e2 : (j1 : Int) + 1 = (j2 : Int) := by omega
    have hw2 : wrap64 (j2 : Int) = (j2 : Int) := by rw [← IntWalk.i64_left, IntWalk.i64_in _ (by omega)]
    have Hi := hide hi
    have Hj1 := hide hj1
    have Hj2 := hide hj2
    have HfY := hide hfY
    have HDI := hide hdi
    have HS1 := hide hs
    have HX := hide hmx
    have HK := hide hkp
    clear hi hfY hdi hs hmx hkp hr hj1 hj2
    by_cases c1 : n ≤ j1
    · have HD := hide (HDI.out.done (fun c hc hch => by have := Hj1.out; omega))
      have d1 : decide ((n : Int) ≤ (j1 : Int)) = true := decide_eq_true (by omega)
      have d2 : decide (n ≤ j1) = true := decide_eq_true c1
      clear hm slot hw2 HDI c1
      go_wp2
      go_ret
      exact ⟨Y, ⟨_, rfl⟩, HS1.out, HD.out, HX.out, HK.out⟩
    · have d1 : decide ((n : Int) ≤ (j1 : Int)) = false := decide_eq_false (by omega)
      have d2 : decide (n ≤ j1) = false := decide_eq_false c1
      have d0 : decide ((j1 : Int) < 0) = false := decide_eq_false (by omega)
      by_cases c2 : j2 < n
      · have d3 : decide ((j2 : Int) < (n : Int)) = true := decide_eq_true (by omega)
        have d4 : decide (j2 < n) = true := decide_eq_true c2
        go_wp2_with fail
        refine (lessH HS1.out (i := j2) (j := j1) (by omega) (by omega) HfY.out).mono ?_
        rintro e w1 ⟨rfl, ha1, hk1⟩
        have HA1 := hide ha1
        have HK1 := hide (HK.out.trans hk1)
        clear hm slot ha1 hk1 HS1 HK
        by_cases b1 : V (Y j2).1 < V (Y j1).1
        · rw [decide_eq_true b1]
          have HO : Hid (∀ o, o < n → (o = 2 * i + 1 ∨ o = 2 * i + 2) → kX Y j2 ≤ kX Y o) := hide (fun o ho hch => by
            have h1 := Hj1.out
            have h2 := Hj2.out
            rcases hch with e | e
            · rw [e, ← h1]; show V (Y j2).1 ≤ V (Y j1).1; grind
            · rw [e, ← h2]; exact Rat.le_refl)
          clear b1
          have slot2 := (HA1.out).slot
          have hm2 := mLess slot2
          go_wp2_with fail
          refine (lessH (HA1.out) (i := j2) (j := i) (by omega) (by have := Hj1.out; have := Hj2.out; omega) HfY.out).mono ?_
          rintro e w2 ⟨rfl, ha2, hk2⟩
          have HA2 := hide ha2
          have HK2 := hide ((HK1.out).trans hk2)
          clear hm2 slot2 ha2 hk2
          by_cases b2 : V (Y j2).1 < V (Y i).1
          · rw [decide_eq_true b2]
            have HD2 := hide (HDI.out.swap (c := j2) (by omega) (by have := Hj1.out; have := Hj2.out; omega) b2 HO.out)
            have slot3 := HA2.out.slot
            have hm3 := mSwap slot3
            clear b2 HDI
            go_wp2_with fail
            refine (swapH HA2.out (i := i) (j := j2) (by have := Hj1.out; have := Hj2.out; omega) (by omega)).mono ?_
            rintro e w3 ⟨rfl, hs3, hk3⟩
            have HN : Hid (DnI W w3 hb base g cap N n i0 j2 X (Hq.swf Y i j2)) := hide ⟨hs3, by rw [kX_swf]; exact HD2.out, HX.out.swap (by have := Hj1.out; have := Hj2.out; omega) (by omega), HK2.out.trans hk3⟩
            clear hm3 slot3 hs3 hk3 HD2
            go_wp2
            go_roundw
            case rel => exact ⟨j2, Hq.swf Y i j2, rfl, by omega, HN.out⟩
            case measure => simp [intOf]; have := Hj1.out; have := Hj2.out; omega
          · rw [decide_eq_false b2]
            have HD2 := hide (HDI.out.done (fun o ho hch => by
              have a := HO.out o ho hch
              have b : kX Y i ≤ kX Y j2 := by show V (Y i).1 ≤ V (Y j2).1; grind
              exact Rat.le_trans b a))
            clear b2 HDI
            go_wp2
            go_ret
            exact ⟨Y, ⟨_, rfl⟩, HA2.out, HD2.out, HX.out, HK2.out⟩
        · rw [decide_eq_false b1]
          have HO : Hid (∀ o, o < n → (o = 2 * i + 1 ∨ o = 2 * i + 2) → kX Y j1 ≤ kX Y o) := hide (fun o ho hch => by
            have h1 := Hj1.out
            have h2 := Hj2.out
            rcases hch with e | e
            · rw [e, ← h1]; exact Rat.le_refl
            · rw [e, ← h2]; show V (Y j1).1 ≤ V (Y j2).1; grind)
          clear b1
          have slot2 := (HA1.out).slot
          have hm2 := mLess slot2
          go_wp2_with fail
          refine (lessH (HA1.out) (i := j1) (j := i) (by omega) (by have := Hj1.out; have := Hj2.out; omega) HfY.out).mono ?_
          rintro e w2 ⟨rfl, ha2, hk2⟩
          have HA2 := hide ha2
          have HK2 := hide ((HK1.out).trans hk2)
          clear hm2 slot2 ha2 hk2
          by_cases b2 : V (Y j1).1 < V (Y i).1
          · rw [decide_eq_true b2]
            have HD2 := hide (HDI.out.swap (c := j1) (by omega) (by have := Hj1.out; have := Hj2.out; omega) b2 HO.out)
            have slot3 := HA2.out.slot
            have hm3 := mSwap slot3
            clear b2 HDI
            go_wp2_with fail
            refine (swapH HA2.out (i := i) (j := j1) (by have := Hj1.out; have := Hj2.out; omega) (by omega)).mono ?_
            rintro e w3 ⟨rfl, hs3, hk3⟩
            have HN : Hid (DnI W w3 hb base g cap N n i0 j1 X (Hq.swf Y i j1)) := hide ⟨hs3, by rw [kX_swf]; exact HD2.out, HX.out.swap (by have := Hj1.out; have := Hj2.out; omega) (by omega), HK2.out.trans hk3⟩
            clear hm3 slot3 hs3 hk3 HD2
            go_wp2
            go_roundw
            case rel => exact ⟨j1, Hq.swf Y i j1, rfl, by omega, HN.out⟩
            case measure => simp [intOf]; have := Hj1.out; have := Hj2.out; omega
          · rw [decide_eq_false b2]
            have HD2 := hide (HDI.out.done (fun o ho hch => by
              have a := HO.out o ho hch
              have b : kX Y i ≤ kX Y j1 := by show V (Y i).1 ≤ V (Y j1).1; grind
              exact Rat.le_trans b a))
            clear b2 HDI
            go_wp2
            go_ret
            exact ⟨Y, ⟨_, rfl⟩, HA2.out, HD2.out, HX.out, HK2.out⟩
      · have d3 : decide ((j2 : Int) < (n : Int)) = false := decide_eq_false (by omega)
        have d4 : decide (j2 < n) = false := decide_eq_false c2
        have HO : Hid (∀ o, o < n → (o = 2 * i + 1 ∨ o = 2 * i + 2) → kX Y j1 ≤ kX Y o) := hide (fun o ho hch => by
          have h1 := Hj1.out
          have h2 := Hj2.out
          rcases hch with e | e
          · rw [e, ← h1]; exact Rat.le_refl
          · omega)
        clear hm slot
        have slot2 := (HS1.out).slot
        have hm2 := mLess slot2
        go_wp2_with fail
        refine (lessH (HS1.out) (i := j1) (j := i) (by omega) (by have := Hj1.out; have := Hj2.out; omega) HfY.out).mono ?_
        rintro e w2 ⟨rfl, ha2, hk2⟩
        have HA2 := hide ha2
        have HK2 := hide ((HK.out).trans hk2)
        clear hm2 slot2 ha2 hk2
        by_cases b2 : V (Y j1).1 < V (Y i).1
        · rw [decide_eq_true b2]
          have HD2 := hide (HDI.out.swap (c := j1) (by omega) (by have := Hj1.out; have := Hj2.out; omega) b2 HO.out)
          have slot3 := HA2.out.slot
          have hm3 := mSwap slot3
          clear b2 HDI
          go_wp2_with fail
          refine (swapH HA2.out (i := i) (j := j1) (by have := Hj1.out; have := Hj2.out; omega) (by omega)).mono ?_
          rintro e w3 ⟨rfl, hs3, hk3⟩
          have HN : Hid (DnI W w3 hb base g cap N n i0 j1 X (Hq.swf Y i j1)) := hide ⟨hs3, by rw [kX_swf]; exact HD2.out, HX.out.swap (by have := Hj1.out; have := Hj2.out; omega) (by omega), HK2.out.trans hk3⟩
          clear hm3 slot3 hs3 hk3 HD2
          go_wp2
          go_roundw
          case rel => exact ⟨j1, Hq.swf Y i j1, rfl, by omega, HN.out⟩
          case measure => simp [intOf]; have := Hj1.out; have := Hj2.out; omega
        · rw [decide_eq_false b2]
          have HD2 := hide (HDI.out.done (fun o ho hch => by
            have a := HO.out o ho hch
            have b : kX Y i ≤ kX Y j1 := by show V (Y i).1 ≤ V (Y j1).1; grind
            exact Rat.le_trans b a))
          clear b2 HDI
          go_wp2
          go_ret
          exact ⟨Y, ⟨_, rfl⟩, HA2.out, HD2.out, HX.out, HK2.out⟩
end Go.Proofs.YtkjlkbgdkdcboaaGreatDoor
