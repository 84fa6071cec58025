import Derived.Test.YtkjlkbgdkdcboaaGreatDoorMC
import Derived.Test.YtkjlkbgdkdcboaaGreatDoorMaA
import Derived.Deep.DeepCutAuto

set_option linter.unusedSimpArgs false
set_option linter.unusedVariables false

set_option linter.unusedSimpArgs false
set_option linter.unusedVariables false
namespace Go.Proofs.YtkjlkbgdkdcboaaGreatDoor
open Go.RowKit Go.Maps
attribute [local go_sem ↓] Go.wp_at_zero Go.wp_at_succ
structure Box (W : World) (n : Nat) (l : List Value) : Prop where
  c : ∀ k v, l[k]? = some v → W.cell? ⟨n, k, none⟩ = some v
  f : ∀ k, k < l.length → W.frozen? ⟨n, k, none⟩ = false
theorem Box.lt {w : World} {n : Nat} {l : List Value} (h : Box w n l) (hl : 0 < l.length) : n < w.heap.size := World.block_lt_of_cell? _ _ (h.c 0 l[0] (by simp))
theorem Box.block {w w' : World} {n : Nat} {l : List Value} (h : Box w n l) (hb : w'.heap[n]? = w.heap[n]?) : Box w' n l :=
  ⟨fun k v hk => (World.cell?_of_block (w := w) (a := ⟨n, k, none⟩) hb).trans (h.c k v hk), fun k hk => (World.frozen?_of_block (w := w) (a := ⟨n, k, none⟩) hb).trans (h.f k hk)⟩
theorem Box.later {w w' : World} {n : Nat} {l : List Value} (h : Box w n l) (hl : 0 < l.length) (hb : Below w.heap.size w w') : Box w' n l := h.block (hb.block n (h.lt hl))
theorem Box.kept {w w' : World} {n : Nat} {l : List Value} {r : Option Nat} (h : Box w n l) (hl : 0 < l.length) (hg : w.grownBy w' r) (hr : r ≠ some n) : Box w' n l := h.block (hg.block n (h.lt hl) (fun e => hr e.symm))
theorem Box.new (w : World) (l : List Value) (t : TypeId) : Box (w.alloc (.cells l.toArray t)) w.heap.size l := by
  refine ⟨fun k v hk => ?_, fun k hk => ?_⟩
  · simp [go_sem, hk]
  · simp [go_sem]
def layV (l : Acre.Ed × Bool × Bool) : List Value := [.int .i64 l.1.1.1, .int .i64 l.1.1.2, .int .i64 l.1.2.1, .int .i64 l.1.2.2, .bool l.2.1, .bool l.2.2]
def flatL (ls : List (Acre.Ed × Bool × Bool)) : List Value := ls.flatMap layV
def edL (e : Acre.Ed) : List Value := [.int .i64 e.1.1, .int .i64 e.1.2, .int .i64 e.2.1, .int .i64 e.2.2]
def bandL (b : Acre.Ed × Acre.Ed) : List Value := edL b.1 ++ edL b.2
def flatB (bs : List (Acre.Ed × Acre.Ed)) : List Value := bs.flatMap bandL
theorem flatB_snoc (bs : List (Acre.Ed × Acre.Ed)) (b : Acre.Ed × Acre.Ed) : flatB (bs ++ [b]) = flatB bs ++ bandL b := by simp [flatB]
def bandsOfL (L : List (Acre.Ed × Bool × Bool)) : List (Acre.Ed × Acre.Ed) := Slab.bandsG false Acre.zed (L.map fun l => (l.2.2, l.1))
theorem flat_get {α : Type} (f : α → List Value) (m : Nat) (hm : ∀ a, (f a).length = m) : ∀ (l : List α) (k j : Nat) (hk : k < l.length), j < m → (l.flatMap f)[k * m + j]? = (f l[k])[j]?
  | [], k, j, hk, _ => by simp at hk
  | a :: r, 0, j, _, hj => by
    rw [List.flatMap_cons, List.getElem?_append_left (by rw [hm]; omega)]
    simp
  | a :: r, k + 1, j, hk, hj => by
    have e : (k + 1) * m + j = m + (k * m + j) := by rw [Nat.succ_mul]; omega
    rw [List.flatMap_cons, List.getElem?_append_right (by rw [hm, e]; omega), hm, e, Nat.add_sub_cancel_left]
    have := flat_get f m hm r k j (by simpa using hk) hj
    simpa using this
theorem row_at {α : Type} {w : World} {base g cap m : Nat} {t : TypeId} {l : List α} {f : α → List Value} (hm : ∀ a, (f a).length = m) (h : w.ownsRow base t m (.slice (some ⟨g, 0, none⟩) l.length cap) l.length (l.flatMap f)) (k j : Nat) (hk : k < l.length) (hj : j < m) : w.cell? ⟨g, k * m + j, none⟩ = (f l[k])[j]? := by
  have hb : k * m + j < l.length * m := by
    have := Nat.mul_le_mul_right m (show k + 1 ≤ l.length by omega)
    rw [Nat.succ_mul] at this
    omega
  exact (h.cellAt _ hb).trans (flat_get f m hm l k j hk hj)
theorem rowL_cells {w : World} {base g cap : Nat} {t : TypeId} {L : List (Acre.Ed × Bool × Bool)} (h : w.ownsRow base t 6 (.slice (some ⟨g, 0, none⟩) L.length cap) L.length (flatL L)) (k : Nat) (hk : k < L.length) :
    w.cell? ⟨g, k * 6, none⟩ = some (.int .i64 L[k].1.1.1) ∧ w.cell? ⟨g, k * 6 + 1, none⟩ = some (.int .i64 L[k].1.1.2) ∧ w.cell? ⟨g, k * 6 + 1 + 1, none⟩ = some (.int .i64 L[k].1.2.1) ∧ w.cell? ⟨g, k * 6 + 1 + 1 + 1, none⟩ = some (.int .i64 L[k].1.2.2) ∧ w.cell? ⟨g, k * 6 + 1 + 1 + 1 + 1, none⟩ = some (.bool L[k].2.1) ∧ w.cell? ⟨g, k * 6 + 1 + 1 + 1 + 1 + 1, none⟩ = some (.bool L[k].2.2) :=
  ⟨row_at (f := layV) (m := 6) (fun _ => rfl) h k 0 hk (by omega), row_at (f := layV) (m := 6) (fun _ => rfl) h k 1 hk (by omega), row_at (f := layV) (m := 6) (fun _ => rfl) h k 2 hk (by omega), row_at (f := layV) (m := 6) (fun _ => rfl) h k 3 hk (by omega), row_at (f := layV) (m := 6) (fun _ => rfl) h k 4 hk (by omega), row_at (f := layV) (m := 6) (fun _ => rfl) h k 5 hk (by omega)⟩
theorem row_succ {W : World} {base : Nat} {e : TypeId} {size : Nat} {v : Value} {k : Nat} {xs : List Value} (h : W.ownsRow base e size v (k + 1) xs) : ∃ g cap, v = .slice (some ⟨g, 0, none⟩) (k + 1) cap := by
  rcases h.2 with ⟨_, h0⟩ | ⟨g, cap, _, rfl, _⟩
  · omega
  · exact ⟨g, cap, rfl⟩
theorem row_base {W : World} {base base' : Nat} {e : TypeId} {size : Nat} {v : Value} {k : Nat} {xs : List Value} (h : W.ownsRow base e size v k xs) (hb : base' ≤ base) : W.ownsRow base' e size v k xs := by
  refine ⟨h.1, ?_⟩
  rcases h.2 with h | ⟨g, cap, cur, h1, h2, h3⟩
  · exact .inl h
  · exact .inr ⟨g, cap, cur, h1, by omega, h3⟩
theorem info159 : (Tryz.prog.info? 106).map (fun i => (i.zero, i.size, i.bytes)) = some (some (.agg #[.int .i64 0, .int .i64 0, .int .i64 0, .int .i64 0, .int .i64 0, .int .i64 0, .int .i64 0, .int .i64 0]), 8, 64) := by kernel_rfl
structure BdI (w wr : World) (l : Value) (low : Acre.Ed) (bs : List (Acre.Ed × Acre.Ed)) (k : Nat) : Prop where
  len : bs.length ≤ k
  row : wr.ownsRow (w.heap.size + 2) 106 8 l bs.length (flatB bs)
  box : Box wr (w.heap.size + 1) (edL low)
  bel : Below w.heap.size w wr
  siz : w.heap.size + 2 ≤ wr.heap.size
theorem BdI.alloc {w wr : World} {l : Value} {low : Acre.Ed} {bs : List (Acre.Ed × Acre.Ed)} {k : Nat} (h : BdI w wr l low bs k) (o : Obj) : BdI w (wr.alloc o) l low bs k :=
  ⟨h.len, h.row.alloc _, h.box.later (by simp [edL]) (below1 _ _), below_call (below1 _ _) h.bel, by have := h.siz; simp; omega⟩
theorem BdI.mono {w wr : World} {l : Value} {low : Acre.Ed} {bs : List (Acre.Ed × Acre.Ed)} {k : Nat} (h : BdI w wr l low bs k) : BdI w wr l low bs (k + 1) := { h with len := by have := h.len; omega }
theorem box_four (w : World) (n : Nat) (a b c d a' b' c' d' : Value) (h : Box w n [a, b, c, d]) : Box ((((w.setCell ⟨n, 0, none⟩ a').setCell ⟨n, 0 + 1, none⟩ b').setCell ⟨n, 0 + 1 + 1, none⟩ c').setCell ⟨n, 0 + 1 + 1 + 1, none⟩ d') n [a', b', c', d'] := by
  have c0 := h.c 0 _ rfl
  have c1 := h.c 1 _ rfl
  have c2 := h.c 2 _ rfl
  have c3 := h.c 3 _ rfl
  have f0 := h.f 0 (by simp)
  have f1 := h.f 1 (by simp)
  have f2 := h.f 2 (by simp)
  have f3 := h.f 3 (by simp)
  refine ⟨fun k v hk => ?_, fun k hk => ?_⟩
  · match k, hk with
    | 0, hk => simp at hk; subst hk; simp [go_sem, c0]
    | 1, hk => simp at hk; subst hk; simp [go_sem, c1]
    | 2, hk => simp at hk; subst hk; simp [go_sem, c2]
    | 3, hk => simp at hk; subst hk; simp [go_sem, c3]
  · match k, hk with
    | 0, _ => simp [go_sem, f0]
    | 1, _ => simp [go_sem, f1]
    | 2, _ => simp [go_sem, f2]
    | 3, _ => simp [go_sem, f3]
set_option maxRecDepth 100000 in
set_option maxHeartbeats 2000000 in
theorem bands_any (L : List (Acre.Ed × Bool × Bool)) (lv : Value) (f t : Acre.Fc) (base : Nat) (mb : Option Nat) (w : World) (hown : w.ownsRow base 163 6 lv L.length (flatL L)) (hL : L.length ≤ 24) :
    Calls Tryz.prog 37 #[.agg #[.int .i64 f.1, .int .i64 f.2, .int .i64 t.1, .int .i64 t.2, lv, .map mb]] w fun e w' => ∃ u, e = .returned u ∧ w'.ownsRow w.heap.size 106 8 u (bandsOfL L).length (flatB (bandsOfL L)) ∧ Below w.heap.size w w' := by
  obtain ⟨ga, gb, gcap, rfl, hga⟩ := rowE_form hown
  obtain ⟨i0, hi, hz0, hz1, hz2⟩ := info_parts info159
  go_enter Tryz.func37, Tryz.ntmps37
  go_wp2
  go_loopw [3, 5, 11] (fun l ins i wr => ∃ (k : Nat) (fl : Bool) (low : Acre.Ed) (bs : List (Acre.Ed × Acre.Ed)), i = .int .i64 k ∧ ins = .bool fl ∧ k ≤ L.length ∧ Hid (bandsOfL L = bs ++ Slab.bandsG fl low ((L.drop k).map fun l => (l.2.2, l.1)) ∧ BdI w wr l low bs k)) (fun _ _ i _ => L.length - (intOf i).toNat)
  case atStart =>
    refine ⟨0, false, Acre.zed, [], rfl, rfl, Nat.zero_le _, (by simp [bandsOfL]), Nat.le_refl _, World.ownsRow_nil _ _ _ _, ?_, below2 _ _ _, by simp⟩
    have := Box.new (w.alloc (.cells #[.int .i64 f.1, .int .i64 f.2, .int .i64 t.1, .int .i64 t.2, .slice ga L.length gcap, .map mb] 102)) (edL Acre.zed) 42
    simpa [edL, Acre.zed] using this
  case round =>
    obtain ⟨k, fl, low, bs, rfl, rfl, hk, hr⟩ := hrel
    by_cases hlt : k < L.length
    · obtain ⟨hdef, hI⟩ := hr.out
      obtain rfl := hga (by omega)
      obtain ⟨x0, x1, x2, x3, x4, x5⟩ := rowL_cells hown k hlt
      have y0 := cell_later hI.bel x0
      have y1 := cell_later hI.bel x1
      have y2 := cell_later hI.bel x2
      have y3 := cell_later hI.bel x3
      have y4 := cell_later hI.bel x4
      have y5 := cell_later hI.bel x5
      have hdr : L.drop k = L[k] :: L.drop (k + 1) := List.drop_eq_getElem_cons hlt
      rw [hdr, List.map_cons] at hdef
      clear x0 x1 x2 x3 x4 x5 hdr hr hown hga
      obtain ⟨⟨⟨⟨e0, e1⟩, ⟨e2, e3⟩⟩, bare, nin⟩, hl⟩ : ∃ l, L[k] = l := ⟨_, rfl⟩
      rw [hl] at hdef y0 y1 y2 y3 y4 y5
      dsimp only at hdef y0 y1 y2 y3 y4 y5
      obtain ⟨⟨⟨l0, l1⟩, ⟨l2, l3⟩⟩, hlow⟩ : ∃ l, low = l := ⟨_, rfl⟩
      subst hlow
      have hA := hI.alloc (.cells #[.int .i64 e0, .int .i64 e1, .int .i64 e2, .int .i64 e3, .bool bare, .bool nin] 163)
      have hN := Box.new wr [.int .i64 e0, .int .i64 e1, .int .i64 e2, .int .i64 e3, .bool bare, .bool nin] 163
      have hsz := hI.siz
      have hu : ∀ c, u3.ownBlock = some c → w.heap.size + 2 ≤ c ∧ c < wr.heap.size := hI.row.lt
      have Hdef : Hid _ := hdef
      go_upto_region 7 with fail
      clear y0 y1 y2 y3 y4 y5 hdef hI
      generalize wr.alloc (.cells #[.int .i64 e0, .int .i64 e1, .int .i64 e2, .int .i64 e3, .bool bare, .bool nin] 163) = WP at *
      have n0 := hN.c 0 _ rfl
      have n1 := hN.c 1 _ rfl
      have n2 := hN.c 2 _ rfl
      have n3 := hN.c 3 _ rfl
      have n5 := hN.c 5 _ rfl
      have z0 := hA.box.c 0 _ rfl
      have z1 := hA.box.c 1 _ rfl
      have z2 := hA.box.c 2 _ rfl
      have z3 := hA.box.c 3 _ rfl
      have g0 := hA.box.f 0 (by simp [edL])
      have g1 := hA.box.f 1 (by simp [edL])
      have g2 := hA.box.f 2 (by simp [edL])
      have g3 := hA.box.f 3 (by simp [edL])
      have HA : Hid _ := hA
      have ne : ¬ wr.heap.size = w.heap.size + 1 := by omega
      clear hA hN
      cases nin <;> cases fl
      · go_wp2
        go_roundw
        case rel => exact ⟨k + 1, false, _, bs, by go_num, rfl, by omega, by rw [Hdef.out]; simp [Slab.bandsG], HA.out.mono⟩
        case measure => simp [intOf]; omega
      · have hb := HA.out.bel
        have hs2 := HA.out.siz
        have hrow := HA.out.row
        have hlen := HA.out.len
        have av : u3.ownBlock ≠ some wr.heap.size := fun e => by have := hu _ e; omega
        have al : u3.ownBlock ≠ some (w.heap.size + 1) := fun e => by have := hu _ e; omega
        go_upto_region 11 with (first
          | (at_builtin; refine wpList_append_own_at _ rfl _ _ 103 rfl (w.heap.size + 2) 106 i0 _ 8 64 Tryz.underlying103 hi hz0 hz1 hz2 rfl (by decide) _ _ _ rfl (hrow.alloc _) ⟨WP.heap.size, 0, none⟩ 1 1 (bandL (((l0, l1), (l2, l3)), ((e0, e1), (e2, e3)))) rfl rfl (World.news_of_block (cs := #[.int .i64 l0, .int .i64 l1, .int .i64 l2, .int .i64 l3, .int .i64 e0, .int .i64 e1, .int .i64 e2, .int .i64 e3]) (t := 106) (fr := (0, 0)) (heap_alloc_new WP _)) (by simp [bandL, edL, Value.oneCell']) (by unfold maxLen; omega) (by omega) (by simp; omega) ?_; intro v' w1 hown' hgrow hnil hloc; obtain ⟨g', cap', rfl⟩ := row_succ hown')
          | go_in)
        have m5 := hgrow.cell (cell_later (below1 WP _) n5) (fun e => av e.symm)
        have NI : BdI w w1 (.slice (some ⟨g', 0, none⟩) (bs.length + 1) cap') ((l0, l1), (l2, l3)) (bs ++ [(((l0, l1), (l2, l3)), ((e0, e1), (e2, e3)))]) (k + 1) :=
          ⟨by simp; omega, by rw [flatB_snoc, List.length_append]; exact hown', (HA.out.box.later (by simp [edL]) (below1 WP _)).kept (by simp [edL]) hgrow al, (below_call (below1 WP _) hb).grown hgrow (by have := hb.size; simp; omega) (fun c hc => by have := hu c hc; omega), by have := hgrow.size; simp at this; omega⟩
        have HN : Hid _ := NI
        clear NI hown' hgrow hnil hloc
        go_wp2
        go_roundw
        case rel => exact ⟨k + 1, false, _, _, by go_num, rfl, by omega, by rw [Hdef.out]; simp [Slab.bandsG], HN.out⟩
        case measure => simp [intOf]; omega
      · have HN : Hid (BdI w ((((WP.setCell ⟨w.heap.size + 1, 0, none⟩ (.int .i64 e0)).setCell ⟨w.heap.size + 1, 0 + 1, none⟩ (.int .i64 e1)).setCell ⟨w.heap.size + 1, 0 + 1 + 1, none⟩ (.int .i64 e2)).setCell ⟨w.heap.size + 1, 0 + 1 + 1 + 1, none⟩ (.int .i64 e3)) u3 ((e0, e1), (e2, e3)) bs (k + 1)) := by
          have h := HA.out.mono
          have hle : w.heap.size ≤ w.heap.size + 1 := by omega
          exact ⟨h.len, ownsRow_setCell_below (ownsRow_setCell_below (ownsRow_setCell_below (ownsRow_setCell_below h.row (a := ⟨w.heap.size + 1, 0, none⟩) (by simp) _) (a := ⟨w.heap.size + 1, 0 + 1, none⟩) (by simp) _) (a := ⟨w.heap.size + 1, 0 + 1 + 1, none⟩) (by simp) _) (a := ⟨w.heap.size + 1, 0 + 1 + 1 + 1, none⟩) (by simp) _, box_four _ _ _ _ _ _ _ _ _ _ h.box, (((h.bel.setCell (p := ⟨w.heap.size + 1, 0, none⟩) hle _).setCell (p := ⟨w.heap.size + 1, 0 + 1, none⟩) hle _).setCell (p := ⟨w.heap.size + 1, 0 + 1 + 1, none⟩) hle _).setCell (p := ⟨w.heap.size + 1, 0 + 1 + 1 + 1, none⟩) hle _, by simpa using h.siz⟩
        go_wp2
        go_roundw
        case rel => exact ⟨k + 1, true, ((e0, e1), (e2, e3)), bs, by go_num, rfl, by omega, by rw [Hdef.out]; simp [Slab.bandsG], HN.out⟩
        case measure => simp [intOf]; omega
      · go_wp2
        go_roundw
        case rel => exact ⟨k + 1, true, _, bs, by go_num, rfl, by omega, by rw [Hdef.out]; simp [Slab.bandsG], HA.out.mono⟩
        case measure => simp [intOf]; omega
    · obtain rfl : k = L.length := by omega
      obtain ⟨hdef, hI⟩ := hr.out
      have hb : bandsOfL L = bs := by rw [hdef]; simp [Slab.bandsG]
      go_wp2
      go_ret
      rw [hb]
      exact ⟨_, rfl, row_base hI.row (by omega), hI.bel⟩
end Go.Proofs.YtkjlkbgdkdcboaaGreatDoor
namespace Go.Proofs.YtkjlkbgdkdcboaaGreatDoor
open Go.RowKit Go.Maps
attribute [local go_sem ↓] Go.wp_at_zero Go.wp_at_succ
def frV (f : Acre.Fc) : Value := .agg #[.int .i64 f.1, .int .i64 f.2]
def edV (e : Acre.Ed) : Value := .agg #[.int .i64 e.1.1, .int .i64 e.1.2, .int .i64 e.2.1, .int .i64 e.2.2]
set_option maxHeartbeats 400000 in
theorem lowest_wide (n d : Int) (w : World) (hn : -100000000 ≤ n ∧ n ≤ 100000000) (hd : -100000000 ≤ d ∧ d ≤ 100000000) (h0 : d ≠ 0) :
    Calls Tryz.prog 147 #[.int .i64 n, .int .i64 d] w fun e w' => e = .returned (frV (Acre.low n d)) ∧ Below w.heap.size w w' := by
  obtain ⟨k1, k2⟩ := Acre.com_bd n d h0
  have t1 := Acre.tdiv_bd n (Acre.g n d * Acre.sgn d)
  have t2 := Acre.tdiv_bd d (Acre.g n d * Acre.sgn d)
  have k3 : (Acre.g n d * Acre.sgn d == 0) = false := by simpa using k2
  go_enter Tryz.func147, Tryz.ntmps147
  go_wp2_with fail
  refine (gcd_any _ _ _ (by omega) (by omega)).mono ?_
  rintro e w1 ⟨rfl, hb1⟩
  obtain ⟨hc, hf⟩ := bcell hb1
  have hz := hb1.size
  go_wp2_with fail
  refine (sign_any _ _).mono ?_
  rintro e w2 ⟨rfl, h2⟩
  subst h2
  go_wp2_with fail
  go_region
  go_wp2
  refine bodyPost_ret (v := frV (Acre.low n d)) ?_ rfl ⟨rfl, ?_⟩
  · simp [results, Tryz.results147, go_sem, hc, frV]
    exact ⟨rfl, rfl⟩
  · exact (((below_call hb1 (below1 _ _)).setCell (Nat.le_refl _) _).setCell (Nat.le_refl _) _).drew
set_option maxHeartbeats 400000 in
theorem signL_any (n : Int) (w : World) :
    Calls Tryz.prog 152 #[.int .i64 n] w fun e w' => e = .returned (.int .i64 (Acre.sgn n)) ∧ w' = w := by
  by_cases h1 : n < 0
  · go_enter Tryz.func152, Tryz.ntmps152
    go_wp2
    go_ret
    exact ⟨ret_int (Acre.sgn_neg h1).symm, rfl⟩
  · by_cases h2 : 0 < n
    · go_enter Tryz.func152, Tryz.ntmps152
      go_wp2
      go_ret
      exact ⟨ret_int (Acre.sgn_pos h2).symm, rfl⟩
    · go_enter Tryz.func152, Tryz.ntmps152
      go_wp2
      go_ret
      exact ⟨ret_int (Acre.sgn_zero (by omega) (by omega)).symm, rfl⟩
structure SmF (f : Acre.Fc) : Prop where
  n : -100000000 ≤ f.1 ∧ f.1 ≤ 100000000
  d : -100000000 ≤ f.2 ∧ f.2 ≤ 100000000
set_option maxHeartbeats 400000 in
theorem order_any (f h : Acre.Fc) (w : World) (hf : SmF f) (hh : SmF h) :
    Calls Tryz.prog 107 #[frV f, frV h] w fun e w' => e = .returned (.int .i64 (Acre.ordF f h)) ∧ Below w.heap.size w w' := by
  obtain ⟨⟨a1, a2⟩, ⟨a3, a4⟩⟩ := hf
  obtain ⟨⟨b1, b2⟩, ⟨b3, b4⟩⟩ := hh
  have m1 := Acre.mul_bd f.1 h.2 100000000 100000000 (by omega) (by omega)
  have m2 := Acre.mul_bd h.1 f.2 100000000 100000000 (by omega) (by omega)
  unfold frV
  go_enter Tryz.func107, Tryz.ntmps107
  go_wp2_with fail
  refine (signL_any _ _).mono ?_
  rintro e w2 ⟨rfl, h2⟩
  subst h2
  go_wp2
  go_ret
  exact ⟨rfl, below2 _ _ _⟩
set_option maxHeartbeats 400000 in
theorem mediant_any (f h : Acre.Fc) (w : World) (hf : -1000000 ≤ f.1 ∧ f.1 ≤ 1000000) (hf2 : 0 < f.2 ∧ f.2 ≤ 1000000) (hh : -1000000 ≤ h.1 ∧ h.1 ≤ 1000000) (hh2 : 0 < h.2 ∧ h.2 ≤ 1000000) :
    Calls Tryz.prog 109 #[frV f, frV h] w fun e w' => e = .returned (frV (Acre.mdn f h)) ∧ Below w.heap.size w w' := by
  unfold frV
  go_enter Tryz.func109, Tryz.ntmps109
  go_wp2_with fail
  refine (lowest_wide _ _ _ (by omega) (by omega) (by omega)).mono ?_
  rintro e w1 ⟨rfl, hb1⟩
  obtain ⟨hc, hf⟩ := bcell hb1
  have hz := hb1.size
  unfold frV
  go_wp2
  refine bodyPost_ret (v := frV (Acre.mdn f h)) ?_ rfl ⟨rfl, ?_⟩
  · simp [results, Tryz.results109, go_sem, hc, frV]
    exact ⟨rfl, rfl⟩
  · exact ((below_call hb1 (below3 _ _ _ _)).setCell (by simp; omega) _).setCell (by simp; omega) _
set_option maxHeartbeats 400000 in
theorem isUpright_any (e : Acre.Ed) (w : World) :
    Calls Tryz.prog 133 #[edV e] w fun r w' => r = .returned (.bool (Acre.upr e)) ∧ Below w.heap.size w w' := by
  unfold edV
  go_enter Tryz.func133, Tryz.ntmps133
  go_wp2
  go_ret
  exact ⟨ret_bool (by unfold Acre.upr; rfl), below1 _ _⟩
set_option maxHeartbeats 400000 in
theorem owner_any (lv : Value) (n k op : Int) (w : World) (ga : Option Addr) (len cap : Nat) (hl : lv = .slice ga len cap) :
    Calls Tryz.prog 84 #[.agg #[lv, .int .i64 k, .int .i64 op], .int .i64 n] w fun r w' => r = .returned (.int .i64 (if n < k then 0 else 1)) ∧ Below w.heap.size w w' := by
  subst hl
  by_cases h : n < k
  · go_enter Tryz.func84, Tryz.ntmps84
    go_wp2
    go_ret
    exact ⟨rfl, below1 _ _⟩
  · go_enter Tryz.func84, Tryz.ntmps84
    go_wp2
    go_ret
    exact ⟨rfl, below1 _ _⟩
set_option maxRecDepth 100000 in
set_option maxHeartbeats 1000000 in
theorem height_any (e : Acre.Ed) (x : Acre.Fc) (w : World) (he : SmE e) (hu : Acre.upr e = false) (hx : -100000 ≤ x.1 ∧ x.1 ≤ 100000) (hx2 : 0 < x.2 ∧ x.2 ≤ 10000) :
    Calls Tryz.prog 153 #[edV e, frV x] w fun r w' => r = .returned (frV (Acre.hgt e x)) ∧ Below w.heap.size w w' := by
  obtain ⟨⟨a, b⟩, ⟨c, d⟩⟩ := e
  obtain ⟨n, m⟩ := x
  obtain ⟨⟨a1, b1⟩, ⟨c1, d1⟩⟩ := he
  dsimp only at *
  have hd : c - a ≠ 0 := by unfold Acre.upr at hu; simp at hu; omega
  have m1 := Acre.mul_bd b (c - a) 100 100 (by omega) (by omega)
  have m1' := Acre.mul_bd b (c - a) 13 26 (by omega) (by omega)
  have m2 := Acre.mul_bd (b * (c - a)) m 338 10000 (by omega) (by omega)
  have m3 := Acre.mul_bd a m 100 10000 (by omega) (by omega)
  have m4 := Acre.mul_bd (n - a * m) (d - b) 1500000 30 (by omega) (by omega)
  have m5 := Acre.mul_bd (c - a) m 100 10000 (by omega) (by omega)
  have h0 : (c - a) * m ≠ 0 := Int.mul_ne_zero hd (by omega)
  unfold edV frV
  have x0 := ((Box.new w [.int .i64 a, .int .i64 b, .int .i64 c, .int .i64 d] 42).later (by simp) (below1 _ (.cells #[.int .i64 n, .int .i64 m] 38))).later (by simp) (below1 _ (.cells #[.int .i64 0, .int .i64 0] 38))
  have x1 := (Box.new (w.alloc (.cells #[.int .i64 a, .int .i64 b, .int .i64 c, .int .i64 d] 42)) [.int .i64 n, .int .i64 m] 38).later (by simp) (below1 _ (.cells #[.int .i64 0, .int .i64 0] 38))
  have x2 := Box.new ((w.alloc (.cells #[.int .i64 a, .int .i64 b, .int .i64 c, .int .i64 d] 42)).alloc (.cells #[.int .i64 n, .int .i64 m] 38)) [.int .i64 0, .int .i64 0] 38
  simp only [World.size_alloc] at x1 x2
  go_enter Tryz.func153, Tryz.ntmps153
  go_wp2_with fail
  refine (along_any _ _ _ _ _ (by omega) (by omega)).mono ?_
  rintro e w1 ⟨rfl, hb1⟩
  go_upto_region 2 with fail
  have q2 := below1 w1 (.cells #[.int .i64 (c - a), .int .i64 (d - b)] 40)
  have y0 := (x0.later (by simp) hb1).later (by simp) q2
  have y1 := (x1.later (by simp) hb1).later (by simp) q2
  have y2 := (x2.later (by simp) hb1).later (by simp) q2
  have y3 := Box.new w1 [.int .i64 (c - a), .int .i64 (d - b)] 40
  have hB := below_call q2 (below_call hb1 (below3 w _ _ _))
  clear x0 x1 x2 q2 hb1
  generalize w1.alloc (.cells #[.int .i64 (c - a), .int .i64 (d - b)] 40) = WP at *
  have c0 := y0.c 0 _ rfl
  have c1 := y0.c 1 _ rfl
  have c2 := y1.c 0 _ rfl
  have c3 := y1.c 1 _ rfl
  have c4 := y3.c 0 _ rfl
  have c5 := y3.c 1 _ rfl
  go_wp2_with fail
  refine (lowest_wide (b * (c - a) * m + (n - a * m) * (d - b)) ((c - a) * m) _ (by omega) (by omega) h0).mono ?_
  rintro e w2 ⟨rfl, hb2⟩
  have z2 := y2.later (by simp) hb2
  have r0 := z2.c 0 _ rfl
  have r1 := z2.c 1 _ rfl
  have f0 := z2.f 0 (by simp)
  have f1 := z2.f 1 (by simp)
  unfold frV
  go_wp2
  refine bodyPost_ret (v := frV (Acre.hgt ((a, b), (c, d)) (n, m))) ?_ rfl ⟨rfl, ?_⟩
  · simp [results, Tryz.results153, go_sem, r0, r1, frV]
    exact ⟨rfl, rfl⟩
  · exact ((below_call hb2 hB).setCell (by simp; omega) _).setCell (by simp; omega) _
set_option maxHeartbeats 1000000 in
theorem spans_any (e : Acre.Ed) (f t : Acre.Fc) (w : World) (he : SmE e) (hf : Fr f.1 f.2) (ht : Fr t.1 t.2) :
    Calls Tryz.prog 111 #[edV e, frV f, frV t] w fun r w' => r = .returned (.bool (Acre.spn e f t)) ∧ Below w.heap.size w w' := by
  obtain ⟨⟨a, b⟩, ⟨c, d⟩⟩ := e
  obtain ⟨f1, f2⟩ := f
  obtain ⟨t1, t2⟩ := t
  obtain ⟨⟨a1, b1⟩, ⟨c1, d1⟩⟩ := he
  obtain ⟨hxN, hxD⟩ := hf
  obtain ⟨hyN, hyD⟩ := ht
  dsimp only at *
  unfold edV frV Acre.spn
  dsimp only
  cases hb : Acre.btw f1 f2 a c
  · go_enter Tryz.func111, Tryz.ntmps111
    go_wp2_with (first | (go_at_call 104; refine (between_any _ _ _ _ _ (by omega) (mulOk _ _ (by assumption) (by assumption)) (mulOk _ _ (by assumption) (by assumption))).mono ?_; rintro e w' ⟨rfl, hb1⟩))
    go_ret
    exact ⟨rfl, below_call hb1 (below3 _ _ _ _)⟩
  · go_enter Tryz.func111, Tryz.ntmps111
    go_wp2_with fail
    refine (between_any _ _ _ _ _ (by omega) (mulOk _ _ (by assumption) (by assumption)) (mulOk _ _ (by assumption) (by assumption))).mono ?_
    rintro e w1 ⟨rfl, hb1⟩
    obtain ⟨hc, hf⟩ := bcell hb1
    have hz := hb1.size
    go_wp2_with fail
    refine (between_any _ _ _ _ _ (by omega) (mulOk _ _ (by assumption) (by assumption)) (mulOk _ _ (by assumption) (by assumption))).mono ?_
    rintro e w2 ⟨rfl, hb2⟩
    go_wp2
    go_ret
    exact ⟨by simp, below_call hb2 (below_call hb1 (below3 _ _ _ _))⟩
set_option maxRecDepth 100000 in
set_option maxHeartbeats 1000000 in
theorem keeps_any (lv : Value) (k op : Int) (a b : Nat) (w : World) (ga : Option Addr) (len cap : Nat) (hl : lv = .slice ga len cap) (ha : a ≤ 1000) (hb : b ≤ 1000) :
    Calls Tryz.prog 85 #[.agg #[lv, .int .i64 k, .int .i64 op], .agg #[.int .i64 a, .int .i64 b]] w fun r w' => r = .returned (.bool (Acre.keepsB op a b)) ∧ Below w.heap.size w w' := by
  subst hl
  have t1 : ((a : Int).tmod 2) = (a : Int) % 2 := Int.tmod_eq_emod_of_nonneg (by omega)
  have t2 : ((b : Int).tmod 2) = (b : Int) % 2 := Int.tmod_eq_emod_of_nonneg (by omega)
  have key : ∀ (x y : Bool), (a : Int) % 2 = (if x then 1 else 0) → (b : Int) % 2 = (if y then 1 else 0) → (a % 2 == 1) = x → (b % 2 == 1) = y → Calls Tryz.prog 85 #[.agg #[.slice ga len cap, .int .i64 k, .int .i64 op], .agg #[.int .i64 a, .int .i64 b]] w fun r w' => r = .returned (.bool (Acre.opK op x y)) ∧ Below w.heap.size w w' := by
    intro x y hx hy _ _
    rw [hx] at t1
    rw [hy] at t2
    have done : ∀ o : Int, op = o → ∀ r : Bool, Acre.opK op x y = r → ∀ e : Ending, e = .returned (.bool r) → e = .returned (.bool (Acre.opK op x y)) := fun o ho r hr e he => by rw [he, hr]
    by_cases o0 : op = 0
    · have hk : Acre.opK op x y = (x && y) := by unfold Acre.opK; rw [if_pos o0]
      rw [hk]
      subst o0
      clear done hk
      cases x <;> cases y <;> simp only [if_true, Bool.false_eq_true, if_false] at hx hy t1 t2 <;>
      · go_enter Tryz.func85, Tryz.ntmps85
        go_wp2_with fail
        go_region
        go_wp2
        go_ret
        exact ⟨rfl, (below2 _ _ _).drew⟩
    · by_cases o1 : op = 1
      · have hk : Acre.opK op x y = (x || y) := by unfold Acre.opK; rw [if_neg o0, if_pos o1]
        rw [hk]
        subst o1
        clear done hk o0
        cases x <;> cases y <;> simp only [if_true, Bool.false_eq_true, if_false] at hx hy t1 t2 <;>
        · go_enter Tryz.func85, Tryz.ntmps85
          go_wp2_with fail
          go_region
          go_wp2
          go_ret
          exact ⟨rfl, (below2 _ _ _).drew⟩
      · by_cases o2 : op = 2
        · have hk : Acre.opK op x y = (x && !y) := by unfold Acre.opK; rw [if_neg o0, if_neg o1, if_pos o2]
          rw [hk]
          subst o2
          clear done hk o0 o1
          cases x <;> cases y <;> simp only [if_true, Bool.false_eq_true, if_false] at hx hy t1 t2 <;>
          · go_enter Tryz.func85, Tryz.ntmps85
            go_wp2_with fail
            go_region
            go_wp2
            go_ret
            exact ⟨rfl, (below2 _ _ _).drew⟩
        · have hk : Acre.opK op x y = (x != y) := by unfold Acre.opK; rw [if_neg o0, if_neg o1, if_neg o2]
          rw [hk]
          clear done hk
          have p0 : (op == 0) = false := by simpa using o0
          have p1 : (op == 1) = false := by simpa using o1
          have p2 : (op == 2) = false := by simpa using o2
          cases x <;> cases y <;> simp only [if_true, Bool.false_eq_true, if_false] at hx hy t1 t2 <;>
          · go_enter Tryz.func85, Tryz.ntmps85
            go_wp2_with fail
            go_region
            go_wp2
            go_ret
            exact ⟨rfl, (below2 _ _ _).drew⟩
  unfold Acre.keepsB
  rcases Nat.mod_two_eq_zero_or_one a with h1 | h1 <;> rcases Nat.mod_two_eq_zero_or_one b with h2 | h2
  · have := key false false (by simp; omega) (by simp; omega) (by rw [h1]; rfl) (by rw [h2]; rfl)
    rw [h1, h2]; exact this
  · have := key false true (by simp; omega) (by simp; omega) (by rw [h1]; rfl) (by rw [h2]; rfl)
    rw [h1, h2]; exact this
  · have := key true false (by simp; omega) (by simp; omega) (by rw [h1]; rfl) (by rw [h2]; rfl)
    rw [h1, h2]; exact this
  · have := key true true (by simp; omega) (by simp; omega) (by rw [h1]; rfl) (by rw [h2]; rfl)
    rw [h1, h2]; exact this
end Go.Proofs.YtkjlkbgdkdcboaaGreatDoor
