import Derived.Test.YtkjlkbgdkdcboaaGreatDoorC6
import Derived.Test.YtkjlkbgdkdcboaaGreatDoorJoinW
import Derived.Test.YtkjlkbgdkdcboaaGreatDoorMC
import Derived.Test.YtkjlkbgdkdcboaaGreatDoorFI
import Derived.Test.YtkjlkbgdkdcboaaGreatDoorMB
import Derived.Laws.AppendOwnNone

set_option linter.unusedSimpArgs false
set_option linter.unusedVariables false

set_option linter.unusedSimpArgs false
set_option linter.unusedVariables false
namespace Go.Proofs.YtkjlkbgdkdcboaaGreatDoor
open Go.RowKit Go.Maps Go.Shelf
attribute [local go_sem] Oper.semAt_some
theorem enter86 (args : Array Value) (w : World) : (callFunc 58 args).run Tryz.prog w = .ok (.enter 58 args) w := by
  simp [go_sem, Tryz.func58]
end Go.Proofs.YtkjlkbgdkdcboaaGreatDoor
namespace Go.Proofs.YtkjlkbgdkdcboaaGreatDoor
open Go.RowKit Go.Maps
attribute [local go_sem ↓] Go.wp_at_zero Go.wp_at_succ
theorem edges_len {R : List (List Acre.Pt)} (h : Acre.fieldOk R = true) : (Acre.edgesOf R).length ≤ 12 := by
  have h2 := fieldOk_len h
  have hk := fieldOk_ring h
  match R, h2 with
  | [], _ => simp [Acre.edgesOf]
  | [a], _ => have := hk 0 (by simp); simp [Acre.edgesOf, Acre.edgesTo] at *; omega
  | [a, b], _ => have := hk 0 (by simp); have := hk 1 (by simp); simp [Acre.edgesOf, Acre.edgesTo] at *; omega
end Go.Proofs.YtkjlkbgdkdcboaaGreatDoor
namespace Go.Proofs.YtkjlkbgdkdcboaaGreatDoor
open Go.RowKit Go.Maps Go.Shelf
attribute [local go_sem] Oper.semAt_some
theorem wpList_append_rows {P : Program} {w : World} {ops : Array Oper} {rest : List Oper} {o : Oper} {a : Act} {Q : Exit → Act → World → Prop} (hgd : o.guard = none) (s x : Operand) (t : TypeId)
    (ho : o.op = .call { callee := .builtin .append, args := #[s, x], argTypes := #[t, t] })
    (base : Nat) (e : TypeId) (i : TypeInfo) (z : Value) (size bytes : Nat) (ht : P.underlying t = some (.slice e)) (hi : P.info? e = some i) (hz : i.zero = some z)
    (hsize : i.size = size) (hby : i.bytes = bytes) (hzs : z.cells.size = size) (hsz : 0 < size)
    (v : Value) (n : Nat) (xs : List Value) (hs : a.eval s = v) (hown : w.ownsRow base e size v n xs)
    (u : Value) (base2 m : Nat) (ys : List Value) (hx : a.eval x = u) (hown2 : w.ownsRow base2 e size u m ys) (h1 : ∀ y ∈ ys, y.oneCell' = true)
    (h63 : n + m ≤ maxLen) (hbytes : (n + m) * bytes ≤ 140737488355328) (hbase : base ≤ w.heap.size)
    (h : ∀ v' w', w'.ownsRow base e size v' (n + m) (xs ++ ys) → w.grownBy w' v.ownBlock → wpList P ops Q rest (a.put o.dst v') w') :
    wpList P ops Q (o :: rest) a w := by
  have hl := hown2.1
  rcases hown2.2 with ⟨rfl, rfl⟩ | ⟨g, cap, cur, rfl, _⟩
  · obtain rfl : ys = [] := List.eq_nil_of_length_eq_zero (by simpa using hl)
    refine wpList_append_own_none hgd s x t ho base e i size ht hi v n xs hs hown hx ?_
    exact h v w (by simpa using hown) ⟨rfl, rfl, rfl, Nat.le_refl _, fun _ _ _ => rfl⟩
  · refine wpList_append_own_at _ hgd s x t ho base e i z size bytes ht hi hz hsize hby hzs hsz v n xs hs hown ⟨g, 0, none⟩ m cap ys hx hl (fun j y hj => ?_) h1 h63 hbytes hbase (fun v' w' h2 h3 _ _ => h v' w' h2 h3)
    have hjl : j < m * size := by rw [← hl]; exact (List.getElem?_eq_some_iff.1 hj).1
    have := hown2.cellAt j hjl
    rw [hj] at this
    by_cases h0 : j = 0
    · subst h0; simpa [Addr.add] using this
    · simpa [Addr.add, h0] using this
theorem flatE_one (E : List Acre.Ed) : ∀ y ∈ flatE E, y.oneCell' = true := by
  intro y hy
  unfold flatE at hy
  obtain ⟨e, _, he⟩ := List.mem_flatMap.1 hy
  simp at he
  rcases he with rfl | rfl | rfl | rfl <;> rfl
def errP (a b : ByteArray) (op : Int) : Int × Int :=
  if (readP a).2.1 = 0 then if (readP b).2.1 = 0 then if op < 0 ∨ 3 < op then (6, 0) else (0, 0) else ((readP b).2.1, wrap64 ((readP b).2.2 + 1000)) else (readP a).2
def pairE (a b : ByteArray) : List Acre.Ed := Acre.edgesOf (readP a).1 ++ Acre.edgesOf (readP b).1
structure PairPost (a b : ByteArray) (op : Int) (w : World) (pv : Value) (w' : World) : Prop where
  bel : Below w.heap.size w w'
  form : ∃ (sp : Option Addr) (n c : Nat) (k o : Int), pv = .agg #[.slice sp n c, .int .i64 k, .int .i64 o]
  yes : (errP a b op).1 = 0 → ∃ u, pv = .agg #[u, .int .i64 (Acre.edgesOf (readP a).1).length, .int .i64 op] ∧ w'.ownsRow w.heap.size 42 4 u (pairE a b).length (flatE (pairE a b))
set_option maxRecDepth 100000 in
set_option maxHeartbeats 2000000 in
theorem readPair_any (a b : ByteArray) (op : Int) (w : World) : Calls Tryz.prog 13 #[.string a, .string b, .int .i64 op] w fun e w' => ∃ pv, e = .returned (.tuple #[pv, .int .i64 (errP a b op).1, .int .i64 (errP a b op).2]) ∧ PairPost a b op w pv w' := by
  obtain ⟨i0, hi, hz0, hz1, hz2⟩ := info_parts info46
  have HA := hide (fun V => read_any a V)
  have HB := hide (fun V => read_any b V)
  unfold ReadPost at HA HB
  by_cases ha : (readP a).2.1 = 0
  · by_cases hb : (readP b).2.1 = 0
    · by_cases ho : op < 0 ∨ 3 < op
      · have he : Hid (errP a b op = (6, 0)) := hide (by unfold errP; rw [if_pos ha, if_pos hb, if_pos ho])
        obtain ⟨X, hX⟩ : ∃ X, readP a = X := ⟨_, rfl⟩
        obtain ⟨Y, hY⟩ : ∃ Y, readP b = Y := ⟨_, rfl⟩
        rw [hX] at HA ha
        rw [hY] at HB hb
        obtain ⟨R, c, at'⟩ := X
        obtain ⟨S, d, at2⟩ := Y
        dsimp only at HA HB ha hb
        subst ha
        subst hb
        go_enter Tryz.func13, Tryz.ntmps13
        have q1 := below1 w (.cells #[.slice none 0 0, .int .i64 0, .int .i64 0] 48)
        have bb := Box.new w [.slice none 0 0, .int .i64 0, .int .i64 0] 48
        go_upto_region 1 with fail
        generalize w.alloc (.cells #[.slice none 0 0, .int .i64 0, .int .i64 0] 48) = W0 at *
        have hs0 := bb.lt (by simp)
        go_upto_region 4 with (first | (go_at_call 23; refine (HA.out W0).mono ?_; rintro e w1 ⟨u, rfl, hA, hb1⟩) | go_in)
        go_upto_region 7 with (first | (go_at_call 23; refine (HB.out w1).mono ?_; rintro e w2 ⟨u2, rfl, hA2, hb2⟩) | go_in)
        have bx := (bb.later (by simp) hb1).later (by simp) hb2
        have ho2 : op < 0 ∨ (0 ≤ op ∧ 3 < op) := by omega
        have HB1 := hide (below_call hb2 (below_call hb1 q1))
        have k0 := bx.c 0 _ rfl
        have k1 := bx.c 1 _ rfl
        have k2 := bx.c 2 _ rfl
        have g0 := bx.f 0 (by simp)
        have g1 := bx.f 1 (by simp)
        have g2 := bx.f 2 (by simp)
        clear bx bb
        rcases ho2 with ho2 | ⟨ho2, ho3⟩
        all_goals
          go_wp2
          refine bodyPost_ret (v := .tuple #[.agg #[.slice none 0 0, .int .i64 0, .int .i64 0], .int .i64 6, .int .i64 0]) ?_ rfl ⟨_, by rw [he.out], ?_⟩
          · simp [results, Tryz.results13, go_sem, k0, k1, k2]
          · exact ⟨((HB1.out.setCell (p := ⟨w.heap.size, 0, none⟩) (Nat.le_refl _) _).setCell (p := ⟨w.heap.size, 0 + 1, none⟩) (Nat.le_refl _) _).setCell (p := ⟨w.heap.size, 0 + 1 + 1, none⟩) (Nat.le_refl _) _, ⟨_, _, _, _, _, rfl⟩, fun h0 => by rw [he.out] at h0; exact absurd h0 (by simp)⟩
      · have he : Hid (errP a b op = (0, 0)) := hide (by unfold errP; rw [if_pos ha, if_pos hb, if_neg ho])
        have fa := read_field ha
        have fb := read_field hb
        have la := edges_len fa
        have lb := edges_len fb
        have hpe : Hid (pairE a b = Acre.edgesOf (readP a).1 ++ Acre.edgesOf (readP b).1) := hide rfl
        obtain ⟨X, hX⟩ : ∃ X, readP a = X := ⟨_, rfl⟩
        obtain ⟨Y, hY⟩ : ∃ Y, readP b = Y := ⟨_, rfl⟩
        rw [hX] at HA ha fa la hpe
        rw [hY] at HB hb fb lb hpe
        have HX := hide hX
        clear hX hY
        obtain ⟨R, c, at'⟩ := X
        obtain ⟨S, d, at2⟩ := Y
        dsimp only at HA HB ha hb fa fb la lb hpe
        subst ha
        subst hb
        obtain ⟨EA, hEA⟩ : ∃ EA, Acre.edgesOf R = EA := ⟨_, rfl⟩
        obtain ⟨EB, hEB⟩ : ∃ EB, Acre.edgesOf S = EB := ⟨_, rfl⟩
        have HEA := hide (fun (V : World) (v : Value) (h : Rings V v R) => edgesOf_any R v V h fa)
        have HEB := hide (fun (V : World) (v : Value) (h : Rings V v S) => edgesOf_any S v V h fb)
        have HEq := hide hEA
        rw [hEA] at la hpe HEA
        rw [hEB] at lb hpe HEB
        clear hEA hEB fa fb
        go_enter Tryz.func13, Tryz.ntmps13
        have q1 := below1 w (.cells #[.slice none 0 0, .int .i64 0, .int .i64 0] 48)
        have bb := Box.new w [.slice none 0 0, .int .i64 0, .int .i64 0] 48
        go_upto_region 1 with fail
        generalize w.alloc (.cells #[.slice none 0 0, .int .i64 0, .int .i64 0] 48) = W0 at *
        have hs0 := bb.lt (by simp)
        go_upto_region 4 with (first | (go_at_call 23; refine (HA.out W0).mono ?_; rintro e w1 ⟨u, rfl, hA, hb1⟩) | go_in)
        go_upto_region 7 with (first | (go_at_call 23; refine (HB.out w1).mono ?_; rintro e w2 ⟨u2, rfl, hA2, hb2⟩) | go_in)
        have bx := (bb.later (by simp) hb1).later (by simp) hb2
        have HR1 := hide (hA.rings.later hb2)
        have HR2 := hide hA2.rings
        have HB1 := hide (below_call hb2 (below_call hb1 q1))
        have hws : w.heap.size < w2.heap.size := bx.lt (by simp)
        clear hA hA2 hb1 hb2 bb
        have ho2 : ¬ op < 0 := by omega
        have ho3 : ¬ 3 < op := by omega
        go_upto_region 10 with (first | (go_at_call 24; refine (HEA.out w2 u HR1.out).mono ?_; rintro e w3 ⟨v3, rfl, hrow3, hb3⟩) | go_in)
        have bx3 := bx.later (by simp) hb3
        have hr2 := HR2.out.later hb3
        obtain ⟨xa, xb, xcap, rfl, hxa, _⟩ := row_form hrow3
        go_wp2_with (first
          | (go_at_call 24; refine (HEB.out w3 u2 hr2).mono ?_; rintro e w4 ⟨v4, rfl, hrow4, hb4⟩)
          | (at_builtin; refine wpList_append_rows rfl _ _ 46 rfl w2.heap.size 42 i0 _ 4 32 Tryz.underlying46 hi hz0 hz1 hz2 rfl (by decide) _ _ _ rfl (row_call hrow3 hb4) _ _ _ _ rfl hrow4 (flatE_one EB) (by unfold maxLen; omega) (by omega) (by have := hb3.size; have := hb4.size; omega) ?_; intro v5 w5 hrow5 hg5; obtain ⟨ya, yb, ycap, rfl, hya, _⟩ := row_form hrow5; have bx5 := (bx3.later (by simp) hb4).kept (by simp) hg5 (fun e => by have := (hrow3.lt _ e).1; omega); have k0 := bx5.c 0 _ rfl; have k1 := bx5.c 1 _ rfl; have k2 := bx5.c 2 _ rfl; have g0 := bx5.f 0 (by simp); have g1 := bx5.f 1 (by simp); have g2 := bx5.f 2 (by simp); have HH := hide (And.intro hrow5 hg5); clear hrow5 hg5 bx5)
          | go_in)
        refine bodyPost_ret (v := .tuple #[.agg #[.slice ya (EA.length + EB.length) ycap, .int .i64 EA.length, .int .i64 op], .int .i64 0, .int .i64 0]) ?_ rfl ⟨_, by rw [he.out], ?_⟩
        · simp [results, Tryz.results13, go_sem, k0, k1, k2]
        · have hB5 : Below w.heap.size w w5 := (below_call hb4 (below_call hb3 HB1.out)).grown HH.out.2 (by have := hb3.size; have := hb4.size; omega) (fun k e => by have := (hrow3.lt k e).1; omega)
          refine ⟨((hB5.setCell (p := ⟨w.heap.size, 0, none⟩) (Nat.le_refl _) _).setCell (p := ⟨w.heap.size, 0 + 1, none⟩) (Nat.le_refl _) _).setCell (p := ⟨w.heap.size, 0 + 1 + 1, none⟩) (Nat.le_refl _) _, ⟨_, _, _, _, _, rfl⟩, fun _ => ⟨.slice ya (EA.length + EB.length) ycap, ?_, ?_⟩⟩
          · rw [HX.out]
            dsimp only
            rw [HEq.out]
          · have e : flatE (EA ++ EB) = flatE EA ++ flatE EB := by unfold flatE; rw [List.flatMap_append]
            rw [hpe.out, List.length_append, e]
            exact row_base (ownsRow_setCell_below (a := ⟨w.heap.size, 0 + 1 + 1, none⟩) (ownsRow_setCell_below (a := ⟨w.heap.size, 0 + 1, none⟩) (ownsRow_setCell_below (a := ⟨w.heap.size, 0, none⟩) HH.out.1 hws _) hws _) hws _) (by omega)
    · have he : Hid (errP a b op = ((readP b).2.1, wrap64 ((readP b).2.2 + 1000))) := hide (by unfold errP; rw [if_pos ha, if_neg hb])
      obtain ⟨X, hX⟩ : ∃ X, readP a = X := ⟨_, rfl⟩
      obtain ⟨Y, hY⟩ : ∃ Y, readP b = Y := ⟨_, rfl⟩
      rw [hX] at HA ha
      rw [hY] at HB he hb
      obtain ⟨R, c, at'⟩ := X
      obtain ⟨S, d, at2⟩ := Y
      dsimp only at HA HB he ha hb
      subst ha
      go_enter Tryz.func13, Tryz.ntmps13
      have q1 := below1 w (.cells #[.slice none 0 0, .int .i64 0, .int .i64 0] 48)
      have bb := Box.new w [.slice none 0 0, .int .i64 0, .int .i64 0] 48
      go_upto_region 1 with fail
      generalize w.alloc (.cells #[.slice none 0 0, .int .i64 0, .int .i64 0] 48) = W0 at *
      have hs0 := bb.lt (by simp)
      go_upto_region 4 with (first | (go_at_call 23; refine (HA.out W0).mono ?_; rintro e w1 ⟨u, rfl, hA, hb1⟩) | go_in)
      go_upto_region 6 with (first | (go_at_call 23; refine (HB.out w1).mono ?_; rintro e w2 ⟨u2, rfl, hA2, hb2⟩) | go_in)
      have bx := (bb.later (by simp) hb1).later (by simp) hb2
      have k0 := bx.c 0 _ rfl
      have k1 := bx.c 1 _ rfl
      have k2 := bx.c 2 _ rfl
      have g0 := bx.f 0 (by simp)
      have g1 := bx.f 1 (by simp)
      have g2 := bx.f 2 (by simp)
      have HB1 := hide (below_call hb2 (below_call hb1 q1))
      clear bx bb
      go_wp2
      refine bodyPost_ret (v := .tuple #[.agg #[.slice none 0 0, .int .i64 0, .int .i64 0], .int .i64 d, .int .i64 (wrap64 (at2 + 1000))]) ?_ rfl ⟨_, by rw [he.out], ?_⟩
      · simp [results, Tryz.results13, go_sem, k0, k1, k2]
      · exact ⟨((HB1.out.setCell (p := ⟨w.heap.size, 0, none⟩) (Nat.le_refl _) _).setCell (p := ⟨w.heap.size, 0 + 1, none⟩) (Nat.le_refl _) _).setCell (p := ⟨w.heap.size, 0 + 1 + 1, none⟩) (Nat.le_refl _) _, ⟨_, _, _, _, _, rfl⟩, fun h0 => by rw [he.out] at h0; exact absurd h0 (by simp [*])⟩
  · have he : Hid (errP a b op = (readP a).2) := hide (by unfold errP; rw [if_neg ha])
    obtain ⟨X, hX⟩ : ∃ X, readP a = X := ⟨_, rfl⟩
    rw [hX] at HA he ha
    obtain ⟨R, c, at'⟩ := X
    dsimp only at HA he ha
    go_enter Tryz.func13, Tryz.ntmps13
    have q1 := below1 w (.cells #[.slice none 0 0, .int .i64 0, .int .i64 0] 48)
    have bb := Box.new w [.slice none 0 0, .int .i64 0, .int .i64 0] 48
    go_upto_region 1 with fail
    generalize w.alloc (.cells #[.slice none 0 0, .int .i64 0, .int .i64 0] 48) = W0 at *
    have hs0 := bb.lt (by simp)
    go_upto_region 3 with (first | (go_at_call 23; refine (HA.out W0).mono ?_; rintro e w1 ⟨u, rfl, hA, hb1⟩) | go_in)
    have bx := bb.later (by simp) hb1
    have k0 := bx.c 0 _ rfl
    have k1 := bx.c 1 _ rfl
    have k2 := bx.c 2 _ rfl
    have g0 := bx.f 0 (by simp)
    have g1 := bx.f 1 (by simp)
    have g2 := bx.f 2 (by simp)
    have HB1 := hide (below_call hb1 q1)
    clear bx bb
    go_wp2
    refine bodyPost_ret (v := .tuple #[.agg #[.slice none 0 0, .int .i64 0, .int .i64 0], .int .i64 c, .int .i64 at']) ?_ rfl ⟨_, by rw [he.out], ?_⟩
    · simp [results, Tryz.results13, go_sem, k0, k1, k2]
    · exact ⟨((HB1.out.setCell (p := ⟨w.heap.size, 0, none⟩) (Nat.le_refl _) _).setCell (p := ⟨w.heap.size, 0 + 1, none⟩) (Nat.le_refl _) _).setCell (p := ⟨w.heap.size, 0 + 1 + 1, none⟩) (Nat.le_refl _) _, ⟨_, _, _, _, _, rfl⟩, fun h0 => by rw [he.out] at h0; exact absurd h0 (by simp [*])⟩
end Go.Proofs.YtkjlkbgdkdcboaaGreatDoor
