import Derived.Test.YtkjlkbgdkdcboaaGreatDoorPuA
import Derived.Test.YtkjlkbgdkdcboaaGreatDoorNaA

set_option linter.unusedSimpArgs false
set_option linter.unusedVariables false

set_option linter.unusedSimpArgs false
set_option linter.unusedVariables false

namespace Go.Proofs.YtkjlkbgdkdcboaaGreatDoor.Ref
open Go.RowKit Go.Maps
attribute [local go_sem ↓] Go.wp_at_zero Go.wp_at_succ

def ptL (q : PcT) : List Value := q.cells.map (fun v => Value.int .i64 v)
def flatT (qs : List PcT) : List Value := qs.flatMap ptL
def toPc (E : List Acre.Ed) (q : PcT) : Acre.Pc := ((q.fr, q.tt), (Acre.gd E q.lo.toNat, Acre.gd E q.hi.toNat))
theorem row_t {w : World} {base g cap : Nat} {l : List PcT} (h : w.ownsRow base 93 11 (.slice (some ⟨g, 0, none⟩) l.length cap) l.length (flatT l)) (k : Nat) (hk : k < l.length) (j : Nat) (v : Int) (hv : l[k].cells[j]? = some v) : w.cell? ⟨g, k * 11 + j, none⟩ = some (.int .i64 v) := by
  have hj : j < 11 := by
    have := (List.getElem?_eq_some_iff.1 hv).1
    simpa [PcT.cells] using this
  have a := row_at (f := ptL) (m := 11) (fun _ => rfl) h k j hk hj
  rw [a]
  unfold ptL
  rw [List.getElem?_map, hv]
  rfl
/-- while the cuts are gathered -/
structure CuI (w wr : World) (v : Value) (L : List Acre.Fc) (n : Nat) : Prop where
  row : wr.ownsRow w.heap.size 90 2 v L.length (flatF L)
  bel : Below w.heap.size w wr
  mid : ∀ z ∈ L, Mid z
  len : L.length ≤ n
theorem CuI.call {w wr w' : World} {v : Value} {L : List Acre.Fc} {n : Nat} (h : CuI w wr v L n) (hb : Below wr.heap.size wr w') : CuI w w' v L n :=
  ⟨row_call h.row hb, below_call hb h.bel, h.mid, h.len⟩
theorem insF_len (f : Acre.Fc) : ∀ l : List Acre.Fc, (Acre.insF f l).length ≤ l.length + 1
  | [] => by simp [Acre.insF]
  | z :: r => by
    unfold Acre.insF
    split
    · simp
    · split
      · simp
      · have := insF_len f r
        simp; omega
theorem CuI.put {w wr w' : World} {v u : Value} {L : List Acre.Fc} {n : Nat} {f : Acre.Fc} (h : CuI w wr v L n) (hf : Mid f) (hrow : w'.ownsRow wr.heap.size 90 2 u (Acre.insF f L).length (flatF (Acre.insF f L))) (hb : Below wr.heap.size wr w') : CuI w w' u (Acre.insF f L) (n + 1) :=
  ⟨row_base hrow h.bel.size, below_call hb h.bel, fun z hz => by
    rcases (Acre.mem_insF f z L).1 hz with rfl | hz
    · exact hf
    · exact h.mid z hz, by have := insF_len f L; have := h.len; omega⟩
theorem mid_int {n : Int} (h : Sm n) : Mid (n, 1) := by unfold Mid; dsimp only; omega
theorem cross_eq (e f : Acre.Ed) : (if (crossB e f && (decide (-12 * (crossX e f).2 < (crossX e f).1) && decide ((crossX e f).1 < 12 * (crossX e f).2))) = true then some (crossX e f) else none) = Acre.crossR e f := by
  unfold crossB Acre.crossR
  have hd : (e.2.1 - e.1.1) * (f.2.2 - f.1.2) - (e.2.2 - e.1.2) * (f.2.1 - f.1.1) = Acre.turn e.1 e.2 f.1 f.2 := rfl
  have hx : crossX e f = Acre.crossX e.1.1 e.1.2 e.2.1 f.1.1 f.1.2 f.2.1 f.2.2 (Acre.turn e.1 e.2 f.1 f.2) := rfl
  rw [hd, hx]
  by_cases h1 : Acre.turn e.1 e.2 f.1 f.2 = 0
  · simp [h1]
  · by_cases h2 : e.2.1 - e.1.1 = 0
    · simp [h1, h2]
    · by_cases h3 : f.2.1 - f.1.1 = 0
      · simp [h1, h2, h3]
      · simp [h1, h2, h3]
theorem cross_mid {e f : Acre.Ed} (he : SmE e) (hf : SmE f) (h : crossB e f = true) : Mid (crossX e f) := by
  unfold crossB at h
  have ht : (e.2.1 - e.1.1) * (f.2.2 - f.1.2) - (e.2.2 - e.1.2) * (f.2.1 - f.1.1) ≠ 0 := by
    intro c
    simp [c] at h
  unfold crossX
  dsimp only
  obtain ⟨⟨a1, a2⟩, ⟨a3, a4⟩⟩ := he
  obtain ⟨⟨b1, b2⟩, ⟨b3, b4⟩⟩ := hf
  have m1 := mul_bd (p := e.2.1 - e.1.1) (q := f.2.2 - f.1.2) (P := 26) (Q := 26) (by omega) (by omega)
  have m2 := mul_bd (p := e.2.2 - e.1.2) (q := f.2.1 - f.1.1) (P := 26) (Q := 26) (by omega) (by omega)
  have m3 := mul_bd (p := f.1.1 - e.1.1) (q := f.2.2 - f.1.2) (P := 26) (Q := 26) (by omega) (by omega)
  have m4 := mul_bd (p := f.1.2 - e.1.2) (q := f.2.1 - f.1.1) (P := 26) (Q := 26) (by omega) (by omega)
  generalize hdd : (e.2.1 - e.1.1) * (f.2.2 - f.1.2) - (e.2.2 - e.1.2) * (f.2.1 - f.1.1) = d at *
  generalize hs : (f.1.1 - e.1.1) * (f.2.2 - f.1.2) - (f.1.2 - e.1.2) * (f.2.1 - f.1.1) = s at *
  have hd : -1352 ≤ d ∧ d ≤ 1352 := by omega
  have m5 := mul_bd (p := e.1.1) (q := d) (P := 13) (Q := 1352) a1 hd
  have m6 := mul_bd (p := s) (q := e.2.1 - e.1.1) (P := 1352) (Q := 26) (by omega) (by omega)
  have hb := Acre.low_bd (e.1.1 * d + s * (e.2.1 - e.1.1)) d
  have hsp := Acre.low_spec (e.1.1 * d + s * (e.2.1 - e.1.1)) d ht
  unfold Mid
  omega

theorem box_two (w : World) (n : Nat) (a b : Value) (h : Box w n [a, b]) (x y : Int) : Box ((w.setCell ⟨n, 0, none⟩ (.int .i64 x)).setCell ⟨n, 1, none⟩ (.int .i64 y)) n [.int .i64 x, .int .i64 y] := by
  have c0 := h.c 0 _ rfl
  have c1 := h.c 1 _ rfl
  have f0 := h.f 0 (by simp)
  have f1 := h.f 1 (by simp)
  refine ⟨fun k v hk => ?_, fun k hk => ?_⟩
  · match k, hk with
    | 0, hk => simp at hk; subst hk; simp [go_sem, c0]
    | 1, hk => simp at hk; subst hk; simp [go_sem, c1]
  · match k, hk with
    | 0, _ => simp [go_sem, f0]
    | 1, _ => simp [go_sem, f1]
theorem drew_box {wr w1 : World} (hb1 : Below (wr.alloc (.cells #[.int .i64 0, .int .i64 0] 90)).drew.heap.size (wr.alloc (.cells #[.int .i64 0, .int .i64 0] 90)).drew w1) : Box w1 wr.heap.size [.int .i64 0, .int .i64 0] :=
  ((Box.new wr [.int .i64 0, .int .i64 0] 90).later (by simp) (Below.drew (Below.refl _ _))).later (by simp) hb1

set_option maxRecDepth 100000 in
set_option maxHeartbeats 4000000 in
theorem cuts_any (E : List Acre.Ed) (qs : List PcT) (va vq : Value) (b1 b2 : Nat) (w : World) (hE : w.ownsRow b1 86 4 va E.length (flatE E)) (hQ : w.ownsRow b2 93 11 vq qs.length (flatT qs)) (hsm : ∀ e ∈ E, SmE e) (hla : E.length ≤ 24) (hq : ∀ q ∈ qs, Mid q.fr ∧ Mid q.tt) (hlq : qs.length ≤ 1000000) :
    Calls Tryz.prog 34 #[va, vq] w fun e w' => ∃ u, e = .returned u ∧ w'.ownsRow w.heap.size 90 2 u (Acre.cutR E (qs.map (toPc E))).length (flatF (Acre.cutR E (qs.map (toPc E)))) ∧ Below w.heap.size w w' ∧ ∀ z ∈ Acre.cutR E (qs.map (toPc E)), Mid z := by
  obtain ⟨ga, gb, gcap, rfl, hga⟩ := rowE_form hE
  obtain ⟨ha, hb, hcap, rfl, hha⟩ := rowE_form hQ
  obtain ⟨E0, hE0⟩ : ∃ l, (List.range E.length).foldl (fun l i => Acre.cutRi E i l) [((-12 : Int), (1 : Int)), (12, 1)] = l := ⟨_, rfl⟩
  have hfin : Acre.cutR E (qs.map (toPc E)) = (qs.map (toPc E)).foldl (fun l p => Acre.insF p.1.2 (Acre.insF p.1.1 l)) E0 := by unfold Acre.cutR; rw [hE0]
  have HFin := hide hfin
  have HE0 := hide hE0
  clear hfin hE0
  have hnew : CuI w (w.alloc (.cells #[.int .i64 (-12), .int .i64 1, .int .i64 12, .int .i64 1] 90)) (.slice (some ⟨w.heap.size, 0, none⟩) 2 2) [((-12 : Int), (1 : Int)), (12, 1)] 2 := by
    refine ⟨⟨rfl, .inr ⟨w.heap.size, 2, #[.int .i64 (-12), .int .i64 1, .int .i64 12, .int .i64 1], rfl, Nat.le_refl _, heap_alloc_new w _, Nat.le_refl _, by unfold maxLen; omega, rfl, rfl⟩⟩, below1 _ _, ?_, by simp⟩
    intro z hz
    simp at hz
    rcases hz with rfl | rfl
    · unfold Mid; dsimp only; omega
    · unfold Mid; dsimp only; omega
  go_enter Tryz.func34, Tryz.ntmps34
  go_wp2
  go_loopw [5, 6] (fun ov i wr => ∃ k : Nat, i = .int .i64 k ∧ k ≤ E.length ∧ Hid (CuI w wr ov ((List.range k).foldl (fun l i => Acre.cutRi E i l) [((-12 : Int), (1 : Int)), (12, 1)]) (2 + 25 * k))) (fun _ i _ => E.length - (intOf i).toNat)
  case atStart => exact ⟨0, rfl, Nat.zero_le _, hnew⟩
  case round =>
    obtain ⟨k, rfl, hk, hr⟩ := hrel
    by_cases hlt : k < E.length
    · obtain rfl := hga (by omega)
      obtain ⟨x0, x1, x2, x3⟩ := row_e hE k hlt
      have hsk : (List.range (k + 1)).foldl (fun l i => Acre.cutRi E i l) [((-12 : Int), (1 : Int)), (12, 1)] = Acre.cutRi E k ((List.range k).foldl (fun l i => Acre.cutRi E i l) [((-12 : Int), (1 : Int)), (12, 1)]) := by rw [List.range_succ, List.foldl_append]; rfl
      have hgd : Acre.gd E k = E[k] := by unfold Acre.gd; simp [List.getD, hlt]
      have hse := hsm E[k] (List.getElem_mem hlt)
      obtain ⟨L0, hL0⟩ : ∃ L, (List.range k).foldl (fun l i => Acre.cutRi E i l) [((-12 : Int), (1 : Int)), (12, 1)] = L := ⟨_, rfl⟩
      rw [hL0] at hr hsk
      obtain ⟨⟨⟨e0, e1⟩, ⟨e2, e3⟩⟩, he⟩ : ∃ e, E[k] = e := ⟨_, rfl⟩
      rw [he] at x0 x1 x2 x3 hgd hse
      have hcr : ∀ j, Acre.cutRk E k (j + 1) (Acre.insF (e0, 1) L0) = Acre.putO (Acre.cutRk E k j (Acre.insF (e0, 1) L0)) (Acre.crossR ((e0, e1), (e2, e3)) (Acre.gd E j)) := fun j => by
        unfold Acre.cutRk
        rw [List.range_succ, List.foldl_append, hgd]; rfl
      have hri : Acre.cutRi E k L0 = Acre.cutRk E k k (Acre.insF (e0, 1) L0) := by unfold Acre.cutRi; rw [hgd]
      rw [hri] at hsk
      have Hsk := hide hsk
      have Hcr := hide hcr
      have y0 := cell_later hr.out.bel x0
      have hsm0 := hse.1.1
      dsimp only at hsm0
      have hlen := hr.out.len
      have HP := hide (fun V v (h : V.ownsRow w.heap.size 90 2 v L0.length (flatF L0)) => put_any L0 (e0, 1) v w.heap.size V h hr.out.mid (mid_int hsm0) (by omega))
      unfold fcV at HP
      dsimp only at HP
      clear hL0 hsk hcr hri he hgd
      go_wp2_with fail
      refine (HP.out _ _ hr.out.row).mono ?_
      rintro e w1 ⟨u1, rfl, hrow1, hb1⟩
      have hI1 := hide (hr.out.put (mid_int hsm0) hrow1 hb1)
      clear hrow1 hb1 HP hr y0
      go_wp2
      go_loopw [5, 7] (fun ov i wr => ∃ j : Nat, i = .int .i64 j ∧ j ≤ k ∧ Hid (CuI w wr ov (Acre.cutRk E k j (Acre.insF (e0, 1) L0)) (2 + 25 * k + 1 + j))) (fun _ i _ => k - (intOf i).toNat)
      case atStart => exact ⟨0, rfl, Nat.zero_le _, hI1⟩
      case round =>
        obtain ⟨j, rfl, hj, hr⟩ := hrel
        by_cases hjl : j < k
        · obtain ⟨z0, z1, z2, z3⟩ := row_e hE j (by omega)
          have hsf := hsm (E[j]'(by omega)) (List.getElem_mem _)
          have hgj : Acre.gd E j = (E[j]'(by omega)) := by unfold Acre.gd; simp [List.getD, show j < E.length by omega]
          have hst := Hcr.out j
          rw [hgj] at hst
          obtain ⟨⟨⟨f0, f1⟩, ⟨f2, f3⟩⟩, hf⟩ : ∃ e, (E[j]'(by omega)) = e := ⟨_, rfl⟩
          rw [hf] at z0 z1 z2 z3 hsf hst
          have Hst := hide hst
          have a0 := cell_later hr.out.bel x0
          have a1 := cell_later hr.out.bel x1
          have a2 := cell_later hr.out.bel x2
          have a3 := cell_later hr.out.bel x3
          have c0 := cell_later hr.out.bel z0
          have c1 := cell_later hr.out.bel z1
          have c2 := cell_later hr.out.bel z2
          have c3 := cell_later hr.out.bel z3
          obtain ⟨⟨p1, p2⟩, ⟨p3, p4⟩⟩ := id hse
          obtain ⟨⟨p5, p6⟩, ⟨p7, p8⟩⟩ := id hsf
          dsimp only at p1 p2 p3 p4 p5 p6 p7 p8
          have HC := hide (fun V => rcrossing_any e0 e1 e2 e3 f0 f1 f2 f3 V p1 p2 p3 p4 p5 p6 p7 p8)
          have hlen2 := hr.out.len
          have hgl : gb < wr.heap.size := World.block_lt_of_cell? _ _ c0
          clear hst hf hgj z0 z1 z2 z3
          obtain ⟨x, y, cb, hans, hX, hXm, hyb⟩ : ∃ x y cb, (if crossB ((e0, e1), (e2, e3)) ((f0, f1), (f2, f3)) then crossV (crossX ((e0, e1), (e2, e3)) ((f0, f1), (f2, f3))) true else crossV (0, 0) false) = .tuple #[.agg #[.int .i64 x, .int .i64 y], .bool cb] ∧ (if (cb && (decide (-12 * y < x) && decide (x < 12 * y))) = true then some (x, y) else none) = Acre.crossR ((e0, e1), (e2, e3)) ((f0, f1), (f2, f3)) ∧ (cb = true → Mid (x, y)) ∧ (-70000000 ≤ y ∧ y ≤ 70000000) := by
            rw [← cross_eq]
            have hm := cross_mid hse hsf
            cases hcb : crossB ((e0, e1), (e2, e3)) ((f0, f1), (f2, f3))
            · exact ⟨0, 0, false, rfl, by simp, by simp, by omega⟩
            · have := hm hcb
              refine ⟨_, _, true, rfl, rfl, fun _ => this, ?_⟩
              have h := this.2
              omega
          rw [hans] at HC
          generalize Acre.crossR ((e0, e1), (e2, e3)) ((f0, f1), (f2, f3)) = cr at *
          have HX := hide hX
          have HXm := hide hXm
          clear hX hXm hans
          go_wp2_with fail
          go_region_with (first
            | (go_at_call 68; refine (HC.out _).mono ?_; rintro e w1 ⟨rfl, hb1⟩; first | (have bX := drew_box hb1; have k0 := bX.c 0 _ rfl; have k1 := bX.c 1 _ rfl; have k2 := bX.f 0 (by simp); have k3 := bX.f 1 (by simp)) | skip)
            | go_in)
          all_goals
            first
              | (have hI2 := (hr.out.call (below_call hb1 (Below.drew (Below.refl _ _)))).call (below1 w1 (.cells #[.int .i64 x, .int .i64 y] 90))
                 have bX2 := Box.new w1 [.int .i64 x, .int .i64 y] 90
                 clear hr hb1 a0 a1 a2 a3 c0 c1 c2 c3
                 generalize hV : w1.alloc (.cells #[.int .i64 x, .int .i64 y] 90) = V at *
                 generalize w1.heap.size = B at *)
              | (have hI2 := hr.out.call (((below_call hb1 (Below.drew (below1 wr _))).setCell (p := ⟨wr.heap.size, 0, none⟩) (Nat.le_refl _) (.int .i64 x)).setCell (p := ⟨wr.heap.size, 1, none⟩) (Nat.le_refl _) (.int .i64 y))
                 have bX2 := box_two _ _ _ _ bX x y
                 clear hr hb1 a0 a1 a2 a3 c0 c1 c2 c3 bX k0 k1 k2 k3
                 generalize hV : ((w1.setCell ⟨wr.heap.size, 0, none⟩ (.int .i64 x)).setCell ⟨wr.heap.size, 1, none⟩ (.int .i64 y)) = V at *
                 generalize wr.heap.size = B at *)
            clear hV
            have x0' := bX2.c 0 _ rfl
            have x1' := bX2.c 1 _ rfl
            have hlen3 := hI2.len
            have HI2 := hide hI2
            have s1 : IntKind.i64.wrap (-12 * y) = -12 * y := wrap_in _ (by omega)
            have s2 : IntKind.i64.wrap (12 * y) = 12 * y := wrap_in _ (by omega)
            have hno : (cb && (decide (-12 * y < x) && decide (x < 12 * y))) = false → Hid (CuI w V u5 (Acre.cutRk E k (j + 1) (Acre.insF (e0, 1) L0)) (2 + 25 * k + 1 + (j + 1))) := fun hh => by
              have hcr : cr = none := by rw [← HX.out, hh]; rfl
              rw [Hst.out, hcr]
              exact ⟨HI2.out.row, HI2.out.bel, HI2.out.mid, Nat.le_trans HI2.out.len (by omega)⟩
            have Hno := hide hno
            clear hI2 hno
            cases cb
            · have HN := Hno.out rfl
              clear Hno bX2
              go_wp2
              go_roundw
              case rel => exact ⟨j + 1, by go_num, by omega, HN⟩
              case measure => simp [intOf]; omega
            · by_cases h1 : -12 * y < x
              · by_cases h2 : x < 12 * y
                · have hmx := HXm.out rfl
                  have hcr : cr = some (x, y) := by rw [← HX.out]; simp [h1, h2]
                  have HP := hide (fun V v (h : V.ownsRow w.heap.size 90 2 v (Acre.cutRk E k j (Acre.insF (e0, 1) L0)).length (flatF (Acre.cutRk E k j (Acre.insF (e0, 1) L0)))) => put_any _ (x, y) v w.heap.size V h HI2.out.mid hmx (by omega))
                  unfold fcV at HP
                  dsimp only at HP
                  clear Hno
                  go_wp2_with fail
                  refine (HP.out _ _ HI2.out.row).mono ?_
                  rintro e w5 ⟨u9, rfl, hrow5, hb5⟩
                  have HN : Hid (CuI w w5 u9 (Acre.cutRk E k (j + 1) (Acre.insF (e0, 1) L0)) (2 + 25 * k + 1 + (j + 1))) := by
                    rw [Hst.out, hcr]
                    exact HI2.out.put hmx hrow5 hb5
                  clear hrow5 hb5 HP hcr bX2 x0' x1'
                  go_wp2
                  go_roundw
                  case rel => exact ⟨j + 1, by go_num, by omega, HN⟩
                  case measure => simp [intOf]; omega
                · have HN := Hno.out (by simp [h2])
                  clear Hno bX2
                  go_wp2
                  go_roundw
                  case rel => exact ⟨j + 1, by go_num, by omega, HN⟩
                  case measure => simp [intOf]; omega
              · have HN := Hno.out (by simp [h1])
                clear Hno bX2
                go_wp2
                go_roundw
                case rel => exact ⟨j + 1, by go_num, by omega, HN⟩
                case measure => simp [intOf]; omega
        · obtain rfl : j = k := by omega
          have HN : Hid (CuI w wr u5 ((List.range (j + 1)).foldl (fun l i => Acre.cutRi E i l) [((-12 : Int), (1 : Int)), (12, 1)]) (2 + 25 * (j + 1))) := by
            rw [Hsk.out]
            exact ⟨hr.out.row, hr.out.bel, hr.out.mid, by have := hr.out.len; omega⟩
          clear hr
          go_wp2
          go_roundw
          case rel => exact ⟨j + 1, by go_num, by omega, HN⟩
          case measure => simp [intOf]; omega
    · obtain rfl : k = E.length := by omega
      have hr1 := hr.out
      rw [HE0.out] at hr1
      have HR1 := hide hr1
      clear hr hr1 HE0
      go_wp2
      go_loopw [5, 10] (fun ov i wr => ∃ k : Nat, i = .int .i64 k ∧ k ≤ qs.length ∧ Hid (CuI w wr ov (((qs.take k).map (toPc E)).foldl (fun l p => Acre.insF p.1.2 (Acre.insF p.1.1 l)) E0) (2 + 25 * E.length + 2 * k))) (fun _ i _ => qs.length - (intOf i).toNat)
      case atStart => exact ⟨0, rfl, Nat.zero_le _, HR1⟩
      case round =>
        obtain ⟨k, rfl, hk, hr⟩ := hrel
        by_cases hlt : k < qs.length
        · obtain rfl := hha (by omega)
          have hcell := row_t hQ k hlt
          have hmq := hq qs[k] (List.getElem_mem hlt)
          have hst : ((qs.take (k + 1)).map (toPc E)).foldl (fun l p => Acre.insF p.1.2 (Acre.insF p.1.1 l)) E0 = Acre.insF qs[k].tt (Acre.insF qs[k].fr (((qs.take k).map (toPc E)).foldl (fun l p => Acre.insF p.1.2 (Acre.insF p.1.1 l)) E0)) := by
            rw [List.take_succ_eq_append_getElem hlt, List.map_append, List.foldl_append]; rfl
          obtain ⟨q, hqq⟩ : ∃ q, qs[k] = q := ⟨_, rfl⟩
          rw [hqq] at hcell hmq hst
          obtain ⟨⟨f1, f2⟩, ⟨t1, t2⟩, lo, hi, t0, ta, tb, tc⟩ := q
          dsimp only at hmq hst
          have Hst := hide hst
          generalize ((qs.take k).map (toPc E)).foldl (fun l p => Acre.insF p.1.2 (Acre.insF p.1.1 l)) E0 = L at *
          have m0 := cell_later hr.out.bel (hcell 0 f1 rfl)
          have m1 := cell_later hr.out.bel (hcell 1 f2 rfl)
          have m2 := cell_later hr.out.bel (hcell 2 t1 rfl)
          have m3 := cell_later hr.out.bel (hcell 3 t2 rfl)
          simp only [Nat.add_zero] at m0
          have hlen := hr.out.len
          have HP := hide (fun V v (h : V.ownsRow w.heap.size 90 2 v L.length (flatF L)) => put_any L (f1, f2) v w.heap.size V h hr.out.mid hmq.1 (by omega))
          have hmid2 : ∀ z ∈ Acre.insF (f1, f2) L, Mid z := fun z hz => by
            rcases (Acre.mem_insF _ z L).1 hz with rfl | hz
            · exact hmq.1
            · exact hr.out.mid z hz
          have hlen2 := insF_len (f1, f2) L
          have HP2 := hide (fun V v (h : V.ownsRow w.heap.size 90 2 v (Acre.insF (f1, f2) L).length (flatF (Acre.insF (f1, f2) L))) => put_any _ (t1, t2) v w.heap.size V h hmid2 hmq.2 (by omega))
          unfold fcV at HP HP2
          dsimp only at HP HP2
          clear hst hqq hcell hmid2
          go_wp2_with fail
          refine (HP.out _ _ hr.out.row).mono ?_
          rintro e w1 ⟨u1, rfl, hrow1, hb1⟩
          have hI1 := hr.out.put hmq.1 hrow1 hb1
          have n2 := cell_later hb1 m2
          have n3 := cell_later hb1 m3
          clear hr HP hrow1 hb1 m0 m1 m2 m3
          go_wp2_with fail
          refine (HP2.out _ _ hI1.row).mono ?_
          rintro e w2 ⟨u2, rfl, hrow2, hb2⟩
          have HN : Hid (CuI w w2 u2 (((qs.take (k + 1)).map (toPc E)).foldl (fun l p => Acre.insF p.1.2 (Acre.insF p.1.1 l)) E0) (2 + 25 * E.length + 2 * (k + 1))) := by
            rw [Hst.out]
            exact hI1.put hmq.2 hrow2 hb2
          clear hI1 HP2 hrow2 hb2 n2 n3
          go_wp2
          go_roundw
          case rel => exact ⟨k + 1, by go_num, by omega, HN⟩
          case measure => simp [intOf]; omega
        · obtain rfl : k = qs.length := by omega
          have hr1 := hr.out
          rw [List.take_length] at hr1
          have HR2 := hide hr1
          clear hr hr1 HR1
          go_wp2
          go_ret
          rw [HFin.out]
          exact ⟨_, rfl, HR2.out.row, HR2.out.bel, HR2.out.mid⟩

end Go.Proofs.YtkjlkbgdkdcboaaGreatDoor.Ref

