import Derived.Test.YtkjlkbgdkdcboaaGreatDoorSuB
import Derived.Test.YtkjlkbgdkdcboaaGreatDoorGyA
import Derived.Maps.RangeWalk

set_option linter.unusedSimpArgs false
set_option linter.unusedVariables false

set_option linter.unusedSimpArgs false
set_option linter.unusedVariables false

namespace Go.Proofs.YtkjlkbgdkdcboaaGreatDoor
open Go.RowKit Go.Maps Go.Shelf
attribute [local go_sem] Oper.semAt_some

theorem rk_lt {E : List Acre.Ed} {x : Acre.Fc} {e : Acre.Ed} (h : e ∈ E ∧ Acre.upr e = false) : Acre.rk E x e < (Acre.hts E x).length := by
  unfold Acre.rk
  refine List.idxOf_lt_length_iff.2 ?_
  unfold Acre.hts
  rw [Acre.mem_sortD]
  exact List.mem_map.2 ⟨e, List.mem_filter.2 ⟨h.1, by simp [h.2]⟩, rfl⟩
theorem rankTo_all {E : List Acre.Ed} {x : Acre.Fc} {e : Acre.Ed} (h : e ∈ E ∧ Acre.upr e = false) : rankTo E x (Acre.hts E x).length e = some (.int .i64 (Acre.rk E x e)) := by
  unfold rankTo
  rw [if_pos ⟨h.1, h.2, rk_lt h⟩]
theorem made_int (w : World) (n : Nat) (hn : n ≤ 1000) (base : Nat) (hb : base ≤ w.heap.size) : ∃ w', (Instr.makeSlice 227 (.int .i64 (n : Int)) (.int .i64 (n : Int))).run Tryz.prog w = .ok (.slice (some ⟨w.heap.size, 0, none⟩) n n) w' ∧ w'.ownsRow base 3 1 (.slice (some ⟨w.heap.size, 0, none⟩) n n) n (rowI n (fun _ => 0)) ∧ w.grownBy w' none ∧ w'.heap.size = w.heap.size + 1 := by
  obtain ⟨i0, hi, hz0, hz1, hz2⟩ := info_parts info3
  have h := run_make (P := Tryz.prog) w 227 3 i0 _ Tryz.underlying227 hi hz0 .i64 .i64 n n (by omega) (Int.le_refl _) (by rw [hz2]; omega) (by omega)
  simp only [Int.toNat_natCast, hz1, Nat.mul_one] at h
  refine ⟨_, h, ?_, World.grownBy_alloc w _ none, by simp⟩
  have := World.ownsRow_lit (e := 3) (size := 1) w (madeCells (Value.int IntKind.i64 0).cells n) n hb (by unfold maxLen; omega) (by rw [size_madeCells]; omega)
  rw [show (madeCells (Value.int IntKind.i64 0).cells n).toList = rowI n (fun _ => 0) by rw [← rowI_zero]; exact toList_madeCells_one _ _] at this
  exact this
theorem mv_held {D : DataW Value} {w : World} {tb n : Nat} {T : Acre.Ed × Acre.Ed → Option Int} (h : MV w 106 keB WfB tb n D (fun b => (T b).map (fun k => .int .i64 k))) {x : Acre.Ed × Acre.Ed} (hx : WfB x) {c : Value} {y : DataW Value × List MemPlace} (hv : Raw c = some y) (hat : ∀ zd, D.atKey (keB x) zd = y.1) : ∃ k, T x = some k ∧ c = .int .i64 k := by
  have hy : y.1 = .held c := by unfold Raw at hv; simp at hv; rw [← hv]
  have a1 := (h.at' x hx (.bool true)).symm.trans (hat _)
  have a2 := (h.at' x hx (.bool false)).symm.trans (hat _)
  rw [hy] at a1 a2
  cases hT : T x with
  | none =>
    rw [hT] at a1 a2
    simp at a1 a2
    rw [← a1] at a2
    simp at a2
  | some k =>
    rw [hT] at a1
    simp at a1
    exact ⟨k, rfl, a1.symm⟩
/-- is the slab filled, by the bands that have come? -/
def okS (E : List Acre.Ed) (kk : Nat) (op : Int) (f t : Acre.Fc) (ks : List (Acre.Ed × Acre.Ed)) (T : Acre.Ed × Acre.Ed → Int) : Bool :=
  (List.range (Acre.hts E (Acre.mdn f t)).length).all (fun i => sumT ks T (aboT E (Acre.mdn f t) i) == Acre.dueP E kk op f t i && (!(Acre.spAt E f t ((Acre.hts E (Acre.mdn f t)).getD i (0, 0))).isEmpty || sumT ks T (acrT E (Acre.mdn f t) i) == Acre.dueP E kk op f t i))

def okAt (E : List Acre.Ed) (kk : Nat) (op : Int) (f t : Acre.Fc) (ks : List (Acre.Ed × Acre.Ed)) (T : Acre.Ed × Acre.Ed → Int) (i : Nat) : Bool :=
  sumT ks T (aboT E (Acre.mdn f t) i) == Acre.dueP E kk op f t i && (!(Acre.spAt E f t ((Acre.hts E (Acre.mdn f t)).getD i (0, 0))).isEmpty || sumT ks T (acrT E (Acre.mdn f t) i) == Acre.dueP E kk op f t i)
theorem okS_no {E : List Acre.Ed} {kk : Nat} {op : Int} {f t : Acre.Fc} {ks : List (Acre.Ed × Acre.Ed)} {T : Acre.Ed × Acre.Ed → Int} {i : Nat} (hi : i < (Acre.hts E (Acre.mdn f t)).length) (h : okAt E kk op f t ks T i = false) : okS E kk op f t ks T = false := by
  unfold okS
  rw [List.all_eq_false]
  exact ⟨i, List.mem_range.2 hi, by unfold okAt at h; rw [h]; simp⟩
theorem okS_yes {E : List Acre.Ed} {kk : Nat} {op : Int} {f t : Acre.Fc} {ks : List (Acre.Ed × Acre.Ed)} {T : Acre.Ed × Acre.Ed → Int} (h : ∀ i, i < (Acre.hts E (Acre.mdn f t)).length → okAt E kk op f t ks T i = true) : okS E kk op f t ks T = true := by
  unfold okS
  rw [List.all_eq_true]
  exact fun i hi => h i (List.mem_range.1 hi)
theorem okAt_lay {E : List Acre.Ed} {kk : Nat} {op : Int} {f t : Acre.Fc} {ks : List (Acre.Ed × Acre.Ed)} {T : Acre.Ed × Acre.Ed → Int} {i : Nat} (hi : i < (layersP E kk op f t).length) :
    okAt E kk op f t ks T i = (sumT ks T (aboT E (Acre.mdn f t) i) == (if ((layersP E kk op f t).getD i (Acre.zed, true, false)).2.2 = true then 1 else 0) && (!((layersP E kk op f t).getD i (Acre.zed, true, false)).2.1 || sumT ks T (acrT E (Acre.mdn f t) i) == (if ((layersP E kk op f t).getD i (Acre.zed, true, false)).2.2 = true then 1 else 0))) := by
  have e : (layersP E kk op f t).getD i (Acre.zed, true, false) = layAt E kk op f t i := by
    have hi2 := hi
    unfold layersP layTo at hi2 ⊢
    simp at hi2
    simp [hi2]
  rw [e]
  rfl
set_option maxRecDepth 100000 in
set_option maxHeartbeats 8000000 in
theorem slabFilled_any (E : List Acre.Ed) (kk : Nat) (op : Int) (f1 f2 t1 t2 : Int) (n₀ rb tb n : Nat) (lv : Value) (D : DataW Value) (T : Acre.Ed × Acre.Ed → Option Int) (w : World)
    (hS : SlabV n₀ w E kk op (f1, f2) (t1, t2) lv rb) (hT : MV w 106 keB WfB tb n D (fun b => (T b).map (fun k => .int .i64 k))) (hn : n ≤ 8000) (hTb : ∀ b k, T b = some k → -8000 ≤ k ∧ k ≤ 8000)
    (hTe : ∀ b k, T b = some k → (b.1 ∈ E ∧ Acre.upr b.1 = false) ∧ (b.2 ∈ E ∧ Acre.upr b.2 = false)) (hEl : E.length ≤ 24) :
    Calls Tryz.prog 90 #[.agg #[.int .i64 f1, .int .i64 f2, .int .i64 t1, .int .i64 t2, lv, .map (some rb)], .map (some tb)] w fun e w' => ∃ ks, AllB D ks ∧ e = .returned (.bool (okS E kk op (f1, f2) (t1, t2) ks (fun b => (T b).getD 0))) ∧ Below w.heap.size w w' := by
  obtain ⟨la, lg, lcap, rfl, hla, _⟩ := row_form hS.row
  have hlL := layersP_len E kk op (f1, f2) (t1, t2) hEl
  have hLe : (layersP E kk op (f1, f2) (t1, t2)).length = (Acre.hts E (Acre.mdn (f1, f2) (t1, t2))).length := by unfold layersP layTo; simp
  obtain ⟨L, hL⟩ : ∃ L, (layersP E kk op (f1, f2) (t1, t2)).length = L := ⟨_, rfl⟩
  rw [hL] at hlL hLe hla
  have HLe := hide hLe
  have HS := hide hS
  have HL := hide hL
  rw [hL]
  clear hLe hS
  go_enter Tryz.func90, Tryz.ntmps90
  have q1 := below1 w (.cells #[.int .i64 f1, .int .i64 f2, .int .i64 t1, .int .i64 t2, .slice la L lcap, .map (some rb)] 102)
  have bb := Box.new w [.int .i64 f1, .int .i64 f2, .int .i64 t1, .int .i64 t2, .slice la L lcap, .map (some rb)] 102
  have hsz : (w.alloc (.cells #[.int .i64 f1, .int .i64 f2, .int .i64 t1, .int .i64 t2, .slice la L lcap, .map (some rb)] 102)).heap.size = w.heap.size + 1 := by simp
  go_upto_region 1 with fail
  generalize w.alloc (.cells #[.int .i64 f1, .int .i64 f2, .int .i64 t1, .int .i64 t2, .slice la L lcap, .map (some rb)] 102) = W0 at *
  have s4 := bb.c 4 _ rfl
  obtain ⟨W1, hm1, ho1, hg1, hz1⟩ := made_int W0 L (by omega) (w.heap.size + 1) (by omega)
  have b1 := bb.kept (by simp) hg1 (by simp)
  have p4 := b1.c 4 _ rfl
  obtain ⟨W2, hm2, ho2, hg2, hz2⟩ := made_int W1 L (by omega) (w.heap.size + 1) (by omega)
  have hF : FsI w W2 L [.int .i64 f1, .int .i64 f2, .int .i64 t1, .int .i64 t2, .slice la L lcap, .map (some rb)] (fun _ => 0) (fun _ => 0) := by
    refine ⟨(q1.grown hg1 (by omega) (by simp)).grown hg2 (by omega) (by simp), b1.kept (by simp) hg2 (by simp), ?_, ?_⟩
    · have := ho1.kept hg2 (.inr (by simp [Value.ownBlock]))
      rw [hsz] at this
      exact this
    · rw [hz1, hsz] at ho2
      exact ho2
  have HF := hide hF
  rw [hz1, hsz] at hm2
  rw [hsz] at hm1
  have hT2 : Hid (W2.ownsMap Tryz.prog 106 Raw tb n D) := hide ((hT.same (hF.bel.block tb hT.lt)).own)
  have hz3 : W2.heap.size = w.heap.size + 3 := by omega
  clear hF ho1 ho2 hg1 hg2 b1 q1
  go_upto_region 3 with fail
  clear hm1 hm2 s4 p4 bb hsz hz1 hz2
  have Hx : Hid (Acre.mdn (f1, f2) (t1, t2) = Acre.mdn (f1, f2) (t1, t2)) := hide rfl
  go_wp2_with (first
    | (at_range; refine wpList_range_own _ rfl _ 99 rfl 106 3 (Keyed.of_law lawB) Tryz.underlying99 _ tb n _ rfl hT2.out ?_; intro w0 hrg0 hg0 hs0)
    | go_in)
  rw [hz3] at hrg0 hs0
  go_loopw [7] (fun _ wr => ∃ (left : Lit → Bool) (cnt : Nat) (ks : List (Acre.Ed × Acre.Ed)), wr.ranges Tryz.prog 106 Raw tb (w.heap.size + 3) n D left cnt ∧ ks.length + cnt ≤ Maps.size D ∧ Hid (CollB D left ks) ∧ Hid (FsI w wr L [.int .i64 f1, .int .i64 f2, .int .i64 t1, .int .i64 t2, .slice la L lcap, .map (some rb)] (fun j => sumT ks (fun b => (T b).getD 0) (aboT E (Acre.mdn (f1, f2) (t1, t2)) j)) (fun j => sumT ks (fun b => (T b).getD 0) (acrT E (Acre.mdn (f1, f2) (t1, t2)) j))))
    (fun _ wr => wr.rangeLeft tb (w.heap.size + 3))
  case atStart => exact ⟨_, _, [], hrg0, by simp, hide (CollB.start D), hide (HF.out.later (by simp) ⟨hg0.os, hg0.tape, hg0.output, hg0.size, fun k hk => hg0.block k hk (by simp)⟩)⟩
  case round =>
    obtain ⟨left, cnt, ks, hrg, hcs, hC, hFs⟩ := hrel
    go_wp2_with (first
      | (at_next; refine wpList_next_ranges _ rfl _ rfl 106 (Keyed.of_law lawB) Raw bdV (fun v : Value => v) (fun key kl hk => by obtain ⟨x, hx, _⟩ := invB key kl hk; exact ⟨x, hx⟩) (fun v y _ => ⟨v, rfl⟩) tb (w.heap.size + 3) n _ _ _ rfl hrg ?_ ?_)
      | go_in)
    · intro hc0 hl0
      have HA := hide (hC.out.all hl0)
      have s4 := hFs.out.sb.c 4 _ rfl
      have HF5 := hide hFs.out
      obtain ⟨A1, hA1⟩ : ∃ A1, (fun j => sumT ks (fun b => (T b).getD 0) (aboT E (Acre.mdn (f1, f2) (t1, t2)) j)) = A1 := ⟨_, rfl⟩
      obtain ⟨A2, hA2⟩ : ∃ A2, (fun j => sumT ks (fun b => (T b).getD 0) (acrT E (Acre.mdn (f1, f2) (t1, t2)) j)) = A2 := ⟨_, rfl⟩
      have HOk : Hid (∀ q, q < L → okAt E kk op (f1, f2) (t1, t2) ks (fun b => (T b).getD 0) q = (A1 q == (if ((layersP E kk op (f1, f2) (t1, t2)).getD q (Acre.zed, true, false)).2.2 = true then 1 else 0) && (!((layersP E kk op (f1, f2) (t1, t2)).getD q (Acre.zed, true, false)).2.1 || A2 q == (if ((layersP E kk op (f1, f2) (t1, t2)).getD q (Acre.zed, true, false)).2.2 = true then 1 else 0)))) := hide (fun q hq => by
        rw [← hA1, ← hA2]
        exact okAt_lay (by rw [HL.out]; exact hq))
      rw [hA1, hA2] at HF5
      clear hA1 hA2 hFs hC hrg hrg0 hg0 hs0
      go_wp2
      clear s4
      go_loopw [66] (fun i wr => ∃ q : Nat, i = .int .i64 q ∧ q ≤ L ∧ Hid (FsI w wr L [.int .i64 f1, .int .i64 f2, .int .i64 t1, .int .i64 t2, .slice la L lcap, .map (some rb)] A1 A2) ∧ Hid (∀ p, p < q → okAt E kk op (f1, f2) (t1, t2) ks (fun b => (T b).getD 0) p = true)) (fun i _ => L - (intOf i).toNat)
      case atStart => exact ⟨0, rfl, Nat.zero_le _, HF5, hide (fun p hp => by omega)⟩
      case round =>
        obtain ⟨q, rfl, hq, hf, hok⟩ := hrel
        clear HF5
        by_cases hlt : q < L
        · have hrow := row_low HS.out.row hf.out.bel (fun c e => (HS.out.row.lt c e).2)
          obtain rfl := hla (by omega)
          have hokq := HOk.out q hlt
          have hlr := HL.out
          have hrow2 : wr.ownsRow n₀ 163 6 (.slice (some ⟨lg, 0, none⟩) (layersP E kk op (f1, f2) (t1, t2)).length lcap) (layersP E kk op (f1, f2) (t1, t2)).length (flatL (layersP E kk op (f1, f2) (t1, t2))) := by rw [hlr] at hrow ⊢; exact hrow
          obtain ⟨y0, y1, y2, y3, y4, y5⟩ := rowL_cells hrow2 q (by omega)
          have hgd : (layersP E kk op (f1, f2) (t1, t2)).getD q (Acre.zed, true, false) = (layersP E kk op (f1, f2) (t1, t2))[q]'(by omega) := by
            rw [List.getD_eq_getElem?_getD, List.getElem?_eq_getElem (by omega)]; rfl
          rw [hgd] at hokq
          obtain ⟨⟨⟨⟨e0, e1⟩, ⟨e2, e3⟩⟩, bare, ins⟩, hla2⟩ : ∃ x, (layersP E kk op (f1, f2) (t1, t2))[q]'(by omega) = x := ⟨_, rfl⟩
          rw [hla2] at y0 y1 y2 y3 y4 y5 hokq
          dsimp only at y0 y1 y2 y3 y4 y5 hokq
          have q5 := below1 wr (.cells #[.int .i64 e0, .int .i64 e1, .int .i64 e2, .int .i64 e3, .bool bare, .bool ins] 163)
          have bL := Box.new wr [.int .i64 e0, .int .i64 e1, .int .i64 e2, .int .i64 e3, .bool bare, .bool ins] 163
          have HF6 := hide (hf.out.later (by simp) q5)
          have Hokq := hide hokq
          clear hrow hrow2 hgd hla2 q5 hokq hf
          go_upto_region 16 with fail
          clear y0 y1 y2 y3 y4 y5
          generalize hR6 : wr.heap.size = R6 at *
          generalize wr.alloc (.cells #[.int .i64 e0, .int .i64 e1, .int .i64 e2, .int .i64 e3, .bool bare, .bool ins] 163) = W6 at *
          have z4 := bL.c 4 _ rfl
          have z5 := bL.c 5 _ rfl
          have x1 : W6.cell? ⟨w.heap.size + 1, q, none⟩ = some (.int .i64 (A1 q)) := by
            rw [HF6.out.r1.cellAt q (by omega), rowI_get hlt]
          have x2 : W6.cell? ⟨w.heap.size + 1 + 1, q, none⟩ = some (.int .i64 (A2 q)) := by
            rw [HF6.out.r2.cellAt q (by omega), rowI_get hlt]
          clear bL
          have Hno : Hid (∀ b, okAt E kk op (f1, f2) (t1, t2) ks (fun b => (T b).getD 0) q = b → b = false → okS E kk op (f1, f2) (t1, t2) ks (fun b => (T b).getD 0) = false) := hide (fun b h1 h2 => okS_no (by rw [← HLe.out]; exact hlt) (h1.trans h2))
          have Hye : Hid (okAt E kk op (f1, f2) (t1, t2) ks (fun b => (T b).getD 0) q = true → ∀ p, p < q + 1 → okAt E kk op (f1, f2) (t1, t2) ks (fun b => (T b).getD 0) p = true) := hide (fun h p hp => by
            by_cases e : p = q
            · rw [e]; exact h
            · exact hok.out p (by omega))
          cases ins
          · simp only [Bool.false_eq_true, if_false] at Hokq
            by_cases h1 : A1 q = 0
            · cases bare
              · have Hy := hide (Hye.out (by rw [Hokq.out]; simp [h1]))
                clear Hye Hno Hokq
                go_wp2
                go_roundw
                case rel => exact ⟨q + 1, by go_num, by omega, HF6, Hy⟩
                case measure => simp [intOf]; omega
              · by_cases h2 : A2 q = 0
                · have Hy := hide (Hye.out (by rw [Hokq.out]; simp [h1, h2]))
                  clear Hye Hno Hokq
                  go_wp2
                  go_roundw
                  case rel => exact ⟨q + 1, by go_num, by omega, HF6, Hy⟩
                  case measure => simp [intOf]; omega
                · have HN := hide (Hno.out _ Hokq.out (by simp [h1, h2]))
                  have Hb := hide HF6.out.bel
                  clear Hye Hno Hokq
                  go_wp2
                  refine bodyPost_ret (v := .bool false) (by simp [results, Tryz.results90, go_sem]) rfl ⟨ks, HA.out, ?_, Hb.out⟩
                  rw [HN.out]
            · have HN := hide (Hno.out _ Hokq.out (by simp [h1]))
              have Hb := hide HF6.out.bel
              clear Hye Hno Hokq
              go_wp2
              refine bodyPost_ret (v := .bool false) (by simp [results, Tryz.results90, go_sem]) rfl ⟨ks, HA.out, ?_, Hb.out⟩
              rw [HN.out]
          · simp only [if_true] at Hokq
            by_cases h1 : A1 q = 1
            · cases bare
              · have Hy := hide (Hye.out (by rw [Hokq.out]; simp [h1]))
                clear Hye Hno Hokq
                go_wp2
                go_roundw
                case rel => exact ⟨q + 1, by go_num, by omega, HF6, Hy⟩
                case measure => simp [intOf]; omega
              · by_cases h2 : A2 q = 1
                · have Hy := hide (Hye.out (by rw [Hokq.out]; simp [h1, h2]))
                  clear Hye Hno Hokq
                  go_wp2
                  go_roundw
                  case rel => exact ⟨q + 1, by go_num, by omega, HF6, Hy⟩
                  case measure => simp [intOf]; omega
                · have HN := hide (Hno.out _ Hokq.out (by simp [h1, h2]))
                  have Hb := hide HF6.out.bel
                  clear Hye Hno Hokq
                  go_wp2
                  refine bodyPost_ret (v := .bool false) (by simp [results, Tryz.results90, go_sem]) rfl ⟨ks, HA.out, ?_, Hb.out⟩
                  rw [HN.out]
            · have HN := hide (Hno.out _ Hokq.out (by simp [h1]))
              have Hb := hide HF6.out.bel
              clear Hye Hno Hokq
              go_wp2
              refine bodyPost_ret (v := .bool false) (by simp [results, Tryz.results90, go_sem]) rfl ⟨ks, HA.out, ?_, Hb.out⟩
              rw [HN.out]
        · obtain rfl : q = L := by omega
          have Hyes : Hid (okS E kk op (f1, f2) (t1, t2) ks (fun b => (T b).getD 0) = true) := hide (okS_yes (fun p hp => hok.out p (by rw [HLe.out]; exact hp)))
          have Hb := hide hf.out.bel
          clear hf hok
          go_wp2
          refine bodyPost_ret (v := .bool true) (by simp [results, Tryz.results90, go_sem]) rfl ⟨ks, HA.out, ?_, Hb.out⟩
          rw [Hyes.out]
    · intro a0 a1 a2 a3 c0 c1 c2 c3 c kl yd yp w2 cnt2 hkey hlk hv hat hrg2 hlt hg2 hs2 hen
      obtain ⟨x', ex, hwx, rfl⟩ := invB _ _ hkey
      obtain rfl : x' = (((a0, a1), (a2, a3)), ((c0, c1), (c2, c3))) := (ktB.inj _ _ ex).symm
      obtain ⟨tn, hTn, rfl⟩ := mv_held hT hwx hv hat
      have htb := hTb _ _ hTn
      have hte := hTe _ _ hTn
      have hF2 := hFs.out.grown (by simp) hg2 (by omega)
      have q3 := below1 w2 (.cells #[.int .i64 a0, .int .i64 a1, .int .i64 a2, .int .i64 a3, .int .i64 c0, .int .i64 c1, .int .i64 c2, .int .i64 c3] 106)
      have bB := Box.new w2 [.int .i64 a0, .int .i64 a1, .int .i64 a2, .int .i64 a3, .int .i64 c0, .int .i64 c1, .int .i64 c2, .int .i64 c3] 106
      have HF3 := hide (hF2.later (by simp) q3)
      have hrg3 := hrg2.alloc (.cells #[.int .i64 a0, .int .i64 a1, .int .i64 a2, .int .i64 a3, .int .i64 c0, .int .i64 c1, .int .i64 c2, .int .i64 c3] 106)
      have Hrg := hide hrg3
      have Hold := hide hrg
      have HC2 := hide (hC.out.step hwx hlk)
      have hcnt := hlt
      have HTn := hide hTn
      have Hte := hide hte
      have Hwx := hide hwx
      clear hkey ex hv hat hrg2 hg2 hF2 q3 hrg3 hrg hlk hC hFs hTn hte hwx hs2 hrg0 hg0 hs0
      unfold bdV at hen ⊢
      dsimp only at hen ⊢
      go_upto_region 6 with fail
      generalize hR3 : w2.heap.size = R3 at *
      generalize w2.alloc (.cells #[.int .i64 a0, .int .i64 a1, .int .i64 a2, .int .i64 a3, .int .i64 c0, .int .i64 c1, .int .i64 c2, .int .i64 c3] 106) = W3 at *
      have z0 := bB.c 0 _ rfl
      have z1 := bB.c 1 _ rfl
      have z2 := bB.c 2 _ rfl
      have z3 := bB.c 3 _ rfl
      have z4 := bB.c 4 _ rfl
      have z5 := bB.c 5 _ rfl
      have z6 := bB.c 6 _ rfl
      have z7 := bB.c 7 _ rfl
      have s5 := HF3.out.sb.c 5 _ rfl
      obtain ⟨mr, Dr, hDr⟩ := HS.out.mv
      have hDr2 : MV W3.drew 42 keE WfE rb mr Dr (rankTo E (Acre.mdn (f1, f2) (t1, t2)) (Acre.hts E (Acre.mdn (f1, f2) (t1, t2))).length) := hDr.same (HF3.out.bel.block rb hDr.lt)
      have lk1 := hDr2.lookup ktE Tryz.underlying70 (zero3 _) Hwx.out.lo
      have lk2 := hDr2.lookup ktE Tryz.underlying70 (zero3 _) Hwx.out.hi
      rw [rankTo_all Hte.out.1] at lk1
      rw [rankTo_all Hte.out.2] at lk2
      unfold edV at lk1 lk2
      simp only [Option.getD_some] at lk1 lk2
      have r1 := rk_lt (x := Acre.mdn (f1, f2) (t1, t2)) Hte.out.1
      have r2 := rk_lt (x := Acre.mdn (f1, f2) (t1, t2)) Hte.out.2
      have Hg1 := hide (goIn_above E (Acre.mdn (f1, f2) (t1, t2)) ks (((a0, a1), (a2, a3)), ((c0, c1), (c2, c3))) (fun b => (T b).getD 0))
      have Hg2 := hide (goIn_across E (Acre.mdn (f1, f2) (t1, t2)) ks (((a0, a1), (a2, a3)), ((c0, c1), (c2, c3))) (fun b => (T b).getD 0))
      rw [← HLe.out] at r1 r2
      generalize Acre.rk E (Acre.mdn (f1, f2) (t1, t2)) ((a0, a1), (a2, a3)) = lo at *
      generalize Acre.rk E (Acre.mdn (f1, f2) (t1, t2)) ((c0, c1), (c2, c3)) = hi at *
      clear hDr hDr2
      go_region
      have hksl : ks.length ≤ 8000 := by have := hT.own.size_le; omega
      have htot : ∀ b, -(8000 : Int) ≤ (T b).getD 0 ∧ (T b).getD 0 ≤ 8000 := fun b => by
        cases hb : T b with
        | none => simp
        | some k => simpa using hTb b k hb
      have hTn2 : (T (((a0, a1), (a2, a3)), ((c0, c1), (c2, c3)))).getD 0 = tn := by rw [HTn.out]; rfl
      have Hrg4 : Hid (W3.drew.ranges Tryz.prog 106 Raw tb (w.heap.size + 3) n D (fun z => left z && !z.sameKey (keB (((a0, a1), (a2, a3)), ((c0, c1), (c2, c3))))) cnt2) := hide Hrg.out
      have HF4 := hide (HF3.out.later (by simp) ((Below.refl _ W3).drew))
      obtain ⟨A1, hA1⟩ : ∃ A1, (fun j => sumT ks (fun b => (T b).getD 0) (aboT E (Acre.mdn (f1, f2) (t1, t2)) j)) = A1 := ⟨_, rfl⟩
      obtain ⟨A2, hA2⟩ : ∃ A2, (fun j => sumT ks (fun b => (T b).getD 0) (acrT E (Acre.mdn (f1, f2) (t1, t2)) j)) = A2 := ⟨_, rfl⟩
      have HB1 : Hid (∀ j, -(64000000 : Int) ≤ A1 j ∧ A1 j ≤ 64000000) := hide (fun j => by
        have := sumT_bd (ks := ks) (c := aboT E (Acre.mdn (f1, f2) (t1, t2)) j) (by omega) htot
        rw [← hA1]; dsimp only; omega)
      have HB2 : Hid (∀ j, -(64000000 : Int) ≤ A2 j ∧ A2 j ≤ 64000000) := hide (fun j => by
        have := sumT_bd (ks := ks) (c := acrT E (Acre.mdn (f1, f2) (t1, t2)) j) (by omega) htot
        rw [← hA2]; dsimp only; omega)
      rw [hA1] at HF4 Hg1
      rw [hA2] at HF4 Hg2
      rw [hTn2] at Hg1 Hg2
      rw [← goIn_start A1 lo tn, ← goIn_empty A2 (lo + 1) lo tn (by omega)] at HF4
      generalize W3.drew = WD at *
      clear z0 z1 z2 z3 z4 z5 z6 z7 s5 lk1 lk2 HF3 Hrg bB htot hA1 hA2 hTn2
      go_wp2
      go_loopw [11] (fun i wr => ∃ j : Nat, i = .int .i64 j ∧ lo ≤ j ∧ (j ≤ hi ∨ (hi ≤ lo ∧ j = lo)) ∧ Hid (wr.ranges Tryz.prog 106 Raw tb (w.heap.size + 3) n D (fun z => left z && !z.sameKey (keB (((a0, a1), (a2, a3)), ((c0, c1), (c2, c3))))) cnt2) ∧ Hid (FsI w wr L [.int .i64 f1, .int .i64 f2, .int .i64 t1, .int .i64 t2, .slice la L lcap, .map (some rb)] (goIn A1 lo j tn) (goIn A2 (lo + 1) j tn))) (fun i _ => hi - (intOf i).toNat)
      case atStart => exact ⟨lo, rfl, Nat.le_refl _, by omega, Hrg4, HF4⟩
      case round =>
        obtain ⟨j, rfl, hj1, hj2, hr4, hf4⟩ := hrel
        clear Hrg4 HF4
        by_cases hjh : j < hi
        · have hF := hf4.out
          have hjL : j < L := by omega
          have y1 : wr.cell? ⟨w.heap.size + 1, j, none⟩ = some (.int .i64 (A1 j)) := by
            rw [hF.r1.cellAt j (by omega), rowI_get hjL, goIn_self]
          have y1f := hF.r1.frozenAt j
          have hb1 := HB1.out j
          have HS1 := hF.set1 (by simp) j (A1 j + tn)
          have e1 : (fun q => if q = j then A1 j + tn else goIn A1 lo j tn q) = goIn A1 lo (j + 1) tn := by
            have := goIn_step A1 lo j tn hj1
            rw [goIn_self] at this
            exact this
          rw [e1] at HS1
          have HR1 := hide (hr4.out.of_walks (KeepsWalks.setCell wr ⟨w.heap.size + 1, j, none⟩ (.int .i64 (A1 j + tn))))
          have HH1 := hide HS1
          clear HS1 e1 hF hf4 hr4
          go_upto_region 11 with fail
          clear y1 y1f hb1
          generalize wr.setCell ⟨w.heap.size + 1, j, none⟩ (.int .i64 (A1 j + tn)) = V1 at *
          by_cases hlj : lo < j
          · have hF := HH1.out
            have y2 : V1.cell? ⟨w.heap.size + 1 + 1, j, none⟩ = some (.int .i64 (A2 j)) := by
              rw [hF.r2.cellAt j (by omega), rowI_get hjL, goIn_self]
            have y2f := hF.r2.frozenAt j
            have hb2 := HB2.out j
            have HS2 := hF.set2 (by simp) j (A2 j + tn)
            have e2 : (fun q => if q = j then A2 j + tn else goIn A2 (lo + 1) j tn q) = goIn A2 (lo + 1) (j + 1) tn := by
              have := goIn_step A2 (lo + 1) j tn (by omega)
              rw [goIn_self] at this
              exact this
            rw [e2] at HS2
            have HR2 := hide (HR1.out.of_walks (KeepsWalks.setCell V1 ⟨w.heap.size + 1 + 1, j, none⟩ (.int .i64 (A2 j + tn))))
            have HH2 := hide HS2
            clear HS2 e2 hF HH1 HR1
            go_wp2
            go_roundw
            case rel => exact ⟨j + 1, by go_num, by omega, by omega, HR2, HH2⟩
            case measure => simp [intOf]; omega
          · obtain rfl : lo = j := by omega
            have HH2 := HH1.out
            rw [← goIn_skip] at HH2
            have HH3 := hide HH2
            clear HH1 HH2
            go_wp2
            go_roundw
            case rel => exact ⟨lo + 1, by go_num, by omega, by omega, HR1, HH3⟩
            case measure => simp [intOf]; omega
        · have HH2 := hf4.out
          have e1 : goIn A1 lo j tn = goIn A1 lo hi tn := by
            rcases hj2 with h | ⟨h, rfl⟩
            · rw [show j = hi by omega]
            · rw [goIn_start, goIn_empty A1 j hi tn h]
          have e2 : goIn A2 (lo + 1) j tn = goIn A2 (lo + 1) hi tn := by
            rcases hj2 with h | ⟨h, rfl⟩
            · rw [show j = hi by omega]
            · rw [goIn_empty A2 (j + 1) j tn (by omega), goIn_empty A2 (j + 1) hi tn (by omega)]
          rw [e1, e2, Hg1.out, Hg2.out] at HH2
          have HH3 := hide HH2
          clear HH2 hf4 e1 e2
          go_wp2
          go_roundw
          case rel => exact ⟨_, cnt2, ks ++ [(((a0, a1), (a2, a3)), ((c0, c1), (c2, c3)))], hr4.out, by simp; omega, HC2, HH3⟩
          case measure => rw [hr4.out.left_eq, Hold.out.left_eq]; exact hcnt

end Go.Proofs.YtkjlkbgdkdcboaaGreatDoor

