import Derived.Test.YtkjlkbgdkdcboaaGreatDoorGyA
import Derived.Test.YtkjlkbgdkdcboaaGreatDoorWF
import Derived.Test.YtkjlkbgdkdcboaaGreatDoorMB

set_option linter.unusedSimpArgs false
set_option linter.unusedVariables false

set_option linter.unusedSimpArgs false
set_option linter.unusedVariables false
namespace Go.Proofs.YtkjlkbgdkdcboaaGreatDoor
open Go.RowKit Go.Maps
attribute [local go_sem ↓] Go.wp_at_zero Go.wp_at_succ
theorem info9 : (Tryz.prog.info? 9).map (fun i => (i.zero, i.size, i.bytes)) = some (some (.string ⟨#[]⟩), 1, 16) := by kernel_rfl
theorem upd_last (E : List Acre.Ed) (k : Nat) : upd (fun e => (lastTo E k e).map (fun n : Nat => Value.int .i64 (n : Int))) (Acre.gd E k) (.int .i64 (k : Int)) = fun e => (lastTo E (k + 1) e).map (fun n : Nat => Value.int .i64 (n : Int)) := by
  funext e
  rw [lastTo_succ]
  unfold upd
  by_cases h : Acre.gd E k = e
  · rw [if_pos h]; simp [h]
  · rw [if_neg h]; simp [Ne.symm h, h]
structure NuI (w wr : World) (E : List Acre.Ed) (k : Nat) : Prop where
  mv : ∃ D, MV wr 42 keE WfE w.heap.size k D (fun e => (lastTo E k e).map (fun n : Nat => Value.int .i64 (n : Int)))
  bel : Below w.heap.size w wr
theorem itoa_nat (n : Nat) : Lib.itoa (n : Int) = Lib.decDigits n := by
  unfold Lib.itoa
  rw [if_neg (by omega), Int.toNat_natCast]
theorem join_wr (p : Wr) : Lib.join [frT p.1.1, frT p.1.2, Lib.decDigits p.2.1, Lib.decDigits p.2.2] [32] = wrT p := by
  unfold wrT Lib.join
  simp [List.intercalate]
theorem join_rest : ∀ l : List Wr, Lib.join (l.map wrT) [59] = certT l
  | [] => rfl
  | [p] => by simp [Lib.join, List.intercalate, certT, restT]
  | p :: q :: r => by
    have ih := join_rest (q :: r)
    have e : Lib.join ((p :: q :: r).map wrT) [59] = wrT p ++ 59 :: Lib.join ((q :: r).map wrT) [59] := by simp [Lib.join, List.intercalate]
    rw [e, ih]
    simp [certT, restT]
theorem join4 (V : World) (t : TypeId) (a b c d : List UInt8) (ha : a.length ≤ 100) (hb : b.length ≤ 100) (hc : c.length ≤ 100) (hd : d.length ≤ 100) :
    Calls Tryz.prog 25 #[.slice (some ⟨V.heap.size, 0, none⟩) 4 4, .string ⟨#[32]⟩] (V.alloc (.cells #[.string (tx a), .string (tx b), .string (tx c), .string (tx d)] t)) fun e w' => e = .returned (.string (tx (Lib.join [a, b, c, d] [32]))) ∧ Below (V.alloc (.cells #[.string (tx a), .string (tx b), .string (tx c), .string (tx d)] t)).heap.size (V.alloc (.cells #[.string (tx a), .string (tx b), .string (tx c), .string (tx d)] t)) w' := by
  have hlen : (Lib.join ([tx a, tx b, tx c, tx d].map (·.data.toList)) ((⟨#[32]⟩ : ByteArray).data.toList)).length ≤ 140737488355328 := by
    simp only [List.map_cons, List.map_nil, tx_list]
    simp [Lib.join, List.intercalate]
    omega
  refine (Tryz.strings_Join V.heap.size 0 4 [tx a, tx b, tx c, tx d] ⟨#[32]⟩ (V.alloc (.cells #[.string (tx a), .string (tx b), .string (tx c), .string (tx d)] t)) (fun j x hj => ?_) (by simp) (by simp only [List.length_cons, List.length_nil]; omega) (by simp only [List.length_cons, List.length_nil]; omega) hlen).mono ?_
  · rw [Nat.zero_add]
    match j, hj with
    | 0, hj => simp at hj; subst hj; simp [go_sem]
    | 1, hj => simp at hj; subst hj; simp [go_sem]
    | 2, hj => simp at hj; subst hj; simp [go_sem]
    | 3, hj => simp at hj; subst hj; simp [go_sem]
    | j + 4, hj => simp at hj
  · rintro e w' ⟨rfl, hb'⟩
    refine ⟨?_, hb'⟩
    simp only [List.map_cons, List.map_nil, tx_list]
    rfl
structure PcH (w : World) (P : Nat) (E : List Acre.Ed) (D : DataW Value) (p : Acre.Pc) (W : World) : Prop where
  box : Box W P (pcL p)
  mv : MV W 42 keE WfE w.heap.size E.length D (fun e => (lastTo E E.length e).map (fun n : Nat => Value.int .i64 (n : Int)))
  bel : Below w.heap.size w W
theorem PcH.call {w V W : World} {P : Nat} {E : List Acre.Ed} {D : DataW Value} {p : Acre.Pc} (hb : Below V.heap.size V W) (h : PcH w P E D p V) : PcH w P E D p W :=
  ⟨h.box.later (by simp [pcL, frL, edL]) hb, h.mv.later hb, below_call hb h.bel⟩
theorem PcH.app {w V W : World} {P : Nat} {E : List Acre.Ed} {D : DataW Value} {p : Acre.Pc} {q : Value} (hg : V.grownBy W q.ownBlock) (hu : ∀ c, q.ownBlock = some c → w.heap.size + 1 ≤ c ∧ c < P) (h : PcH w P E D p V) : PcH w P E D p W :=
  ⟨h.box.kept (by simp [pcL, frL, edL]) hg (fun e => by have := hu _ e; omega), h.mv.grown hg (fun e => by have := hu _ e; omega), h.bel.grown hg h.bel.size (fun c hc => by have := hu c hc; omega)⟩
theorem look_num {w W : World} {P : Nat} {E : List Acre.Ed} {D : DataW Value} {p : Acre.Pc} (h : PcH w P E D p W) {e : Acre.Ed} (he : e ∈ E) (hs : SmE e) :
    (Instr.lookup 70 (.map (some w.heap.size)) (edV e) false).run Tryz.prog W = .ok (.int .i64 (numN E e : Nat)) W := by
  have h1 := h.mv.lookup ktE Tryz.underlying70 (z := .int .i64 0) (by kernel_rfl) hs.wf
  rw [h1]
  obtain ⟨i, hi⟩ : ∃ i, lastTo E E.length e = some i := by
    obtain ⟨k, hk, e'⟩ := List.getElem_of_mem he
    obtain ⟨q, q1, _⟩ := lastTo_mem E e E.length ⟨k, hk, by unfold Acre.gd; simp [hk, e']⟩
    exact ⟨q, q1⟩
  unfold numN
  rw [hi]
  rfl
def PcS (w : World) (P : Nat) (E : List Acre.Ed) (D : DataW Value) (f1 f2 t1 t2 l0 l1 l2 l3 h0 h1 h2 h3 nl nh : Int) (W : World) : Prop :=
  W.cell? ⟨P, 0, none⟩ = some (.int .i64 f1) ∧ W.cell? ⟨P, 1, none⟩ = some (.int .i64 f2) ∧ W.cell? ⟨P, 2, none⟩ = some (.int .i64 t1) ∧ W.cell? ⟨P, 3, none⟩ = some (.int .i64 t2) ∧
  W.cell? ⟨P, 4, none⟩ = some (.int .i64 l0) ∧ W.cell? ⟨P, 5, none⟩ = some (.int .i64 l1) ∧ W.cell? ⟨P, 6, none⟩ = some (.int .i64 l2) ∧ W.cell? ⟨P, 7, none⟩ = some (.int .i64 l3) ∧
  W.cell? ⟨P, 8, none⟩ = some (.int .i64 h0) ∧ W.cell? ⟨P, 9, none⟩ = some (.int .i64 h1) ∧ W.cell? ⟨P, 10, none⟩ = some (.int .i64 h2) ∧ W.cell? ⟨P, 11, none⟩ = some (.int .i64 h3) ∧
  (Instr.lookup 70 (.map (some w.heap.size)) (.agg #[.int .i64 l0, .int .i64 l1, .int .i64 l2, .int .i64 l3]) false).run Tryz.prog W = .ok (.int .i64 nl) W ∧
  (Instr.lookup 70 (.map (some w.heap.size)) (.agg #[.int .i64 h0, .int .i64 h1, .int .i64 h2, .int .i64 h3]) false).run Tryz.prog W = .ok (.int .i64 nh) W ∧
  Hid (PcH w P E D (((f1, f2), (t1, t2)), (((l0, l1), (l2, l3)), ((h0, h1), (h2, h3)))) W)
set_option maxRecDepth 10000 in
theorem PcS.of {w W : World} {P : Nat} {E : List Acre.Ed} {D : DataW Value} {f1 f2 t1 t2 l0 l1 l2 l3 h0 h1 h2 h3 : Int} (hlo : ((l0, l1), (l2, l3)) ∈ E ∧ SmE ((l0, l1), (l2, l3))) (hhi : ((h0, h1), (h2, h3)) ∈ E ∧ SmE ((h0, h1), (h2, h3)))
    (h : PcH w P E D (((f1, f2), (t1, t2)), (((l0, l1), (l2, l3)), ((h0, h1), (h2, h3)))) W) : PcS w P E D f1 f2 t1 t2 l0 l1 l2 l3 h0 h1 h2 h3 (numN E ((l0, l1), (l2, l3)) : Nat) (numN E ((h0, h1), (h2, h3)) : Nat) W :=
  ⟨h.box.c 0 _ rfl, h.box.c 1 _ rfl, h.box.c 2 _ rfl, h.box.c 3 _ rfl, h.box.c 4 _ rfl, h.box.c 5 _ rfl, h.box.c 6 _ rfl, h.box.c 7 _ rfl, h.box.c 8 _ rfl, h.box.c 9 _ rfl, h.box.c 10 _ rfl, h.box.c 11 _ rfl, look_num h hlo.1 hlo.2, look_num h hhi.1 hhi.2, h⟩
def FrB (x : Acre.Fc) : Prop := (-99999 ≤ x.1 ∧ x.1 ≤ 99999) ∧ (0 < x.2 ∧ x.2 ≤ 9999)
theorem wr_ok2 {E : List Acre.Ed} {p : Acre.Pc} (he : p.2.1 ∈ E ∧ p.2.2 ∈ E) (hc : FrB p.1.1 ∧ FrB p.1.2) (hE : E.length ≤ 24) : WrOk (wrOf E p) := by
  have n1 := hc.1
  have n2 := hc.2
  unfold FrB at n1 n2
  exact ⟨⟨⟨by show -99999 ≤ p.1.1.1; omega, by show p.1.1.1 ≤ 99999; omega⟩, ⟨by show 0 < p.1.1.2; omega, by show p.1.1.2 ≤ 9999; omega⟩⟩,
    ⟨⟨by show -99999 ≤ p.1.2.1; omega, by show p.1.2.1 ≤ 99999; omega⟩, ⟨by show 0 < p.1.2.2; omega, by show p.1.2.2 ≤ 9999; omega⟩⟩,
    numN_lt he.1 hE, numN_lt he.2 hE⟩
theorem itoa_tx (n : Int) (h : -1000000 ≤ n ∧ n ≤ 1000000) (w : World) (ht : Tab w) :
    Calls Tryz.prog 27 #[.int .i64 n] w fun e w' => e = .returned (.string (tx (Lib.itoa n))) ∧ Below w.heap.size w w' := itoa_any n h w ht
def pcT (E : List Acre.Ed) (p : Acre.Pc) : ByteArray := tx (wrT (wrOf E p))
structure WcI (w wr : World) (E : List Acre.Ed) (D : DataW Value) (q : Value) (xs : List ByteArray) : Prop where
  row : wr.ownsRow (w.heap.size + 1) 9 1 q xs.length (xs.map Value.string)
  mv : MV wr 42 keE WfE w.heap.size E.length D (fun e => (lastTo E E.length e).map (fun n : Nat => Value.int .i64 (n : Int)))
  bel : Below w.heap.size w wr
set_option maxRecDepth 100000 in
set_option maxHeartbeats 4000000 in
theorem reg11 {p0 p1 p2 : String} (w WP : World) (P k : Nat) (E : List Acre.Ed) (D : DataW Value) (f1 f2 t1 t2 l0 l1 l2 l3 h0 h1 h2 h3 : Int) (nl nh : Nat) (q : Value) (xs : List ByteArray)
    (KS : Hid (∀ W, PcH w P E D (((f1, f2), (t1, t2)), (((l0, l1), (l2, l3)), ((h0, h1), (h2, h3)))) W → PcS w P E D f1 f2 t1 t2 l0 l1 l2 l3 h0 h1 h2 h3 (nl : Int) (nh : Int) W)) (hH : Hid (PcH w P E D (((f1, f2), (t1, t2)), (((l0, l1), (l2, l3)), ((h0, h1), (h2, h3)))) WP)) (hu : ∀ c, q.ownBlock = some c → w.heap.size + 1 ≤ c ∧ c < P) (o3 : WP.ownsRow (w.heap.size + 1) 9 1 q k (xs.map Value.string)) (hlo : xs.length = k) (hk : k ≤ 4000) (htW : Tab WP) (hwP : w.heap.size < P) (hsz : P < WP.heap.size)
    (hb1 : (-99999 ≤ f1 ∧ f1 ≤ 99999) ∧ (0 < f2 ∧ f2 ≤ 9999)) (hb2 : (-99999 ≤ t1 ∧ t1 ≤ 99999) ∧ (0 < t2 ∧ t2 ≤ 9999)) (hn1 : nl < 100) (hn2 : nh < 100)
    (x0 x1 x2 x3 x4 x6 x7 x9 x11 x12 x13 x14 x15 x16 x17 x18 x19 x20 x21 x22 x23 x24 x25 x26 x27 x28 x29 x30 x31 x32 x33 x34 x35 x36 x37 x38 x39 x40 x41 x42 x43 x44 x45 x46 x47 x48 x49 x50 x51 x52 : Value) :
    Code.wp Tryz.prog (Code.region 11 #[{ dst := some 29, op := Op.move (Operand.tmp 8), type := 71, pos := p0, after := #[], guard := none }, { dst := some 30, op := Op.fieldAddr 44 (Operand.tmp 10) 0, type := 0, pos := p0, after := #[], guard := none }, { dst := some 31, op := Op.load 38 (Operand.tmp 30), type := 38, pos := p0, after := #[{ on := 1, ground := Ground.data }], guard := none }, { dst := some 32, op := Op.call { callee := Callee.value (Operand.func 26), args := #[Operand.tmp 31], argTypes := #[38] }, type := 9, pos := p1, after := #[{ on := 2, ground := Ground.data }], guard := none }, { dst := some 33, op := Op.fieldAddr 44 (Operand.tmp 10) 1, type := 0, pos := p0, after := #[], guard := none }, { dst := some 34, op := Op.load 38 (Operand.tmp 33), type := 38, pos := p0, after := #[{ on := 4, ground := Ground.data }], guard := none }, { dst := some 35, op := Op.call { callee := Callee.value (Operand.func 26), args := #[Operand.tmp 34], argTypes := #[38] }, type := 9, pos := p1, after := #[{ on := 5, ground := Ground.data }, { on := 3, ground := Ground.chain }], guard := none }, { dst := some 36, op := Op.move (Operand.tmp 5), type := 70, pos := p0, after := #[], guard := none }, { dst := some 37, op := Op.fieldAddr 44 (Operand.tmp 10) 2, type := 0, pos := p0, after := #[], guard := none }, { dst := some 38, op := Op.load 42 (Operand.tmp 37), type := 42, pos := p0, after := #[{ on := 8, ground := Ground.data }], guard := none }, { dst := some 39, op := Op.lookup 70 (Operand.tmp 36) (Operand.tmp 38) false, type := 3, pos := p0, after := #[{ on := 7, ground := Ground.data }, { on := 9, ground := Ground.data }], guard := none }, { dst := some 40, op := Op.call { callee := Callee.value (Operand.func 27), args := #[Operand.tmp 39], argTypes := #[3] }, type := 9, pos := p2, after := #[{ on := 10, ground := Ground.data }, { on := 6, ground := Ground.chain }], guard := none }, { dst := some 41, op := Op.move (Operand.tmp 5), type := 70, pos := p0, after := #[], guard := none }, { dst := some 42, op := Op.fieldAddr 44 (Operand.tmp 10) 3, type := 0, pos := p0, after := #[], guard := none }, { dst := some 43, op := Op.load 42 (Operand.tmp 42), type := 42, pos := p0, after := #[{ on := 13, ground := Ground.data }], guard := none }, { dst := some 44, op := Op.lookup 70 (Operand.tmp 41) (Operand.tmp 43) false, type := 3, pos := p0, after := #[{ on := 12, ground := Ground.data }, { on := 14, ground := Ground.data }], guard := none }, { dst := some 45, op := Op.call { callee := Callee.value (Operand.func 27), args := #[Operand.tmp 44], argTypes := #[3] }, type := 9, pos := p2, after := #[{ on := 15, ground := Ground.data }, { on := 11, ground := Ground.chain }], guard := none }, { dst := some 46, op := Op.buildSlice 71 4 #[(0, Operand.tmp 32), (1, Operand.tmp 35), (2, Operand.tmp 40), (3, Operand.tmp 45)], type := 71, pos := p0, after := #[{ on := 3, ground := Ground.data }, { on := 6, ground := Ground.data }, { on := 11, ground := Ground.data }, { on := 16, ground := Ground.data }], guard := none }, { dst := some 47, op := Op.call { callee := Callee.value (Operand.func 25), args := #[Operand.tmp 46, Operand.const (Value.string { data := #[32] })], argTypes := #[71, 9] }, type := 9, pos := p0, after := #[{ on := 17, ground := Ground.data }, { on := 16, ground := Ground.chain }], guard := none }, { dst := some 48, op := Op.buildSlice 71 1 #[(0, Operand.tmp 47)], type := 71, pos := p0, after := #[{ on := 18, ground := Ground.data }], guard := none }, { dst := some 49, op := Op.call { callee := Callee.builtin Builtin.append, args := #[Operand.tmp 29, Operand.tmp 48], argTypes := #[71, 71] }, type := 71, pos := p0, after := #[{ on := 0, ground := Ground.data }, { on := 19, ground := Ground.data }, { on := 18, ground := Ground.chain }], guard := none }, { dst := some 8, op := Op.assign (Operand.tmp 49), type := 71, pos := p0, after := #[{ on := 20, ground := Ground.data }, { on := 20, ground := Ground.chain }, { on := 0, ground := Ground.phase }, { on := 1, ground := Ground.phase }, { on := 2, ground := Ground.phase }, { on := 3, ground := Ground.phase }, { on := 4, ground := Ground.phase }, { on := 5, ground := Ground.phase }, { on := 6, ground := Ground.phase }, { on := 7, ground := Ground.phase }, { on := 8, ground := Ground.phase }, { on := 9, ground := Ground.phase }, { on := 10, ground := Ground.phase }, { on := 11, ground := Ground.phase }, { on := 12, ground := Ground.phase }, { on := 13, ground := Ground.phase }, { on := 14, ground := Ground.phase }, { on := 15, ground := Ground.phase }, { on := 16, ground := Ground.phase }, { on := 17, ground := Ground.phase }, { on := 18, ground := Ground.phase }, { on := 19, ground := Ground.phase }, { on := 20, ground := Ground.phase }], guard := none }] true)
      (fun e a W' => e = .normal ∧ ∃ q' v29 v30 v31 v32 v33 v34 v35 v36 v37 v38 v39 v40 v41 v42 v43 v44 v45 v46 v47 v48 v49, a = { tmps := #[x0, x1, x2, x3, x4, .map (some w.heap.size), x6, x7, q', x9, .pointer (some ⟨P, 0, none⟩), x11, x12, x13, x14, x15, x16, x17, x18, x19, x20, x21, x22, x23, x24, x25, x26, x27, x28, v29, v30, v31, v32, v33, v34, v35, v36, v37, v38, v39, v40, v41, v42, v43, v44, v45, v46, v47, v48, v49, x50, x51, x52], defers := [] } ∧ WcI w W' E D q' (xs ++ [tx (Lib.join [frT (f1, f2), frT (t1, t2), Lib.itoa (nl : Int), Lib.itoa (nh : Int)] [32])]))
      { tmps := #[x0, x1, x2, x3, x4, .map (some w.heap.size), x6, x7, q, x9, .pointer (some ⟨P, 0, none⟩), x11, x12, x13, x14, x15, x16, x17, x18, x19, x20, x21, x22, x23, x24, x25, x26, x27, x28, x29, x30, x31, x32, x33, x34, x35, x36, x37, x38, x39, x40, x41, x42, x43, x44, x45, x46, x47, x48, x49, x50, x51, x52], defers := [] } WP := by
  obtain ⟨i0, hi, hz0, hz1, hz2⟩ := info_parts info9
  have lf := frT_len (f := (f1, f2)) (by dsimp only; omega) (by dsimp only; omega)
  have lt := frT_len (f := (t1, t2)) (by dsimp only; omega) (by dsimp only; omega)
  have ll := itoa_len8 (n := (nl : Int)) (by omega)
  have lh := itoa_len8 (n := (nh : Int)) (by omega)
  have lf2 : (frT (f1, f2)).length ≤ 100 := by omega
  have lt2 : (frT (t1, t2)).length ≤ 100 := by omega
  have ll2 : (Lib.itoa (nl : Int)).length ≤ 100 := by omega
  have lh2 : (Lib.itoa (nh : Int)).length ≤ 100 := by omega
  have hH := hide (PcH.call (Below.drew (Below.refl _ _)) hH.out)
  have o3 := row_call o3 (Below.drew (Below.refl _ _))
  have htW := tab_later htW (Below.drew (Below.refl _ _))
  have hsz : P < WP.drew.heap.size := by simpa using hsz
  refine wp_region_noPanic ?_
  refine wp_region_held_drew (S := PcS w P E D f1 f2 t1 t2 l0 l1 l2 l3 h0 h1 h2 h3 (nl : Int) (nh : Int)) (by kernel_rfl) (KS.out _ hH.out) (fun hHeld => ?_)
  refine wpAnyH_take (i := 0) (oi := { dst := some 29, op := Op.move (Operand.tmp 8), type := 71, pos := p0, after := #[], guard := none }) (v := q) rfl (by kernel_rfl) (by kernel_rfl) (by kernel_rfl) (fun _ _ _ h => h) (Or.inl ⟨by rfl, ?_⟩) hHeld ?_
  · intro W hSw
    obtain ⟨c0, c1, c2, c3, c4, c5, c6, c7, c8, c9, c10, c11, k1, k2, _⟩ := hSw
    clear hHeld hH KS o3 htW hu lf lt ll lh lf2 lt2 ll2 lh2
    go_simp
  try simp only [Act.put, List.setIfInBounds_toArray, List.set_cons_zero, List.set_cons_succ]
  refine wpAnyH_take (i := 1) (oi := { dst := some 30, op := Op.fieldAddr 44 (Operand.tmp 10) 0, type := 0, pos := p0, after := #[], guard := none }) (v := .pointer (some ⟨P, 0, none⟩)) rfl (by kernel_rfl) (by kernel_rfl) (by kernel_rfl) (fun _ _ _ h => h) (Or.inl ⟨by rfl, ?_⟩) hHeld ?_
  · intro W hSw
    obtain ⟨c0, c1, c2, c3, c4, c5, c6, c7, c8, c9, c10, c11, k1, k2, _⟩ := hSw
    clear hHeld hH KS o3 htW hu lf lt ll lh lf2 lt2 ll2 lh2
    go_simp
  try simp only [Act.put, List.setIfInBounds_toArray, List.set_cons_zero, List.set_cons_succ]
  refine wpAnyH_take (i := 2) (oi := { dst := some 31, op := Op.load 38 (Operand.tmp 30), type := 38, pos := p0, after := #[{ on := 1, ground := Ground.data }], guard := none }) (v := .agg #[.int .i64 f1, .int .i64 f2]) rfl (by kernel_rfl) (by kernel_rfl) (by kernel_rfl) (fun _ _ _ h => h) (Or.inl ⟨by rfl, ?_⟩) hHeld ?_
  · intro W hSw
    obtain ⟨c0, c1, c2, c3, c4, c5, c6, c7, c8, c9, c10, c11, k1, k2, _⟩ := hSw
    clear hHeld hH KS o3 htW hu lf lt ll lh lf2 lt2 ll2 lh2
    go_simp
  try simp only [Act.put, List.setIfInBounds_toArray, List.set_cons_zero, List.set_cons_succ]
  refine wpAnyH_take (i := 4) (oi := { dst := some 33, op := Op.fieldAddr 44 (Operand.tmp 10) 1, type := 0, pos := p0, after := #[], guard := none }) (v := .pointer (some ⟨P, 2, none⟩)) rfl (by kernel_rfl) (by kernel_rfl) (by kernel_rfl) (fun _ _ _ h => h) (Or.inl ⟨by rfl, ?_⟩) hHeld ?_
  · intro W hSw
    obtain ⟨c0, c1, c2, c3, c4, c5, c6, c7, c8, c9, c10, c11, k1, k2, _⟩ := hSw
    clear hHeld hH KS o3 htW hu lf lt ll lh lf2 lt2 ll2 lh2
    go_simp
  try simp only [Act.put, List.setIfInBounds_toArray, List.set_cons_zero, List.set_cons_succ]
  refine wpAnyH_take (i := 5) (oi := { dst := some 34, op := Op.load 38 (Operand.tmp 33), type := 38, pos := p0, after := #[{ on := 4, ground := Ground.data }], guard := none }) (v := .agg #[.int .i64 t1, .int .i64 t2]) rfl (by kernel_rfl) (by kernel_rfl) (by kernel_rfl) (fun _ _ _ h => h) (Or.inl ⟨by rfl, ?_⟩) hHeld ?_
  · intro W hSw
    obtain ⟨c0, c1, c2, c3, c4, c5, c6, c7, c8, c9, c10, c11, k1, k2, _⟩ := hSw
    clear hHeld hH KS o3 htW hu lf lt ll lh lf2 lt2 ll2 lh2
    go_simp
  try simp only [Act.put, List.setIfInBounds_toArray, List.set_cons_zero, List.set_cons_succ]
  refine wpAnyH_take (i := 7) (oi := { dst := some 36, op := Op.move (Operand.tmp 5), type := 70, pos := p0, after := #[], guard := none }) (v := .map (some w.heap.size)) rfl (by kernel_rfl) (by kernel_rfl) (by kernel_rfl) (fun _ _ _ h => h) (Or.inl ⟨by rfl, ?_⟩) hHeld ?_
  · intro W hSw
    obtain ⟨c0, c1, c2, c3, c4, c5, c6, c7, c8, c9, c10, c11, k1, k2, _⟩ := hSw
    clear hHeld hH KS o3 htW hu lf lt ll lh lf2 lt2 ll2 lh2
    go_simp
  try simp only [Act.put, List.setIfInBounds_toArray, List.set_cons_zero, List.set_cons_succ]
  refine wpAnyH_take (i := 8) (oi := { dst := some 37, op := Op.fieldAddr 44 (Operand.tmp 10) 2, type := 0, pos := p0, after := #[], guard := none }) (v := .pointer (some ⟨P, 4, none⟩)) rfl (by kernel_rfl) (by kernel_rfl) (by kernel_rfl) (fun _ _ _ h => h) (Or.inl ⟨by rfl, ?_⟩) hHeld ?_
  · intro W hSw
    obtain ⟨c0, c1, c2, c3, c4, c5, c6, c7, c8, c9, c10, c11, k1, k2, _⟩ := hSw
    clear hHeld hH KS o3 htW hu lf lt ll lh lf2 lt2 ll2 lh2
    go_simp
  try simp only [Act.put, List.setIfInBounds_toArray, List.set_cons_zero, List.set_cons_succ]
  refine wpAnyH_take (i := 9) (oi := { dst := some 38, op := Op.load 42 (Operand.tmp 37), type := 42, pos := p0, after := #[{ on := 8, ground := Ground.data }], guard := none }) (v := .agg #[.int .i64 l0, .int .i64 l1, .int .i64 l2, .int .i64 l3]) rfl (by kernel_rfl) (by kernel_rfl) (by kernel_rfl) (fun _ _ _ h => h) (Or.inl ⟨by rfl, ?_⟩) hHeld ?_
  · intro W hSw
    obtain ⟨c0, c1, c2, c3, c4, c5, c6, c7, c8, c9, c10, c11, k1, k2, _⟩ := hSw
    clear hHeld hH KS o3 htW hu lf lt ll lh lf2 lt2 ll2 lh2
    go_simp
  try simp only [Act.put, List.setIfInBounds_toArray, List.set_cons_zero, List.set_cons_succ]
  refine wpAnyH_take (i := 10) (oi := { dst := some 39, op := Op.lookup 70 (Operand.tmp 36) (Operand.tmp 38) false, type := 3, pos := p0, after := #[{ on := 7, ground := Ground.data }, { on := 9, ground := Ground.data }], guard := none }) (v := .int .i64 (nl : Int)) rfl (by kernel_rfl) (by kernel_rfl) (by kernel_rfl) (fun _ _ _ h => h) (Or.inl ⟨by rfl, ?_⟩) hHeld ?_
  · intro W hSw
    obtain ⟨c0, c1, c2, c3, c4, c5, c6, c7, c8, c9, c10, c11, k1, k2, _⟩ := hSw
    clear hHeld hH KS o3 htW hu lf lt ll lh lf2 lt2 ll2 lh2
    go_simp
  try simp only [Act.put, List.setIfInBounds_toArray, List.set_cons_zero, List.set_cons_succ]
  refine wpAnyH_take (i := 12) (oi := { dst := some 41, op := Op.move (Operand.tmp 5), type := 70, pos := p0, after := #[], guard := none }) (v := .map (some w.heap.size)) rfl (by kernel_rfl) (by kernel_rfl) (by kernel_rfl) (fun _ _ _ h => h) (Or.inl ⟨by rfl, ?_⟩) hHeld ?_
  · intro W hSw
    obtain ⟨c0, c1, c2, c3, c4, c5, c6, c7, c8, c9, c10, c11, k1, k2, _⟩ := hSw
    clear hHeld hH KS o3 htW hu lf lt ll lh lf2 lt2 ll2 lh2
    go_simp
  try simp only [Act.put, List.setIfInBounds_toArray, List.set_cons_zero, List.set_cons_succ]
  refine wpAnyH_take (i := 13) (oi := { dst := some 42, op := Op.fieldAddr 44 (Operand.tmp 10) 3, type := 0, pos := p0, after := #[], guard := none }) (v := .pointer (some ⟨P, 8, none⟩)) rfl (by kernel_rfl) (by kernel_rfl) (by kernel_rfl) (fun _ _ _ h => h) (Or.inl ⟨by rfl, ?_⟩) hHeld ?_
  · intro W hSw
    obtain ⟨c0, c1, c2, c3, c4, c5, c6, c7, c8, c9, c10, c11, k1, k2, _⟩ := hSw
    clear hHeld hH KS o3 htW hu lf lt ll lh lf2 lt2 ll2 lh2
    go_simp
  try simp only [Act.put, List.setIfInBounds_toArray, List.set_cons_zero, List.set_cons_succ]
  refine wpAnyH_take (i := 14) (oi := { dst := some 43, op := Op.load 42 (Operand.tmp 42), type := 42, pos := p0, after := #[{ on := 13, ground := Ground.data }], guard := none }) (v := .agg #[.int .i64 h0, .int .i64 h1, .int .i64 h2, .int .i64 h3]) rfl (by kernel_rfl) (by kernel_rfl) (by kernel_rfl) (fun _ _ _ h => h) (Or.inl ⟨by rfl, ?_⟩) hHeld ?_
  · intro W hSw
    obtain ⟨c0, c1, c2, c3, c4, c5, c6, c7, c8, c9, c10, c11, k1, k2, _⟩ := hSw
    clear hHeld hH KS o3 htW hu lf lt ll lh lf2 lt2 ll2 lh2
    go_simp
  try simp only [Act.put, List.setIfInBounds_toArray, List.set_cons_zero, List.set_cons_succ]
  refine wpAnyH_take (i := 15) (oi := { dst := some 44, op := Op.lookup 70 (Operand.tmp 41) (Operand.tmp 43) false, type := 3, pos := p0, after := #[{ on := 12, ground := Ground.data }, { on := 14, ground := Ground.data }], guard := none }) (v := .int .i64 (nh : Int)) rfl (by kernel_rfl) (by kernel_rfl) (by kernel_rfl) (fun _ _ _ h => h) (Or.inl ⟨by rfl, ?_⟩) hHeld ?_
  · intro W hSw
    obtain ⟨c0, c1, c2, c3, c4, c5, c6, c7, c8, c9, c10, c11, k1, k2, _⟩ := hSw
    clear hHeld hH KS o3 htW hu lf lt ll lh lf2 lt2 ll2 lh2
    go_simp
  try simp only [Act.put, List.setIfInBounds_toArray, List.set_cons_zero, List.set_cons_succ]
  refine wpAnyH_ready (rs := [3]) (by kernel_rfl) (by simp) ?_
  refine AllReadyH.cons (o := { dst := some 32, op := Op.call { callee := Callee.value (Operand.func 26), args := #[Operand.tmp 31], argTypes := #[38] }, type := 9, pos := p1, after := #[{ on := 2, ground := Ground.data }], guard := none }) rfl (fun K hK => ?_) AllReadyH.nil
  go_simp
  go_at_call 26
  refine (writeFrac_any _ _ _ ?_ ?_ htW).mono ?_
  omega
  omega
  rintro e w'' ⟨rfl, hb'⟩
  have htW := tab_later htW hb'
  have o3 := row_call o3 hb'
  have hsz := Nat.lt_of_lt_of_le hsz hb'.size
  try go_wp2_with fail
  refine hK.out _ _ ?_ (fun hHeld2 => ?_)
  · exact KS.out _ (PcH.call hb' hH.out)
  have hH := hide (PcH.call hb' hH.out)
  clear hK K hHeld
  have hHeld := hHeld2
  clear hHeld2
  try simp only [Act.put, List.setIfInBounds_toArray, List.set_cons_zero, List.set_cons_succ]
  clear hb'
  refine wpAnyH_ready (rs := [6]) (by kernel_rfl) (by simp) ?_
  refine AllReadyH.cons (o := { dst := some 35, op := Op.call { callee := Callee.value (Operand.func 26), args := #[Operand.tmp 34], argTypes := #[38] }, type := 9, pos := p1, after := #[{ on := 5, ground := Ground.data }, { on := 3, ground := Ground.chain }], guard := none }) rfl (fun K hK => ?_) AllReadyH.nil
  go_simp
  go_at_call 26
  refine (writeFrac_any _ _ _ ?_ ?_ htW).mono ?_
  omega
  omega
  rintro e w'' ⟨rfl, hb'⟩
  have htW := tab_later htW hb'
  have o3 := row_call o3 hb'
  have hsz := Nat.lt_of_lt_of_le hsz hb'.size
  try go_wp2_with fail
  refine hK.out _ _ ?_ (fun hHeld2 => ?_)
  · exact KS.out _ (PcH.call hb' hH.out)
  have hH := hide (PcH.call hb' hH.out)
  clear hK K hHeld
  have hHeld := hHeld2
  clear hHeld2
  try simp only [Act.put, List.setIfInBounds_toArray, List.set_cons_zero, List.set_cons_succ]
  clear hb'
  refine wpAnyH_ready (rs := [11]) (by kernel_rfl) (by simp) ?_
  refine AllReadyH.cons (o := { dst := some 40, op := Op.call { callee := Callee.value (Operand.func 27), args := #[Operand.tmp 39], argTypes := #[3] }, type := 9, pos := p2, after := #[{ on := 10, ground := Ground.data }, { on := 6, ground := Ground.chain }], guard := none }) rfl (fun K hK => ?_) AllReadyH.nil
  go_simp
  go_at_call 27
  refine (itoa_tx _ ?_ _ htW).mono ?_
  omega
  rintro e w'' ⟨rfl, hb'⟩
  have htW := tab_later htW hb'
  have o3 := row_call o3 hb'
  have hsz := Nat.lt_of_lt_of_le hsz hb'.size
  try go_wp2_with fail
  refine hK.out _ _ ?_ (fun hHeld2 => ?_)
  · exact KS.out _ (PcH.call hb' hH.out)
  have hH := hide (PcH.call hb' hH.out)
  clear hK K hHeld
  have hHeld := hHeld2
  clear hHeld2
  try simp only [Act.put, List.setIfInBounds_toArray, List.set_cons_zero, List.set_cons_succ]
  clear hb'
  refine wpAnyH_ready (rs := [16]) (by kernel_rfl) (by simp) ?_
  refine AllReadyH.cons (o := { dst := some 45, op := Op.call { callee := Callee.value (Operand.func 27), args := #[Operand.tmp 44], argTypes := #[3] }, type := 9, pos := p2, after := #[{ on := 15, ground := Ground.data }, { on := 11, ground := Ground.chain }], guard := none }) rfl (fun K hK => ?_) AllReadyH.nil
  go_simp
  go_at_call 27
  refine (itoa_tx _ ?_ _ htW).mono ?_
  omega
  rintro e w'' ⟨rfl, hb'⟩
  have htW := tab_later htW hb'
  have o3 := row_call o3 hb'
  have hsz := Nat.lt_of_lt_of_le hsz hb'.size
  try go_wp2_with fail
  refine hK.out _ _ ?_ (fun hHeld2 => ?_)
  · exact KS.out _ (PcH.call hb' hH.out)
  have hH := hide (PcH.call hb' hH.out)
  clear hK K hHeld
  have hHeld := hHeld2
  clear hHeld2
  try simp only [Act.put, List.setIfInBounds_toArray, List.set_cons_zero, List.set_cons_succ]
  clear hb'
  refine wpAnyH_ready (rs := [17]) (by kernel_rfl) (by simp) ?_
  refine AllReadyH.cons (o := { dst := some 46, op := Op.buildSlice 71 4 #[(0, Operand.tmp 32), (1, Operand.tmp 35), (2, Operand.tmp 40), (3, Operand.tmp 45)], type := 71, pos := p0, after := #[{ on := 3, ground := Ground.data }, { on := 6, ground := Ground.data }, { on := 11, ground := Ground.data }, { on := 16, ground := Ground.data }], guard := none }) rfl (fun K hK => ?_) AllReadyH.nil
  go_simp
  have htW := tab_later htW (below1 _ (.cells #[.string (tx (frT (f1, f2))), .string (tx (frT (t1, t2))), .string (tx (Lib.itoa (nl : Int))), .string (tx (Lib.itoa (nh : Int)))] 9))
  have o3 := o3.alloc (.cells #[.string (tx (frT (f1, f2))), .string (tx (frT (t1, t2))), .string (tx (Lib.itoa (nl : Int))), .string (tx (Lib.itoa (nh : Int)))] 9)
  have hsz := Nat.lt_of_lt_of_le hsz (below1 _ (.cells #[.string (tx (frT (f1, f2))), .string (tx (frT (t1, t2))), .string (tx (Lib.itoa (nl : Int))), .string (tx (Lib.itoa (nh : Int)))] 9)).size
  refine hK.out _ _ ?_ (fun hHeld2 => ?_)
  · exact KS.out _ (PcH.call (below1 _ (.cells #[.string (tx (frT (f1, f2))), .string (tx (frT (t1, t2))), .string (tx (Lib.itoa (nl : Int))), .string (tx (Lib.itoa (nh : Int)))] 9)) hH.out)
  have hH := hide (PcH.call (below1 _ (.cells #[.string (tx (frT (f1, f2))), .string (tx (frT (t1, t2))), .string (tx (Lib.itoa (nl : Int))), .string (tx (Lib.itoa (nh : Int)))] 9)) hH.out)
  clear hK K hHeld
  have hHeld := hHeld2
  clear hHeld2
  try simp only [Act.put, List.setIfInBounds_toArray, List.set_cons_zero, List.set_cons_succ]
  refine wpAnyH_ready (rs := [18]) (by kernel_rfl) (by simp) ?_
  refine AllReadyH.cons (o := { dst := some 47, op := Op.call { callee := Callee.value (Operand.func 25), args := #[Operand.tmp 46, Operand.const (Value.string { data := #[32] })], argTypes := #[71, 9] }, type := 9, pos := p0, after := #[{ on := 17, ground := Ground.data }, { on := 16, ground := Ground.chain }], guard := none }) rfl (fun K hK => ?_) AllReadyH.nil
  go_simp
  go_at_call 25
  refine (join4 _ _ _ _ _ _ lf2 lt2 ll2 lh2).mono ?_
  rintro e w'' ⟨rfl, hb'⟩
  have htW := tab_later htW hb'
  have o3 := row_call o3 hb'
  have hsz := Nat.lt_of_lt_of_le hsz hb'.size
  try go_wp2_with fail
  refine hK.out _ _ ?_ (fun hHeld2 => ?_)
  · exact KS.out _ (PcH.call hb' hH.out)
  have hH := hide (PcH.call hb' hH.out)
  clear hK K hHeld
  have hHeld := hHeld2
  clear hHeld2
  try simp only [Act.put, List.setIfInBounds_toArray, List.set_cons_zero, List.set_cons_succ]
  clear hb'
  refine wpAnyH_ready (rs := [19]) (by kernel_rfl) (by simp) ?_
  refine AllReadyH.cons (o := { dst := some 48, op := Op.buildSlice 71 1 #[(0, Operand.tmp 47)], type := 71, pos := p0, after := #[{ on := 18, ground := Ground.data }], guard := none }) rfl (fun K hK => ?_) AllReadyH.nil
  go_simp
  refine hK.out _ _ ?_ (fun hHeld2 => ?_)
  · exact KS.out _ (PcH.call (below1 _ (.cells #[.string (tx (Lib.join [frT (f1, f2), frT (t1, t2), Lib.itoa (nl : Int), Lib.itoa (nh : Int)] [32]))] 9)) hH.out)
  have hH := hide (PcH.call (below1 _ (.cells #[.string (tx (Lib.join [frT (f1, f2), frT (t1, t2), Lib.itoa (nl : Int), Lib.itoa (nh : Int)] [32]))] 9)) hH.out)
  clear hK K hHeld
  have hHeld := hHeld2
  clear hHeld2
  try simp only [Act.put, List.setIfInBounds_toArray, List.set_cons_zero, List.set_cons_succ]
  refine wpAnyH_ready (rs := [20]) (by kernel_rfl) (by simp) ?_
  refine AllReadyH.cons (o := { dst := some 49, op := Op.call { callee := Callee.builtin Builtin.append, args := #[Operand.tmp 29, Operand.tmp 48], argTypes := #[71, 71] }, type := 71, pos := p0, after := #[{ on := 0, ground := Ground.data }, { on := 19, ground := Ground.data }, { on := 18, ground := Ground.chain }], guard := none }) rfl (fun K hK => ?_) AllReadyH.nil
  refine step_append_lies _ (by rfl) _ _ _ (by rfl) (w.heap.size + 1) 9 i0 _ 1 16 Tryz.underlying71 hi hz0 hz1 hz2 rfl (by omega) q k (xs.map Value.string) (by rfl) (o3.alloc _)
    ⟨w''.heap.size, 0, none⟩ 1 1 [.string (tx (Lib.join [frT (f1, f2), frT (t1, t2), Lib.itoa (nl : Int), Lib.itoa (nh : Int)] [32]))] (by rfl) (by rfl) (World.news_of_block (cs := #[.string (tx (Lib.join [frT (f1, f2), frT (t1, t2), Lib.itoa (nl : Int), Lib.itoa (nh : Int)] [32]))]) (t := 9) (fr := (0, 0)) (heap_alloc_new w'' _)) (by simp [Value.oneCell'])
    (by omega) (by unfold maxLen; omega) (by omega) (by simp; omega) (w''.heap.size + 1) (by simp) ?_
  intro gg cap' w1 hown1 hgrow hat hlt'
  refine hK.out _ _ ?_ (fun hHeld2 => ?_)
  · exact KS.out _ (PcH.app hgrow hu hH.out)
  have hH := hide (PcH.app hgrow hu hH.out)
  clear hK K hHeld
  have hHeld := hHeld2
  clear hHeld2
  try simp only [Act.put, List.setIfInBounds_toArray, List.set_cons_zero, List.set_cons_succ]
  refine wpAnyH_take (i := 21) (oi := { dst := some 8, op := Op.assign (Operand.tmp 49), type := 71, pos := p0, after := #[{ on := 20, ground := Ground.data }, { on := 20, ground := Ground.chain }, { on := 0, ground := Ground.phase }, { on := 1, ground := Ground.phase }, { on := 2, ground := Ground.phase }, { on := 3, ground := Ground.phase }, { on := 4, ground := Ground.phase }, { on := 5, ground := Ground.phase }, { on := 6, ground := Ground.phase }, { on := 7, ground := Ground.phase }, { on := 8, ground := Ground.phase }, { on := 9, ground := Ground.phase }, { on := 10, ground := Ground.phase }, { on := 11, ground := Ground.phase }, { on := 12, ground := Ground.phase }, { on := 13, ground := Ground.phase }, { on := 14, ground := Ground.phase }, { on := 15, ground := Ground.phase }, { on := 16, ground := Ground.phase }, { on := 17, ground := Ground.phase }, { on := 18, ground := Ground.phase }, { on := 19, ground := Ground.phase }, { on := 20, ground := Ground.phase }], guard := none }) (v := (.slice (some ⟨gg, 0, none⟩) (k + 1) cap')) rfl (by kernel_rfl) (by kernel_rfl) (by kernel_rfl) (fun _ _ _ h => h) (Or.inl ⟨by rfl, ?_⟩) hHeld ?_
  · intro W hSw
    obtain ⟨c0, c1, c2, c3, c4, c5, c6, c7, c8, c9, c10, c11, k1, k2, _⟩ := hSw
    clear hHeld hH KS o3 htW hu lf lt ll lh lf2 lt2 ll2 lh2
    go_simp
  try simp only [Act.put, List.setIfInBounds_toArray, List.set_cons_zero, List.set_cons_succ]
  refine wpAnyH_done (by kernel_rfl) ?_ _
  refine NoPanic.normal ?_
  refine ⟨rfl, _, _, _, _, _, _, _, _, _, _, _, _, _, _, _, _, _, _, _, _, _, _, rfl, ?_, hH.out.mv, hH.out.bel⟩
  rw [List.length_append, hlo, List.map_append]
  exact hown1
end Go.Proofs.YtkjlkbgdkdcboaaGreatDoor
namespace Go.Proofs.YtkjlkbgdkdcboaaGreatDoor
open Go.RowKit Go.Maps
attribute [local go_sem ↓] Go.wp_at_zero Go.wp_at_succ
set_option maxRecDepth 100000 in
set_option maxHeartbeats 4000000 in
theorem writeCert_any (E : List Acre.Ed) (ps : List Acre.Pc) (u v : Value) (b1 b2 : Nat) (w : World) (hP : w.ownsRow b1 44 12 v ps.length (flatP ps)) (hE : w.ownsRow b2 42 4 u E.length (flatE E))
    (hsm : ∀ e ∈ E, SmE e) (hEl : E.length ≤ 24) (hpl : ps.length ≤ 4000) (hpe : ∀ p ∈ ps, p.2.1 ∈ E ∧ p.2.2 ∈ E) (hpc : ∀ p ∈ ps, FrB p.1.1 ∧ FrB p.1.2) (ht : Tab w) :
    Calls Tryz.prog 14 #[v, u] w fun e w' => ∃ s : ByteArray, e = .returned (.string s) ∧ s.data.toList = certT (ps.map (wrOf E)) ∧ Below w.heap.size w w' := by
  have hmm := @run_makeMap Tryz.prog
  obtain ⟨i0, hi, hz0, hz1, hz2⟩ := info_parts info9
  obtain ⟨ga, gb, gcap, rfl, hga, hcap⟩ := row_form hE
  obtain ⟨pa, pb, pcap, rfl, hpa, hpcap⟩ := row_form hP
  go_enter Tryz.func14, Tryz.ntmps14
  go_wp2
  go_loopw [14] (fun i wr => ∃ k : Nat, i = .int .i64 k ∧ k ≤ E.length ∧ Hid (NuI w wr E k)) (fun i _ => E.length - (intOf i).toNat)
  case atStart =>
    refine ⟨0, rfl, Nat.zero_le _, ?_⟩
    show NuI _ _ _ _
    exact ⟨⟨_, MV.new (kt := 42) (key := keE) (ok := WfE) w⟩, below1 _ _⟩
  case round =>
    obtain ⟨k, rfl, hk, hr⟩ := hrel
    by_cases hlt : k < E.length
    · obtain rfl := hga (by omega)
      obtain ⟨x0, x1, x2, x3⟩ := rowE_cells hE k hlt
      obtain ⟨⟨D, hD⟩, hbel⟩ := hr.out
      have y0 := cell_later hbel x0
      have y1 := cell_later hbel x1
      have y2 := cell_later hbel x2
      have y3 := cell_later hbel x3
      have hse := hsm E[k] (List.getElem_mem hlt)
      have hgd : Acre.gd E k = E[k] := by unfold Acre.gd; simp [hlt]
      clear x0 x1 x2 x3 hr
      obtain ⟨⟨⟨e0, e1⟩, ⟨e2, e3⟩⟩, he⟩ : ∃ e, E[k] = e := ⟨_, rfl⟩
      rw [he] at y0 y1 y2 y3 hse hgd
      dsimp only at y0 y1 y2 y3
      have HSe := hide hse
      have Hgd := hide hgd
      have hq := below1 wr (.cells #[.int .i64 e0, .int .i64 e1, .int .i64 e2, .int .i64 e3] 42)
      have hD2 := hD.later hq
      have Hbel := hide (below_call hq hbel)
      have bE := Box.new wr [.int .i64 e0, .int .i64 e1, .int .i64 e2, .int .i64 e3] 42
      have hlt2 := hD.lt
      go_upto_region 5 with fail
      clear y0 y1 y2 y3 he hgd hse hD hbel hq
      generalize wr.alloc (.cells #[.int .i64 e0, .int .i64 e1, .int .i64 e2, .int .i64 e3] 42) = WP at *
      generalize wr.heap.size = B at *
      have c0 := bE.c 0 _ rfl
      have c1 := bE.c 1 _ rfl
      have c2 := bE.c 2 _ rfl
      have c3 := bE.c 3 _ rfl
      obtain ⟨w1, hu, hMV, hg1⟩ := hD2.update ktE Tryz.underlying70 (by unfold maxLen; omega) HSe.out.wf (.int .i64 k)
      have HN : Hid (NuI w w1 E (k + 1)) := by
        show NuI _ _ _ _
        rw [← Hgd.out, upd_last E k] at hMV
        exact ⟨⟨_, hMV⟩, Hbel.out.grown hg1 Hbel.out.size (fun c hc => by cases hc; exact Nat.le_refl _)⟩
      unfold edV at hu
      dsimp only at hu
      clear hMV hg1 hD2 bE
      go_wp2
      go_roundw
      case rel => exact ⟨k + 1, by go_num, by omega, HN.out⟩
      case measure => simp [intOf]; omega
    · obtain rfl : k = E.length := by omega
      obtain ⟨⟨D, hD⟩, hbel⟩ := hr.out
      have HD := hide hD
      have Hbel := hide hbel
      clear hD hbel hr
      go_wp2
      go_loopw [8, 25] (fun q i wr => ∃ k : Nat, i = .int .i64 k ∧ k ≤ ps.length ∧ Hid (WcI w wr E D q ((ps.take k).map (pcT E)))) (fun _ i _ => ps.length - (intOf i).toNat)
      case atStart => exact ⟨0, rfl, Nat.zero_le _, ⟨World.ownsRow_nil _ _ _ _, HD.out, Hbel.out⟩⟩
      case round =>
        obtain ⟨k, rfl, hk, hr⟩ := hrel
        by_cases hlt : k < ps.length
        · obtain rfl := hpa (by omega)
          have hlo : ((ps.take k).map (pcT E)).length = k := by rw [List.length_map, List.length_take]; omega
          have hst : (ps.take (k + 1)).map (pcT E) = (ps.take k).map (pcT E) ++ [pcT E ps[k]] := by rw [List.take_succ_eq_append_getElem hlt, List.map_append]; rfl
          have hcell : ∀ j v, j < 12 → (pcL ps[k])[j]? = some v → w.cell? ⟨pb, k * 12 + j, none⟩ = some v := fun j v hj hv => by
            have := row_at (f := pcL) (m := 12) (fun _ => rfl) hP k j hlt hj
            rw [this]
            exact hv
          have hpek := hpe ps[k] (List.getElem_mem hlt)
          have hpck := hpc ps[k] (List.getElem_mem hlt)
          generalize (ps.take k).map (pcT E) = xs at *
          obtain ⟨pc, hpceq⟩ : ∃ pc, ps[k] = pc := ⟨_, rfl⟩
          rw [hpceq] at hst hcell hpek hpck
          have hb1 := hpck.1
          have hb2 := hpck.2
          unfold FrB at hb1 hb2
          have hs1 := hsm _ hpek.1
          have hs2 := hsm _ hpek.2
          have hn1 := numN_lt hpek.1 hEl
          have hn2 := numN_lt hpek.2 hEl
          have Hlo := hide (And.intro hpek.1 hs1)
          have Hhi := hide (And.intro hpek.2 hs2)
          obtain ⟨⟨⟨f1, f2⟩, ⟨t1, t2⟩⟩, ⟨⟨⟨l0, l1⟩, ⟨l2, l3⟩⟩, ⟨⟨h0, h1⟩, ⟨h2, h3⟩⟩⟩⟩ := pc
          dsimp only at hb1 hb2 hn1 hn2 Hlo Hhi
          have M0 := cell_later hr.out.bel (hcell 0 _ (by omega) rfl)
          have M1 := cell_later hr.out.bel (hcell 1 _ (by omega) rfl)
          have M2 := cell_later hr.out.bel (hcell 2 _ (by omega) rfl)
          have M3 := cell_later hr.out.bel (hcell 3 _ (by omega) rfl)
          have M4 := cell_later hr.out.bel (hcell 4 _ (by omega) rfl)
          have M5 := cell_later hr.out.bel (hcell 5 _ (by omega) rfl)
          have M6 := cell_later hr.out.bel (hcell 6 _ (by omega) rfl)
          have M7 := cell_later hr.out.bel (hcell 7 _ (by omega) rfl)
          have M8 := cell_later hr.out.bel (hcell 8 _ (by omega) rfl)
          have M9 := cell_later hr.out.bel (hcell 9 _ (by omega) rfl)
          have M10 := cell_later hr.out.bel (hcell 10 _ (by omega) rfl)
          have M11 := cell_later hr.out.bel (hcell 11 _ (by omega) rfl)
          simp only [Nat.add_zero] at M0
          have hI := hr.out
          have hq := below1 wr (.cells #[.int .i64 f1, .int .i64 f2, .int .i64 t1, .int .i64 t2, .int .i64 l0, .int .i64 l1, .int .i64 l2, .int .i64 l3, .int .i64 h0, .int .i64 h1, .int .i64 h2, .int .i64 h3] 44)
          have hH : PcH w wr.heap.size E D (((f1, f2), (t1, t2)), (((l0, l1), (l2, l3)), ((h0, h1), (h2, h3)))) (wr.alloc (.cells #[.int .i64 f1, .int .i64 f2, .int .i64 t1, .int .i64 t2, .int .i64 l0, .int .i64 l1, .int .i64 l2, .int .i64 l3, .int .i64 h0, .int .i64 h1, .int .i64 h2, .int .i64 h3] 44)) :=
            ⟨Box.new wr _ 44, hI.mv.later hq, below_call hq hI.bel⟩
          have o3 := row_call hI.row hq
          have hu : ∀ c, u8.ownBlock = some c → w.heap.size + 1 ≤ c ∧ c < wr.heap.size := hI.row.lt
          have htW := tab_later (tab_later ht hI.bel) hq
          have hwP : w.heap.size < wr.heap.size := hI.mv.lt
          have hsz : wr.heap.size < (wr.alloc (.cells #[.int .i64 f1, .int .i64 f2, .int .i64 t1, .int .i64 t2, .int .i64 l0, .int .i64 l1, .int .i64 l2, .int .i64 l3, .int .i64 h0, .int .i64 h1, .int .i64 h2, .int .i64 h3] 44)).heap.size := by simp
          have Hst := hide hst
          have HH := hide hH
          have lf := frT_len (f := (f1, f2)) (by dsimp only; omega) (by dsimp only; omega)
          have lt := frT_len (f := (t1, t2)) (by dsimp only; omega) (by dsimp only; omega)
          have hpt : pcT E (((f1, f2), (t1, t2)), (((l0, l1), (l2, l3)), ((h0, h1), (h2, h3)))) = tx (Lib.join [frT (f1, f2), frT (t1, t2), Lib.itoa (numN E ((l0, l1), (l2, l3)) : Int), Lib.itoa (numN E ((h0, h1), (h2, h3)) : Int)] [32]) := by
            rw [itoa_nat, itoa_nat]
            exact congrArg tx (join_wr (wrOf E (((f1, f2), (t1, t2)), (((l0, l1), (l2, l3)), ((h0, h1), (h2, h3)))))).symm
          have KS0 := fun W (h : PcH w wr.heap.size E D (((f1, f2), (t1, t2)), (((l0, l1), (l2, l3)), ((h0, h1), (h2, h3)))) W) => PcS.of Hlo.out Hhi.out h
          rw [hpt] at hst
          clear hpt
          generalize numN E ((l0, l1), (l2, l3)) = nl at *
          generalize numN E ((h0, h1), (h2, h3)) = nh at *
          have ll := itoa_len8 (n := (nl : Int)) (by omega)
          have lh := itoa_len8 (n := (nh : Int)) (by omega)
          have Hst := hide hst
          have KS := hide KS0
          have HH := hide hH
          clear hr hI hst hcell hpek hpck hpceq hs1 hs2 hq hH KS0 Hlo Hhi
          go_upto_region 11 with fail
          clear M0 M1 M2 M3 M4 M5 M6 M7 M8 M9 M10 M11
          generalize wr.alloc (.cells #[.int .i64 f1, .int .i64 f2, .int .i64 t1, .int .i64 t2, .int .i64 l0, .int .i64 l1, .int .i64 l2, .int .i64 l3, .int .i64 h0, .int .i64 h1, .int .i64 h2, .int .i64 h3] 44) = WP at *
          generalize wr.heap.size = P at *
          rw [hlo] at o3
          clear hmm hsm hpe hpc ht hE hP hga hpa HD Hbel hcap hpcap
          refine Code.wp_mono ?_ (reg11 w WP P k E D f1 f2 t1 t2 l0 l1 l2 l3 h0 h1 h2 h3 nl nh _ xs KS HH hu o3 hlo (by omega) htW hwP hsz hb1 hb2 hn1 hn2 _ _ _ _ _ _ _ _ _ _ _ _ _ _ _ _ _ _ _ _ _ _ _ _ _ _ _ _ _ _ _ _ _ _ _ _ _ _ _ _ _ _ _ _ _ _ _ _ _ _)
          rintro e a' W' ⟨rfl, q', v29, v30, v31, v32, v33, v34, v35, v36, v37, v38, v39, v40, v41, v42, v43, v44, v45, v46, v47, v48, v49, rfl, hI⟩
          have HN : Hid (WcI w W' E D q' ((ps.take (k + 1)).map (pcT E))) := hide (by rw [Hst.out]; exact hI)
          clear hI HH KS o3 hu htW Hst
          go_wp2
          go_roundw
          case rel => exact ⟨k + 1, by go_num, by omega, HN.out⟩
          case measure => simp [intOf]; omega
        · obtain rfl : k = ps.length := by omega
          obtain ⟨hrow, hmv, hbel⟩ := hr.out
          rw [List.take_length] at hrow
          have hform := hrow.2
          rcases hform with ⟨rfl, h0⟩ | ⟨g, cap', cur, rfl, hg1, hg2, hg3, hg4⟩
          · have hps0 : ps = [] := by
              rw [List.length_map] at h0
              exact List.length_eq_zero_iff.1 h0
            subst hps0
            have KJ := hide (Tryz.strings_Join_none none 0 ⟨#[59]⟩ wr)
            have Hw := hide hbel
            clear hrow hmv hbel hr
            go_wp2_with fail
            refine KJ.out.mono ?_
            rintro e w5 ⟨rfl, rfl⟩
            go_wp2
            go_ret
            exact ⟨⟨#[]⟩, rfl, rfl, Hw.out⟩
          · have hcells : ∀ (j : Nat) x, (ps.map (pcT E))[j]? = some x → wr.cell? ⟨g, 0 + j, none⟩ = some (.string x) := fun j x hx => by
              have hj : j < (ps.map (pcT E)).length := (List.getElem?_eq_some_iff.1 hx).1
              rw [Nat.zero_add]
              have := hrow.cellAt j (by omega)
              rw [List.getElem?_map, hx] at this
              exact this
            have hmap : (ps.map (pcT E)).map (fun x => x.data.toList) = (ps.map (wrOf E)).map wrT := by
              rw [List.map_map, List.map_map]
              exact List.map_congr_left (fun p _ => tx_list _)
            have hjoin : Lib.join ((ps.map (pcT E)).map (fun x => x.data.toList)) ((⟨#[59]⟩ : ByteArray).data.toList) = certT (ps.map (wrOf E)) := by
              rw [hmap]
              exact join_rest _
            have hlen2 : (Lib.join ((ps.map (pcT E)).map (fun x => x.data.toList)) ((⟨#[59]⟩ : ByteArray).data.toList)).length ≤ 140737488355328 := by
              rw [hjoin]
              have := certT_len (ps.map (wrOf E)) (fun q hq => by
                obtain ⟨p, hp, rfl⟩ := List.mem_map.1 hq
                exact wr_ok2 (hpe p hp) (hpc p hp) hEl)
              rw [List.length_map] at this
              omega
            have hll : (ps.map (pcT E)).length = ps.length := List.length_map _
            have KJ := hide (Tryz.strings_Join g 0 cap' (ps.map (pcT E)) ⟨#[59]⟩ wr hcells (Array.getElem?_eq_some_iff.1 hg2).1 (by omega) (by omega) hlen2)
            rw [hll] at KJ
            have HT := hide (show (⟨(Lib.join ((ps.map (pcT E)).map (fun x => x.data.toList)) ((⟨#[59]⟩ : ByteArray).data.toList)).toArray⟩ : ByteArray).data.toList = certT (ps.map (wrOf E)) by rw [hjoin])
            have Hw := hide hbel
            generalize (⟨(Lib.join ((ps.map (pcT E)).map (fun x => x.data.toList)) ((⟨#[59]⟩ : ByteArray).data.toList)).toArray⟩ : ByteArray) = S at KJ HT
            rw [hll] at *
            clear hcells hlen2 hmap hjoin hr hrow hmv hbel
            go_wp2_with fail
            refine KJ.out.mono ?_
            rintro e w5 ⟨rfl, hb5⟩
            go_wp2
            go_ret
            exact ⟨S, rfl, HT.out, below_call hb5 Hw.out⟩
end Go.Proofs.YtkjlkbgdkdcboaaGreatDoor
