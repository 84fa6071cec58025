import Derived.Test.YtkjlkbgdkdcboaaGreatDoorCert7
import Derived.Test.YtkjlkbgdkdcboaaGreatDoorJoinW
import Derived.Defers
import Derived.Recover

set_option linter.unusedSimpArgs false
set_option linter.unusedVariables false

set_option linter.unusedSimpArgs false
set_option linter.unusedVariables false
namespace Go.Proofs.YtkjlkbgdkdcboaaGreatDoor
open Go.RowKit Go.Maps
attribute [local go_sem ↓] Go.wp_at_zero Go.wp_at_succ
set_option maxRecDepth 100000 in
theorem catch_idle (p q r : Addr) (w : World) :
    CallsD Tryz.prog 86 #[.pointer (some p), .pointer (some q), .pointer (some r)] .returning w fun e u' w' => e = .returned (.tuple #[]) ∧ u' = .returning ∧ w' = w := by
  refine callsD_of_wpS Tryz.func86 rfl fun c₀ cs hu => ?_
  simp only [Tryz.ntmps86, List.size_toArray, List.length_cons, List.length_nil, Nat.reduceAdd, Nat.reduceSub, Array.replicate_succ, Array.replicate_zero, List.push_toArray, List.append_toArray, List.nil_append, List.cons_append]
  apply wpS_seq
  apply wpS_region
  simp [wpOpsS, go_sem, recoverD, hu, Exit.thenS]
  refine wpS_of_wp ?_
  go_wp2
  cases c₀
  simp_all [bodyPostS, results, Tryz.results86]
theorem assert149 (k : Int) (w : World) : (Instr.typeAssert (.iface 186 (.int .i64 k)) 20 186 true).run Tryz.prog w = .ok (.tuple #[.int .i64 k, .bool true]) w := by kernel_rfl
set_option maxRecDepth 100000 in
theorem catch_misfit (p q r : Addr) (k : Int) (w : World) (z0 z1 z2 : Value) (hp : w.cell? p = some z0) (hq : w.cell? q = some z1) (hr : w.cell? r = some z2) (fp : w.frozen? p = false) (fq : w.frozen? q = false) (fr : w.frozen? r = false) (npq : p ≠ q) (npr : p ≠ r) (nqr : q ≠ r) :
    CallsD Tryz.prog 86 #[.pointer (some p), .pointer (some q), .pointer (some r)] (.panicking [{ v := .iface 186 (.int .i64 k), recovered := false }]) w fun e u' w' =>
      e = .returned (.tuple #[]) ∧ u' = .panicking [{ v := .iface 186 (.int .i64 k), recovered := true }] ∧ w' = ((w.setCell p (.slice none 0 0)).setCell q (.int .i64 k)).setCell r (.bool false) := by
  refine callsD_of_wpS Tryz.func86 rfl fun c₀ cs hu => ?_
  simp only [Tryz.ntmps86, List.size_toArray, List.length_cons, List.length_nil, Nat.reduceAdd, Nat.reduceSub, Array.replicate_succ, Array.replicate_zero, List.push_toArray, List.append_toArray, List.nil_append, List.cons_append]
  apply wpS_seq
  apply wpS_region
  simp [wpOpsS, go_sem, recoverD, hu, Exit.thenS]
  have hta := assert149
  refine wpS_of_wp ?_
  go_wp2
  cases c₀
  simp_all [bodyPostS, results, Tryz.results86]
def allC {α β : Type} (f : α → Option β) : List α → Option (List β)
  | [] => some []
  | a :: r => (f a).bind fun b => (allC f r).map (b :: ·)
theorem allC_snoc {α β : Type} (f : α → Option β) (a : α) : ∀ l : List α, allC f (l ++ [a]) = (allC f l).bind fun bs => (f a).map fun b => bs ++ [b]
  | [] => by
    show (f a).bind (fun b => (some []).map (b :: ·)) = (some []).bind fun bs => (f a).map fun b => bs ++ [b]
    cases f a <;> rfl
  | c :: l => by
    show (f c).bind (fun b => (allC f (l ++ [a])).map (b :: ·)) = ((f c).bind (fun b => (allC f l).map (b :: ·))).bind fun bs => (f a).map fun b => bs ++ [b]
    rw [allC_snoc f a l]
    cases f c with
    | none => rfl
    | some b => cases allC f l with
      | none => rfl
      | some bs => cases f a <;> rfl
theorem allC_none {α β : Type} {f : α → Option β} {a : α} (h : f a = none) : ∀ l : List α, a ∈ l → allC f l = none
  | [], hm => by simp at hm
  | c :: l, hm => by
    show (f c).bind (fun b => (allC f l).map (b :: ·)) = none
    rcases List.mem_cons.1 hm with rfl | hm
    · rw [h]; rfl
    · rw [allC_none h l hm]; cases f c <;> rfl
theorem allC_mem {α β : Type} {f : α → Option β} : ∀ (l : List α) (bs : List β), allC f l = some bs → (∀ b ∈ bs, ∃ a ∈ l, f a = some b) ∧ bs.length = l.length
  | [], bs, h => by
    simp [allC] at h
    subst h
    simp
  | c :: l, bs, h => by
    have h' : (f c).bind (fun b => (allC f l).map (b :: ·)) = some bs := h
    rw [Option.bind_eq_some_iff] at h'
    obtain ⟨b, hb, h2⟩ := h'
    rw [Option.map_eq_some_iff] at h2
    obtain ⟨bs', h3, rfl⟩ := h2
    obtain ⟨h4, h5⟩ := allC_mem l bs' h3
    refine ⟨fun x hx => ?_, by simp [h5]⟩
    rcases List.mem_cons.1 hx with rfl | hx
    · exact ⟨c, List.mem_cons_self .., hb⟩
    · obtain ⟨a, ha, e⟩ := h4 x hx
      exact ⟨a, List.mem_cons_of_mem _ ha, e⟩
def certC (s : ByteArray) (E : List Acre.Ed) : Option (List Acre.Pc) := (draftsC s).bind fun ds => if ds.length ≤ 4000 then allC (pieceC E) ds else none
structure CtPost (s : ByteArray) (E : List Acre.Ed) (w : World) (e : Ending) (w' : World) : Prop where
  bel : Below w.heap.size w w'
  out : (∃ v a, certC s E = none ∧ e = .returned (.tuple #[v, .int .i64 a, .bool false])) ∨ (∃ v ps, certC s E = some ps ∧ e = .returned (.tuple #[v, .int .i64 0, .bool true]) ∧ w'.ownsRow w.heap.size 44 12 v ps.length (flatP ps))
set_option maxRecDepth 100000 in
set_option maxHeartbeats 1000000 in
theorem ct_panic (s : ByteArray) (E : List Acre.Ed) (w V : World) (k : Int) (z0 z1 z2 : Value) (b0 : Box V w.heap.size [z0]) (b1 : Box V (w.heap.size + 1) [z1]) (b2 : Box V (w.heap.size + 1 + 1) [z2]) (hbel : Below w.heap.size w V) (hno : certC s E = none) (x0 x1 x2 x3 x7 x8 x9 x10 x11 x12 x13 x14 x15 x16 x17 x18 x19 x20 x21 x22 x23 x24 x25 x26 x27 x28 x29 x30 : Value) :
    bodyPostD Tryz.prog Tryz.f48 (fun e w' => CtPost s E w e w') (.panic [{ v := .iface 186 (.int .i64 k), recovered := false }]) { tmps := #[x0, x1, x2, x3, .pointer (some ⟨w.heap.size, 0, none⟩), .pointer (some ⟨w.heap.size + 1, 0, none⟩), .pointer (some ⟨w.heap.size + 1 + 1, 0, none⟩), x7, x8, x9, x10, x11, x12, x13, x14, x15, x16, x17, x18, x19, x20, x21, x22, x23, x24, x25, x26, x27, x28, x29, x30], defers := [{ target := .fn (.func 86) #[.pointer (some ⟨w.heap.size, 0, none⟩), .pointer (some ⟨w.heap.size + 1, 0, none⟩), .pointer (some ⟨w.heap.size + 1 + 1, 0, none⟩)], args := #[] }] } V := by
  have c0 := b0.c 0 _ rfl
  have c1 := b1.c 0 _ rfl
  have c2 := b2.c 0 _ rfl
  refine leaves_cons (f := 86) (args := #[.pointer (some ⟨w.heap.size, 0, none⟩), .pointer (some ⟨w.heap.size + 1, 0, none⟩), .pointer (some ⟨w.heap.size + 1 + 1, 0, none⟩)]) (by simp) (by simp [go_sem]) ?_
  refine (catch_misfit ⟨w.heap.size, 0, none⟩ ⟨w.heap.size + 1, 0, none⟩ ⟨w.heap.size + 1 + 1, 0, none⟩ k V z0 z1 z2 c0 c1 c2 (b0.f 0 (by simp)) (b1.f 0 (by simp)) (b2.f 0 (by simp)) (by simp) (by simp) (by simp)).mono ?_
  rintro e u' w'' ⟨rfl, rfl, rfl⟩
  have hB : Below w.heap.size w (((V.setCell ⟨w.heap.size, 0, none⟩ (.slice none 0 0)).setCell ⟨w.heap.size + 1, 0, none⟩ (.int .i64 k)).setCell ⟨w.heap.size + 1 + 1, 0, none⟩ (.bool false)) :=
    ((hbel.setCell (p := ⟨w.heap.size, 0, none⟩) (Nat.le_refl _) _).setCell (p := ⟨w.heap.size + 1, 0, none⟩) (Nat.le_succ _) _).setCell (p := ⟨w.heap.size + 1 + 1, 0, none⟩) (by show w.heap.size ≤ w.heap.size + 1 + 1; omega) _
  have HP := hide (fun v => show CtPost s E w (.returned (.tuple #[v, .int .i64 k, .bool false])) _ from ⟨hB, .inl ⟨v, k, hno, rfl⟩⟩)
  clear hB
  simp [Leaves, settle, results, Tryz.results48, go_sem, c0, c1, c2]
  exact HP.out _
set_option maxRecDepth 100000 in
set_option maxHeartbeats 1000000 in
theorem ct_ret (s : ByteArray) (E : List Acre.Ed) (w V : World) (pv : Value) (ps : List Acre.Pc) (b0 : Box V w.heap.size [pv]) (b1 : Box V (w.heap.size + 1) [.int .i64 0]) (b2 : Box V (w.heap.size + 1 + 1) [.bool true]) (hbel : Below w.heap.size w V) (hrow : V.ownsRow w.heap.size 44 12 pv ps.length (flatP ps)) (hno : certC s E = some ps) (x0 x1 x2 x3 x7 x8 x9 x10 x11 x12 x13 x14 x15 x16 x17 x18 x19 x20 x21 x22 x23 x24 x25 x26 x27 x28 x29 x30 : Value) :
    bodyPostD Tryz.prog Tryz.f48 (fun e w' => CtPost s E w e w') .ret { tmps := #[x0, x1, x2, x3, .pointer (some ⟨w.heap.size, 0, none⟩), .pointer (some ⟨w.heap.size + 1, 0, none⟩), .pointer (some ⟨w.heap.size + 1 + 1, 0, none⟩), x7, x8, x9, x10, x11, x12, x13, x14, x15, x16, x17, x18, x19, x20, x21, x22, x23, x24, x25, x26, x27, x28, x29, x30], defers := [{ target := .fn (.func 86) #[.pointer (some ⟨w.heap.size, 0, none⟩), .pointer (some ⟨w.heap.size + 1, 0, none⟩), .pointer (some ⟨w.heap.size + 1 + 1, 0, none⟩)], args := #[] }] } V := by
  have c0 := b0.c 0 _ rfl
  have c1 := b1.c 0 _ rfl
  have c2 := b2.c 0 _ rfl
  have HP := hide (show CtPost s E w (.returned (.tuple #[pv, .int .i64 0, .bool true])) V from ⟨hbel, .inr ⟨pv, ps, hno, rfl, hrow⟩⟩)
  clear hrow
  refine leaves_cons (f := 86) (args := #[.pointer (some ⟨w.heap.size, 0, none⟩), .pointer (some ⟨w.heap.size + 1, 0, none⟩), .pointer (some ⟨w.heap.size + 1 + 1, 0, none⟩)]) (by simp) (by simp [go_sem]) ?_
  refine (catch_idle ⟨w.heap.size, 0, none⟩ ⟨w.heap.size + 1, 0, none⟩ ⟨w.heap.size + 1 + 1, 0, none⟩ V).mono ?_
  rintro e u' w'' ⟨rfl, rfl, rfl⟩
  simp [Leaves, settle, results, Tryz.results48, go_sem, c0, c1, c2]
  exact HP.out
end Go.Proofs.YtkjlkbgdkdcboaaGreatDoor
namespace Go.Proofs.YtkjlkbgdkdcboaaGreatDoor
open Go.RowKit Go.Maps
attribute [local go_sem ↓] Go.wp_at_zero Go.wp_at_succ
def drOk (d : Dr) : Prop := 0 ≤ d.lo ∧ 0 ≤ d.hi
theorem draftC_ok {s : ByteArray} {k : Nat} {r : Dr × Nat} (h : draftC s k = some r) (hk : k ≤ s.size) : drOk r.1 := by
  unfold draftC at h
  simp only [Option.bind_eq_some_iff] at h
  obtain ⟨a, ha, k1, hk1, b, hb, k2, hk2, c, hc, k3, hk3, d, hd, e⟩ := h
  have bl : ∀ {k k' : Nat}, bld s k = some k' → k < s.size ∧ k' = k + 1 := by
    intro k k' h
    unfold bld at h
    split at h
    · rename_i hy
      simp at h
      exact ⟨sees_lt (by omega) hy, h.symm⟩
    · simp at h
  have h1 := fracC_bd ha hk
  have h2 := bl hk1
  have h3 := fracC_bd hb (by omega)
  have h4 := bl hk2
  have h5 := numC_bd hc (by omega)
  have h6 := bl hk3
  have h7 := numC_bd hd (by omega)
  simp only [Option.some.injEq] at e
  rw [← e]
  exact ⟨h5.1.1, h7.1.1⟩
theorem draftsR_okF (q : Nat) (s : ByteArray) : ∀ (k : Nat) (l ds : List Dr), s.size - k ≤ q → (∀ d ∈ l, drOk d) → draftsR s k l = some ds → ∀ d ∈ ds, drOk d := by
  induction q with
  | zero =>
    intro k l ds hq hl h
    rw [draftsR_end (by omega)] at h
    simp at h
    rw [← h]
    exact hl
  | succ q ih =>
    intro k l ds hq hl h
    by_cases hk : k < s.size
    · cases hy : seesP s k 59
      · rw [draftsR_no hk hy] at h; simp at h
      · cases hd : draftC s (k + 1) with
        | none => rw [draftsR_bad hk hy hd] at h; simp at h
        | some r =>
          rw [draftsR_more hk hy hd] at h
          have hb := draftC_bd hd (by omega)
          refine ih r.2 (l ++ [r.1]) ds (by omega) (fun d hm => ?_) h
          rcases List.mem_append.1 hm with hm | hm
          · exact hl d hm
          · rw [List.mem_singleton.1 hm]; exact draftC_ok hd (by omega)
    · rw [draftsR_end hk] at h
      simp at h
      rw [← h]
      exact hl
theorem draftsR_ok (s : ByteArray) (k : Nat) (l ds : List Dr) (hl : ∀ d ∈ l, drOk d) (h : draftsR s k l = some ds) : ∀ d ∈ ds, drOk d :=
  draftsR_okF _ s k l ds (Nat.le_refl _) hl h
theorem draftsC_ok {s : ByteArray} {ds : List Dr} (h : draftsC s = some ds) : ∀ d ∈ ds, drOk d := by
  unfold draftsC at h
  split at h
  · simp at h; subst h; simp
  · cases hd : draftC s 0 with
    | none => rw [hd] at h; simp at h
    | some r =>
      rw [hd] at h
      exact draftsR_ok s r.2 [r.1] ds (fun d hm => by rw [List.mem_singleton.1 hm]; exact draftC_ok hd (by omega)) h
structure CrI (w wr : World) (dv pv : Value) (ds : List Dr) (ps : List Acre.Pc) : Prop where
  bp : Box wr w.heap.size [pv]
  ba : Box wr (w.heap.size + 1) [.int .i64 0]
  bo : Box wr (w.heap.size + 1 + 1) [.bool false]
  rd : wr.ownsRow (w.heap.size + 3) 190 10 dv ds.length (ds.flatMap drL)
  rp : wr.ownsRow (w.heap.size + 3) 44 12 pv ps.length (flatP ps)
  bel : Below w.heap.size w wr
  big : w.heap.size + 3 ≤ wr.heap.size
theorem CrI.later {w wr V : World} {dv pv : Value} {ds : List Dr} {ps : List Acre.Pc} (h : CrI w wr dv pv ds ps) (hb : Below wr.heap.size wr V) : CrI w V dv pv ds ps :=
  ⟨h.bp.later (by simp) hb, h.ba.later (by simp) hb, h.bo.later (by simp) hb, row_call h.rd hb, row_call h.rp hb, below_call hb h.bel, Nat.le_trans h.big hb.size⟩
theorem CrI.push {w wr V : World} {dv pv v' : Value} {ds : List Dr} {ps : List Acre.Pc} {p : Acre.Pc} (h : CrI w wr dv pv ds ps) (hg : wr.grownBy V pv.ownBlock) (hown : V.ownsRow (w.heap.size + 3) 44 12 v' (ps.length + 1) (flatP ps ++ pcL p)) :
    CrI w (V.setCell ⟨w.heap.size, 0, none⟩ v') dv v' ds (ps ++ [p]) := by
  have nb : ∀ j, j < 3 → pv.ownBlock ≠ some (w.heap.size + j) := fun j hj e => by have := (h.rp.lt _ e).1; omega
  have hs := gb_set V w.heap.size 0 v'
  have b0 := h.bp.kept (by simp) hg (nb 0 (by omega))
  have rd2 := row_tag hg (RowTag.of_row h.rp) h.rd (by simp)
  refine ⟨?_, ?_, ?_, ?_, ?_, ?_, ?_⟩
  · have := b0.set (i := 0) (by simp) v'
    simpa using this
  · exact (h.ba.kept (by simp) hg (nb 1 (by omega))).kept (by simp) hs (by simp)
  · exact (h.bo.kept (by simp) hg (nb 2 (by omega))).kept (by simp) hs (by simp; omega)
  · exact rd2.kept hs (.inr (fun e => by have := (rd2.lt _ e).1; omega))
  · have : flatP (ps ++ [p]) = flatP ps ++ pcL p := by unfold flatP; rw [List.flatMap_append]; simp
    rw [this, List.length_append]
    exact hown.kept hs (.inr (fun e => by have := (hown.lt _ e).1; omega))
  · exact (h.bel.grown hg h.bel.size (fun c e => by have := (h.rp.lt _ e).1; omega)).setCell (p := ⟨w.heap.size, 0, none⟩) (Nat.le_refl _) _
  · have := hg.size
    have := h.big
    simp [World.setCell]
    omega
theorem rowD_cells {w : World} {base g cap : Nat} {ds : List Dr} (h : w.ownsRow base 190 10 (.slice (some ⟨g, 0, none⟩) ds.length cap) ds.length (ds.flatMap drL)) (k : Nat) (hk : k < ds.length) (j : Nat) (v : Value) (hv : (drL ds[k])[j]? = some v) : w.cell? ⟨g, k * 10 + j, none⟩ = some v := by
  have hj : j < 10 := by
    have := (List.getElem?_eq_some_iff.1 hv).1
    simpa [drL] using this
  rw [h.cellAt (k * 10 + j) (by omega)]
  have : ∀ (l : List Dr) (k : Nat) (hk : k < l.length), (l.flatMap drL)[k * 10 + j]? = (drL l[k])[j]? := by
    intro l
    induction l with
    | nil => intro k hk; simp at hk
    | cons a r ih =>
      intro k hk
      have hl : (drL a).length = 10 := rfl
      rw [List.flatMap_cons]
      match k with
      | 0 => rw [List.getElem?_append_left (by omega)]; simp
      | k + 1 =>
        rw [List.getElem?_append_right (by omega), hl, show (k + 1) * 10 + j - 10 = k * 10 + j by omega]
        exact ih k (by simpa using hk)
  rw [this ds k hk, hv]
theorem certC_drafts {s : ByteArray} {E : List Acre.Ed} (h : draftsC s = none) : certC s E = none := by unfold certC; rw [h]; rfl
theorem certC_long {s : ByteArray} {E : List Acre.Ed} {ds : List Dr} (h : draftsC s = some ds) (hl : ¬ ds.length ≤ 4000) : certC s E = none := by unfold certC; rw [h]; show (if ds.length ≤ 4000 then _ else _) = _; rw [if_neg hl]
theorem certC_bad {s : ByteArray} {E : List Acre.Ed} {ds : List Dr} (h : draftsC s = some ds) {d : Dr} (hd : d ∈ ds) (hp : pieceC E d = none) : certC s E = none := by
  unfold certC
  rw [h]
  show (if ds.length ≤ 4000 then _ else _) = _
  split
  · exact allC_none hp ds hd
  · rfl
theorem certC_all {s : ByteArray} {E : List Acre.Ed} {ds : List Dr} {ps : List Acre.Pc} (h : draftsC s = some ds) (hl : ds.length ≤ 4000) (hp : allC (pieceC E) ds = some ps) : certC s E = some ps := by
  unfold certC
  rw [h]
  show (if ds.length ≤ 4000 then _ else _) = _
  rw [if_pos hl, hp]
theorem wp_only {c : Code} {Q : Exit → Act → World → Prop} {a : Act} {w : World} (h : c.wp Tryz.prog (fun e a w => match e with | .normal => Q .normal a w | _ => False) a w) : c.wp Tryz.prog Q a w :=
  wp_mono h (fun e a w h => by
    cases e with
    | normal => exact h
    | ret => exact h.elim
    | exit id => exact h.elim
    | goto t => exact h.elim
    | panic ch => exact h.elim
    | outgrown => exact h.elim)
set_option maxRecDepth 100000 in
set_option maxHeartbeats 16000000 in
theorem readCert_any (s : ByteArray) (E : List Acre.Ed) (u : Value) (base : Nat) (w : World) (hs : s.size ≤ 1000000) (hE : w.ownsRow base 42 4 u E.length (flatE E)) (hEl : E.length ≤ 24) :
    Calls Tryz.prog 48 #[.string s, u] w fun e w' => CtPost s E w e w' := by
  have hmf : ∀ (fn : Fn) (first cap : Array Value) (w : World), (Instr.makeFunc fn first cap).run Tryz.prog w = .ok (.func fn first cap) w := fun _ _ _ _ => rfl
  obtain ⟨i0, hi, hz0, hz1, hz2⟩ := info_parts info39
  have hP0 : CrI w (((w.alloc (.cells #[.slice none 0 0] 34)).alloc (.cells #[.int .i64 0] 3)).alloc (.cells #[.bool false] 4)) (.slice none 0 0) (.slice none 0 0) [] [] := by
    refine ⟨((Box.new w [.slice none 0 0] 34).later (by simp) (below1 _ _)).later (by simp) (below1 _ _), ?_, ?_, World.ownsRow_nil _ _ _ _, World.ownsRow_nil _ _ _ _, below3 _ _ _ _, by simp⟩
    · have := (Box.new (w.alloc (.cells #[.slice none 0 0] 34)) [.int .i64 0] 3).later (by simp) (below1 _ (.cells #[.bool false] 4))
      simpa using this
    · have := Box.new ((w.alloc (.cells #[.slice none 0 0] 34)).alloc (.cells #[.int .i64 0] 3)) [.bool false] 4
      simpa using this
  have hz : (((w.alloc (.cells #[.slice none 0 0] 34)).alloc (.cells #[.int .i64 0] 3)).alloc (.cells #[.bool false] 4)).heap.size = w.heap.size + 3 := by simp
  go_enter_defers Tryz.func48, Tryz.ntmps48
  go_wp2_with fail
  generalize ((w.alloc (.cells #[.slice none 0 0] 34)).alloc (.cells #[.int .i64 0] 3)).alloc (.cells #[.bool false] 4) = V0 at *
  refine (readDrafts_any s V0 hs).mono ?_
  rintro e V1 ⟨hb1, (⟨hn, j, rfl⟩ | ⟨ds, dv, hds, rfl, hrow, hdl⟩)⟩
  · have h1 := hP0.later hb1
    exact ct_panic s E w V1 j _ _ _ h1.bp h1.ba h1.bo h1.bel (certC_drafts hn) _ _ _ _ _ _ _ _ _ _ _ _ _ _ _ _ _ _ _ _ _ _ _ _ _ _ _ _
  have hI : CrI w V1 dv (.slice none 0 0) ds [] := by
    have h1 := hP0.later hb1
    rw [hz] at hrow
    exact ⟨h1.bp, h1.ba, h1.bo, hrow, h1.rp, h1.bel, h1.big⟩
  obtain ⟨da, dg, dcap, rfl, hda, _⟩ := row_form hrow
  have HI := hide hI
  have HD := hide hds
  have hok := hide (draftsC_ok hds)
  clear hI hP0 hb1 hrow hds hz
  go_wp2
  go_loopw [13] (fun i wr => ∃ (k : Nat) (pv : Value) (ps : List Acre.Pc), i = .int .i64 k ∧ k ≤ ds.length ∧ k ≤ 4000 ∧ Hid (CrI w wr (.slice da ds.length dcap) pv ds ps ∧ allC (pieceC E) (ds.take k) = some ps ∧ ps.length = k)) (fun i _ => ds.length - (intOf i).toNat)
  case atStart => exact ⟨0, _, [], rfl, by omega, by omega, HI.out, rfl, rfl⟩
  case round =>
    obtain ⟨k, pv, ps, rfl, hk, hk4, hr⟩ := hrel
    clear HI
    by_cases hlt : k < ds.length
    · obtain rfl := hda (by omega)
      have hI := hr.out.1
      obtain ⟨pa, pg, pcap, rfl, _, _⟩ := row_form hI.rp
      have HA := hide hr.out.2.1
      have Hpl := hide hr.out.2.2
      have hlt2 : (k : Int) < (ds.length : Int) := by omega
      have hkok := hok.out ds[k] (List.getElem_mem hlt)
      have hmem : Hid (ds[k] ∈ ds) := hide (List.getElem_mem hlt)
      have hcell := rowD_cells hI.rd k hlt
      have htk : ds.take (k + 1) = ds.take k ++ [ds[k]] := List.take_succ_eq_append_getElem hlt
      have HT := hide (show allC (pieceC E) (ds.take (k + 1)) = (pieceC E ds[k]).map fun b => ps ++ [b] by rw [htk, allC_snoc, HA.out]; rfl)
      obtain ⟨d, hd⟩ : ∃ d, ds[k] = d := ⟨_, rfl⟩
      rw [hd] at hcell hkok hmem HT
      clear htk hr hd
      obtain ⟨⟨e1, e2⟩, ⟨g1, g2⟩, p, q, y1, y2, y3, y4⟩ := d
      have m0 := hcell 0 _ rfl
      have m1 := hcell 1 _ rfl
      have m2 := hcell 2 _ rfl
      have m3 := hcell 3 _ rfl
      have m4 := hcell 4 _ rfl
      have m5 := hcell 5 _ rfl
      have m6 := hcell 6 _ rfl
      have m7 := hcell 7 _ rfl
      have m8 := hcell 8 _ rfl
      have m9 := hcell 9 _ rfl
      simp only [Nat.add_zero] at m0
      clear hcell
      have HI2 := hide (hI.later (below1 wr (.cells #[.int .i64 e1, .int .i64 e2, .int .i64 g1, .int .i64 g2, .int .i64 p, .int .i64 q, .int .i64 y1, .int .i64 y2, .int .i64 y3, .int .i64 y4] 190)))
      have bD := Box.new wr [.int .i64 e1, .int .i64 e2, .int .i64 g1, .int .i64 g2, .int .i64 p, .int .i64 q, .int .i64 y1, .int .i64 y2, .int .i64 y3, .int .i64 y4] 190
      clear hI
      go_upto_region 5 with fail
      generalize hR6 : wr.heap.size = B at *
      generalize wr.alloc (.cells #[.int .i64 e1, .int .i64 e2, .int .i64 g1, .int .i64 g2, .int .i64 p, .int .i64 q, .int .i64 y1, .int .i64 y2, .int .i64 y3, .int .i64 y4] 190) = WP at *
      clear m0 m1 m2 m3 m4 m5 m6 m7 m8 m9
      have n6 := bD.c 6 _ rfl
      by_cases hk5 : k < 4000
      · have hk6 : (k : Int) < 4000 := by omega
        go_wp2_with (go_at_call 88; refine (need_yes _ _).mono ?_; rintro e WQ ⟨rfl, rfl⟩)
        have n0 := bD.c 0 _ rfl
        have n1 := bD.c 1 _ rfl
        have n2 := bD.c 2 _ rfl
        have n3 := bD.c 3 _ rfl
        have n4 := bD.c 4 _ rfl
        have n5 := bD.c 5 _ rfl
        have n7 := bD.c 7 _ rfl
        have n8 := bD.c 8 _ rfl
        have n9 := bD.c 9 _ rfl
        have cp := HI2.out.bp.c 0 _ rfl
        have fp := HI2.out.bp.f 0 (by simp)
        have HC := hide (piece_any E u base ⟨(e1, e2), (g1, g2), p, q, y1, y2, y3, y4⟩ WQ.drew (row_call hE (Below.drew HI2.out.bel)) hEl hkok.1 hkok.2)
        unfold drV drL at HC
        dsimp only at HC
        cases hpc : pieceC E ⟨(e1, e2), (g1, g2), p, q, y1, y2, y3, y4⟩ with
        | none =>
          have hno := hide (certC_bad (E := E) HD.out hmem.out hpc)
          have HC2 := hide (HC.out.mono (R' := fun e w' => Below WQ.drew.heap.size WQ.drew w' ∧ ∃ jj, e = misfit jj) (fun e w' h => ⟨h.bel, by
            rcases h.out with ⟨_, h2⟩ | ⟨pp, hpp, _⟩
            · exact h2
            · rw [hpc] at hpp; simp at hpp⟩))
          clear HC
          first
            | (go_region_with (first
                | (go_at_call 89; refine HC2.out.mono ?_; rintro e w1 ⟨hb1, jj, rfl⟩; have h1 := HI2.out.later (Below.trans (Below.drew (Below.refl _ _)) hb1); refine thrown (show bodyPostD Tryz.prog Tryz.f48 _ _ _ _ from ct_panic s E w _ _ _ _ _ h1.bp h1.ba h1.bo h1.bel hno.out _ _ _ _ _ _ _ _ _ _ _ _ _ _ _ _ _ _ _ _ _ _ _ _ _ _ _ _ ) w ?_)
                | go_in))
            | skip
          all_goals exact trivial
        | some pc =>
          have HT2 : Hid (allC (pieceC E) (ds.take (k + 1)) = some (ps ++ [pc])) := hide (by rw [HT.out, hpc]; rfl)
          have HC2 := hide (HC.out.mono (R' := fun e w' => e = .returned (pcV pc) ∧ Below WQ.drew.heap.size WQ.drew w') (fun e w' h => by
            rcases h.out with ⟨h2, _⟩ | ⟨pp, hpp, he⟩
            · rw [hpc] at h2; simp at h2
            · rw [hpc] at hpp; simp at hpp; rw [hpp]; exact ⟨he, h.bel⟩))
          clear HC hpc HT
          obtain ⟨⟨⟨a0, a1⟩, ⟨a2, a3⟩⟩, ⟨⟨⟨a4, a5⟩, ⟨a6, a7⟩⟩, ⟨⟨a8, a9⟩, ⟨a10, a11⟩⟩⟩⟩ := pc
          have hpcv : pcV (((a0, a1), (a2, a3)), (((a4, a5), (a6, a7)), ((a8, a9), (a10, a11)))) = .agg #[.int .i64 a0, .int .i64 a1, .int .i64 a2, .int .i64 a3, .int .i64 a4, .int .i64 a5, .int .i64 a6, .int .i64 a7, .int .i64 a8, .int .i64 a9, .int .i64 a10, .int .i64 a11] := rfl
          rw [hpcv] at HC2
          have hbig := HI2.out.big
          have hpl2 : ps.length ≤ 4000 := by have := Hpl.out; omega
          have HR := hide HI2.out
          refine wp_only ?_
          go_region_law (first
            | (refine step_append_lies _ (by rfl) _ _ _ (by rfl) (w.heap.size + 3) 44 i0 _ 12 96 Tryz.underlying34 hi hz0 hz1 hz2 rfl (by omega) (.slice pa ps.length pcap) ps.length (flatP ps) (by rfl) (h1.rp.alloc _)
                ⟨w1.heap.size, 0, none⟩ 1 1 [.int .i64 a0, .int .i64 a1, .int .i64 a2, .int .i64 a3, .int .i64 a4, .int .i64 a5, .int .i64 a6, .int .i64 a7, .int .i64 a8, .int .i64 a9, .int .i64 a10, .int .i64 a11] (by rfl) (by rfl) (World.news_of_block (cs := #[.int .i64 a0, .int .i64 a1, .int .i64 a2, .int .i64 a3, .int .i64 a4, .int .i64 a5, .int .i64 a6, .int .i64 a7, .int .i64 a8, .int .i64 a9, .int .i64 a10, .int .i64 a11]) (t := 44) (fr := (0, 0)) (heap_alloc_new w1 _)) (by simp [Value.oneCell'])
                (by omega) (by unfold maxLen; omega) (by omega) (by have := h1.big; simp; omega) (w1.heap.size + 1) (by simp) ?_; intro gg cap' w2 hown1 hgrow hat hlt'; have cq := (h1.later (below1 w1 (.cells #[.int .i64 a0, .int .i64 a1, .int .i64 a2, .int .i64 a3, .int .i64 a4, .int .i64 a5, .int .i64 a6, .int .i64 a7, .int .i64 a8, .int .i64 a9, .int .i64 a10, .int .i64 a11] 44))).bp.kept (by simp) hgrow (fun e => by have := (h1.rp.lt _ e).1; omega); have cq0 := cq.c 0 _ rfl; have fq0 := cq.f 0 (by simp))
            | (go_simp; go_at_call 89; refine HC2.out.mono ?_; rintro e w1 ⟨rfl, hb1⟩; have h1 := HI2.out.later (Below.trans (Below.drew (Below.refl _ _)) hb1); have cp1 := h1.bp.c 0 _ rfl; have cp2 := (h1.later (below1 w1 (.cells #[.int .i64 a0, .int .i64 a1, .int .i64 a2, .int .i64 a3, .int .i64 a4, .int .i64 a5, .int .i64 a6, .int .i64 a7, .int .i64 a8, .int .i64 a9, .int .i64 a10, .int .i64 a11] 44))).bp.c 0 _ rfl; go_simp))
          all_goals
            have hnext := (h1.later (below1 w1 (.cells #[.int .i64 a0, .int .i64 a1, .int .i64 a2, .int .i64 a3, .int .i64 a4, .int .i64 a5, .int .i64 a6, .int .i64 a7, .int .i64 a8, .int .i64 a9, .int .i64 a10, .int .i64 a11] 44))).push (p := (((a0, a1), (a2, a3)), (((a4, a5), (a6, a7)), ((a8, a9), (a10, a11))))) hgrow hown1
            have HN := hide hnext
            clear hnext hgrow hown1 cq cq0 fq0 cp1 cp2 h1
            dsimp only
            go_wp2
            go_roundw
            case rel => exact ⟨k + 1, _, _, by go_num, by omega, by omega, HN.out, HT2.out, by have := Hpl.out; simp; omega⟩
            case measure => simp [intOf]; omega
      · have hk6 : ¬ (k : Int) < 4000 := by omega
        have hno := certC_long (E := E) HD.out (show ¬ ds.length ≤ 4000 by omega)
        go_wp2_with fail
        refine (need_no _ _).mono ?_
        rintro e w2 ⟨rfl, rfl⟩
        exact ct_panic s E w _ _ _ _ _ HI2.out.bp HI2.out.ba HI2.out.bo HI2.out.bel hno _ _ _ _ _ _ _ _ _ _ _ _ _ _ _ _ _ _ _ _ _ _ _ _ _ _ _ _ 
    · obtain rfl : k = ds.length := by omega
      have hI := hr.out.1
      obtain ⟨pa, pg, pcap, rfl, _, _⟩ := row_form hI.rp
      have hA := hr.out.2.1
      rw [List.take_of_length_le (Nat.le_refl _)] at hA
      have HF := hide (certC_all HD.out hk4 hA)
      have c0 := hI.bp.c 0 _ rfl
      have f0 := hI.bp.f 0 (by simp)
      have c1 := hI.ba.c 0 _ rfl
      have f1 := hI.ba.f 0 (by simp)
      have c2 := hI.bo.c 0 _ rfl
      have f2 := hI.bo.f 0 (by simp)
      have hB : Below w.heap.size w (((wr.setCell ⟨w.heap.size, 0, none⟩ (.slice pa ps.length pcap)).setCell ⟨w.heap.size + 1, 0, none⟩ (.int .i64 0)).setCell ⟨w.heap.size + 1 + 1, 0, none⟩ (.bool true)) :=
        ((hI.bel.setCell (p := ⟨w.heap.size, 0, none⟩) (Nat.le_refl _) _).setCell (p := ⟨w.heap.size + 1, 0, none⟩) (Nat.le_succ _) _).setCell (p := ⟨w.heap.size + 1 + 1, 0, none⟩) (by show w.heap.size ≤ w.heap.size + 1 + 1; omega) _
      have s0 := gb_set wr w.heap.size 0 (.slice pa ps.length pcap)
      have s1 := gb_set (wr.setCell ⟨w.heap.size, 0, none⟩ (.slice pa ps.length pcap)) (w.heap.size + 1) 0 (.int .i64 0)
      have s2 := gb_set ((wr.setCell ⟨w.heap.size, 0, none⟩ (.slice pa ps.length pcap)).setCell ⟨w.heap.size + 1, 0, none⟩ (.int .i64 0)) (w.heap.size + 1 + 1) 0 (.bool true)
      have b0 : Box _ w.heap.size [.slice pa ps.length pcap] := ((hI.bp.set (i := 0) (by simp) (.slice pa ps.length pcap)).kept (by simp) s1 (by simp)).kept (by simp) s2 (by simp; omega)
      have b1 : Box _ (w.heap.size + 1) [.int .i64 0] := ((hI.ba.kept (by simp) s0 (by simp)).set (i := 0) (by simp) (.int .i64 0)).kept (by simp) s2 (by simp)
      have b2 : Box _ (w.heap.size + 1 + 1) [.bool true] := ((hI.bo.kept (by simp) s0 (by simp; omega)).kept (by simp) s1 (by simp)).set (i := 0) (by simp) (.bool true)
      have r0 := hI.rp.kept s0 (.inr (fun e => by have := (hI.rp.lt _ e).1; omega))
      have r1 := r0.kept s1 (.inr (fun e => by have := (hI.rp.lt _ e).1; omega))
      have r2 := r1.kept s2 (.inr (fun e => by have := (hI.rp.lt _ e).1; omega))
      have HB := hide hB
      have H0 := hide b0
      have H1 := hide b1
      have H2 := hide b2
      have HR := hide (row_base r2 (show w.heap.size ≤ w.heap.size + 3 by omega))
      clear hB s0 s1 s2 b0 b1 b2 r0 r1 r2 hI hA hr
      go_wp2
      exact ct_ret s E w _ _ ps H0.out H1.out H2.out HB.out HR.out HF.out _ _ _ _ _ _ _ _ _ _ _ _ _ _ _ _ _ _ _ _ _ _ _ _ _ _ _ _ 
end Go.Proofs.YtkjlkbgdkdcboaaGreatDoor
