import Derived.Test.YtkjlkbgdkdcboaaGreatDoorProg
import Derived.Test.YtkjlkbgdkdcboaaGreatDoorWaA
import Derived.WalkKit
import Derived.ProofKit
import Derived.WideKeyEntry
import Derived.Maps.OwnSet
import Derived.Maps.RangeWalk
import Derived.BigRegion
import Derived.Lib.SmallJoins

set_option linter.unusedSimpArgs false
set_option linter.unusedVariables false

set_option linter.unusedSimpArgs false
set_option linter.unusedVariables false

namespace Go.Proofs.YtkjlkbgdkdcboaaGreatDoor
open Go.RowKit Go.Maps Go.WideElems Go.ChangeMaps
open Go.WideMaps (KeyLaw)

theorem laidOut : laidOutB Tryz.prog = true := by kernel_rfl
theorem lawPt : KeyLaw Tryz.prog 40 := deep_law_laid laidOut (m := 2) (by omega) (of_decide_eq_true (by kernel_rfl)) (by kernel_rfl) (by kernel_rfl)
theorem lawEd : KeyLaw Tryz.prog 42 := deep_law_laid laidOut (m := 3) (by omega) (of_decide_eq_true (by kernel_rfl)) (by kernel_rfl) (by kernel_rfl)
theorem zeroInt (w : World) : (zeroValue 3).run Tryz.prog w = .ok (.int .i64 0) w := by kernel_rfl

theorem setBlock_twice (w : World) (b : Nat) (o o' : Obj) : setBlock (setBlock w b o) b o' = setBlock w b o' := by
  unfold setBlock; simp [Array.setIfInBounds_setIfInBounds]

section
variable {P : Program} {w : World} {t k e : TypeId} {b n : Nat} {D : DataW Unit}

theorem entry_cases (K : KeyLaw P k) (ht : P.underlying t = some (.map k e)) {z : Value} (hz : ∀ u : World, (zeroValue e).run P u = .ok z u) {es : Array MapEntry} {clock : Nat} (hb : w.heap[b]? = some (.map es clock))
    (hks : ∀ x ∈ es.toList, ∃ l, keyOf P k x.key = some l) {key : Value} {kl : Lit} (hkey : keyOf P k key = some kl) :
    ((Instr.mapEntry t (.map (some b)) key).run P w = .ok (.tuple #[z, goInt clock]) (setBlock w b (.map (es.push ⟨key, z, clock⟩) (clock + 1))) ∧
      (Instr.mapUpdate t (.map (some b)) key z).run P w = .ok () (setBlock w b (.map (es.push ⟨key, z, clock⟩) (clock + 1))) ∧
      (Instr.lookup t (.map (some b)) key false).run P w = .ok z w) ∨
    ∃ v st, (Instr.mapEntry t (.map (some b)) key).run P w = .ok (.tuple #[v, goInt st]) (setBlock w b (.map es clock)) := by
  rcases K.find w hkey es.toList hks with ⟨h1, _⟩ | ⟨j, e0, h1, h2, h3⟩
  · refine Or.inl ⟨?_, ?_, ?_⟩
    · simp [Instr.mapEntry, run_underlying ht, MapKept.run_getObj_map hb, K.check w false hkey, h1, hz, MapKept.run_setObj_map _ hb, Result.andThen, setBlock]
    · simp [Instr.mapUpdate, run_underlying ht, MapKept.run_getObj_map hb, K.check w false hkey, h1, MapKept.run_setObj_map _ hb, Result.andThen, setBlock]
    · simp [Instr.lookup, run_underlying ht, MapKept.run_getObj_map hb, K.check w es.isEmpty hkey, h1, hz, Result.andThen]
  · have hj : es[j]? = some e0 := by simpa using h2
    have hsame : es.modify j (fun e => { e with key := key }) = es := by
      apply Array.ext'
      rw [Array.toList_modify, modify_eq_set _ _ _ _ h2]
      subst h3
      exact set_self _ _ _ h2
    exact Or.inr ⟨e0.val, e0.born, by simp [Instr.mapEntry, run_underlying ht, MapKept.run_getObj_map hb, K.check w false hkey, h1, hj, h3, K.stays w hkey, hsame, MapKept.run_setObj_map _ hb, Result.andThen, setBlock]⟩

/-- 'm[k]++', at its four operations, in whatever order they come. -/
theorem tick (K : KeyLaw P k) (ht : P.underlying t = some (.map k e)) (he : P.underlying e = some (.int .i64)) (hz : ∀ u : World, (zeroValue e).run P u = .ok (.int .i64 0) u)
    (h : w.ownsMap P k (plainElem P e) b n D) (hn : n + 1 < maxLen) {key : Value} {kl : Lit} (hkey : keyOf P k key = some kl) :
    ∃ (c : Int) (v0 : Value) (st : Nat) (w2 : World), (Lit.int .i64 c).wf = true ∧ D.atKey kl (.lit (.int .i64 0)) = .lit (.int .i64 c) ∧
      (Instr.lookup t (.map (some b)) key false).run P w = .ok (.int .i64 c) w ∧ (Instr.lookup t (.map (some b)) key false).run P w2 = .ok (.int .i64 c) w2 ∧
      (Instr.mapEntry t (.map (some b)) key).run P w = .ok (.tuple #[v0, .int .i64 st]) w2 ∧ w.grownBy w2 (some b) ∧
      ∀ d : Int, (Lit.int .i64 d).wf = true → ∃ w3 : World, (Instr.entryStore t (.map (some b)) (.int .i64 st) (.int .i64 d)).run P w2 = .ok () w3 ∧ w3.ownsMap P k (plainElem P e) b (n + 1) (D.put kl (.lit (.int .i64 d))) ∧ w.grownBy w3 (some b) := by
  have KK : Keyed P k := Keyed.of_law K
  obtain ⟨c, hl1, hat, hwc⟩ := h.lookup_int KK ht he (hz w) hkey
  obtain ⟨es, clock, hb, F, hs, hD⟩ := id h
  have hks : ∀ x ∈ es.toList, ∃ l, keyOf P k x.key = some l := fun x hx => by
    obtain ⟨y, hy⟩ := F.reads x hx
    exact ⟨_, rd_key hy⟩
  obtain ⟨v0, st, es1, clock1, hm, _, hst⟩ := entry_then_store K ht hz hb F hkey
  have hb2 : (setBlock w b (.map es1 clock1)).heap[b]? = some (.map es1 clock1) := heap_setBlock_same hb _
  have hgrow : ∀ o, w.grownBy (setBlock w b o) (some b) := fun o => ⟨rfl, rfl, rfl, by simp [setBlock], fun i _ hi => heap_setBlock_other hb _ (fun e => hi (by rw [e]))⟩
  have hl2 : (Instr.lookup t (.map (some b)) key false).run P (setBlock w b (.map es1 clock1)) = .ok (.int .i64 c) (setBlock w b (.map es1 clock1)) := by
    rcases entry_cases K ht hz hb hks hkey with ⟨h1, h2, h3⟩ | ⟨v, s, h1⟩
    · obtain ⟨w', hu, hown, _⟩ := h.update KK ht (by omega) hkey (plainElem_int he (a := 0) (by decide))
      rw [h2] at hu
      rw [hm] at h1
      simp only [Result.ok.injEq] at hu h1
      rw [h1.2, hu.2]
      obtain ⟨c', hl', hat', _⟩ := hown.lookup_int KK ht he (hz w') hkey
      have hc : c' = c := by
        rw [atKey_put_same h.isMap (KK.key hkey)] at hat'
        rw [h3] at hl1
        simp at hat' hl1
        omega
      rw [← hc]
      exact hl'
    · rw [hm] at h1
      simp only [Result.ok.injEq] at h1
      rw [h1.2]
      have hown : (setBlock w b (.map es clock)).ownsMap P k (plainElem P e) b n D := ⟨es, clock, heap_setBlock_same hb _, F, hs, hD⟩
      obtain ⟨c', hl', hat', _⟩ := hown.lookup_int KK ht he (hz _) hkey
      have hc : c' = c := by
        rw [hat] at hat'; simpa using hat'.symm
      rw [← hc]
      exact hl'
  refine ⟨c, v0, st, _, hwc, hat, hl1, hl2, hm, hgrow _, fun d hd => ?_⟩
  obtain ⟨es', clock', h1, h2⟩ := hst _ (.int .i64 d) hb2
  obtain ⟨w', hu, hown, _⟩ := h.update KK ht (by omega) hkey (plainElem_int he hd)
  rw [h2] at hu
  simp only [Result.ok.injEq] at hu
  rw [setBlock_twice] at h1
  exact ⟨_, h1, by rw [hu.2]; exact hown, hgrow _⟩
end

theorem types_big : 99 < Tryz.prog.types.size := of_decide_eq_true (by kernel_rfl)
theorem cells28 : Tryz.prog.cellsOf 40 = 2 := by kernel_rfl
theorem cells3 : Tryz.prog.cellsOf 3 = 1 := by kernel_rfl
theorem cells46 : Tryz.prog.cellsOf 42 = 4 := by kernel_rfl

/-- what a point reads as, as a key -/
def kp (x y : Int) : Lit := .string (keyBytes [.int .i64 x, .int .i64 y])
theorem key_pt {x y : Int} (hx : (Lit.int .i64 x).wf = true) (hy : (Lit.int .i64 y).wf = true) : keyOf Tryz.prog 40 (.agg #[.int .i64 x, .int .i64 y]) = some (kp x y) := by
  have k28 : Tryz.prog.keyType 40 = true := by kernel_rfl
  have f28 : (Value.agg #[Value.int .i64 x, .int .i64 y]).formed Tryz.prog 40 = true := by simp [Value.formed, Tryz.underlying40, cells28]
  obtain ⟨m, hm⟩ : ∃ m, Tryz.prog.types.size = m + 1 := ⟨Tryz.prog.types.size - 1, by have := types_big; omega⟩
  unfold keyOf
  rw [Tryz.underlying40, k28, f28, hm]
  have e : Tryz.prog.keyLits (m + 1 + 1) 40 [Value.int .i64 x, .int .i64 y] = some [.int .i64 x, .int .i64 y] := by
    simp [Program.keyLits, Tryz.underlying40, Tryz.underlying3, hx, hy, cells28, cells3]
  simp only [Value.cells, Bool.and_self, if_true, e, Option.map_some, kp]

/-- what an edge reads as, as a key -/
def ke (x y u v : Int) : Lit := .string (keyBytes [.int .i64 x, .int .i64 y, .int .i64 u, .int .i64 v])
theorem key_ed {x y u v : Int} (hx : (Lit.int .i64 x).wf = true) (hy : (Lit.int .i64 y).wf = true) (hu : (Lit.int .i64 u).wf = true) (hv : (Lit.int .i64 v).wf = true) :
    keyOf Tryz.prog 42 (.agg #[.int .i64 x, .int .i64 y, .int .i64 u, .int .i64 v]) = some (ke x y u v) := by
  have k46 : Tryz.prog.keyType 42 = true := by kernel_rfl
  have f46 : (Value.agg #[Value.int .i64 x, .int .i64 y, .int .i64 u, .int .i64 v]).formed Tryz.prog 42 = true := by simp [Value.formed, Tryz.underlying42, cells46]
  obtain ⟨m, hm⟩ : ∃ m, Tryz.prog.types.size = m + 1 + 1 := ⟨Tryz.prog.types.size - 2, by have := types_big; omega⟩
  unfold keyOf
  rw [Tryz.underlying42, k46, f46, hm]
  have e : Tryz.prog.keyLits (m + 1 + 1 + 1) 42 [Value.int .i64 x, .int .i64 y, .int .i64 u, .int .i64 v] = some [.int .i64 x, .int .i64 y, .int .i64 u, .int .i64 v] := by
    simp [Program.keyLits, Tryz.underlying42, Tryz.underlying40, Tryz.underlying3, hx, hy, hu, hv, cells28, cells3, cells46, List.range, List.range.loop]
  simp only [Value.cells, Bool.and_self, if_true, e, Option.map_some, ke]

end Go.Proofs.YtkjlkbgdkdcboaaGreatDoor

set_option linter.unusedSimpArgs false
set_option linter.unusedVariables false

namespace Go.Proofs.YtkjlkbgdkdcboaaGreatDoor
open Go.RowKit Go.Maps
attribute [local go_sem ↓] Go.wp_at_zero Go.wp_at_succ

def keE (e : Acre.Ed) : Lit := ke e.1.1 e.1.2 e.2.1 e.2.2
/-- numbers that are no greater than those of a field -/
def SmE (e : Acre.Ed) : Prop := (Sm e.1.1 ∧ Sm e.1.2) ∧ (Sm e.2.1 ∧ Sm e.2.2)
theorem wf_s (n : Int) (h : Sm n) : (Lit.int .i64 n).wf = true := WalkArith.wf_i64 (by omega)
theorem key_E {e : Acre.Ed} (h : SmE e) : keyOf Tryz.prog 42 (edV4 e) = some (keE e) := key_ed (wf_s _ h.1.1) (wf_s _ h.1.2) (wf_s _ h.2.1) (wf_s _ h.2.2)
theorem keE_inj {e f : Acre.Ed} (he : SmE e) (hf : SmE f) (h : keE e = keE f) : e = f := by
  have := (Keyed.of_law lawEd).inj (key_E he) (h ▸ key_E hf)
  simp [edV4] at this
  exact Prod.ext (Prod.ext this.1 this.2.1) (Prod.ext this.2.2.1 this.2.2.2)
theorem up_sm {e : Acre.Ed} (h : SmE e) : SmE (Acre.up e) := by
  unfold Acre.up; split
  · exact ⟨h.2, h.1⟩
  · exact h

/-- how often each is there -/
structure Cnt (D : DataW Unit) (U : List Acre.Ed) : Prop where
  has : ∀ e, SmE e → Maps.has D (keE e) = decide (e ∈ U)
  keys : ∀ kl, Maps.has D kl = true → ∃ e ∈ U, kl = keE e
  at' : ∀ e, SmE e → D.atKey (keE e) (.lit (.int .i64 0)) = .lit (.int .i64 (U.count e : Nat))

theorem Cnt.nil : Cnt (.map []) [] := ⟨fun e _ => by simp [Maps.has], fun kl h => by simp [Maps.has] at h, fun e _ => by simp [DataW.atKey]⟩
theorem Cnt.put {D : DataW Unit} {U : List Acre.Ed} (h : Cnt D U) (hD : IsMap D) {e : Acre.Ed} (he : SmE e) : Cnt (D.put (keE e) (.lit (.int .i64 ((U.count e : Nat) + 1)))) (U ++ [e]) := by
  have KK : Keyed Tryz.prog 42 := Keyed.of_law lawEd
  refine ⟨fun f hf => ?_, fun kl hkl => ?_, fun f hf => ?_⟩
  rotate_left
  · by_cases hq : kl = keE e
    · exact ⟨e, by simp, hq⟩
    · rw [has_put_other hq] at hkl
      obtain ⟨f, hf, e'⟩ := h.keys kl hkl
      exact ⟨f, by simp [hf], e'⟩
  rotate_left
  · by_cases hq : f = e
    · subst hq; rw [has_put_same hD (KK.key (key_E hf))]; simp
    · rw [has_put_other (fun e' => hq (keE_inj hf he e')), h.has f hf]; simp [hq]
  · by_cases hq : f = e
    · subst hq; rw [atKey_put_same hD (KK.key (key_E hf))]; simp [List.count_append]
    · rw [atKey_put_other (fun e' => hq (keE_inj hf he e')), h.at' f hf]
      have : List.count f [e] = 0 := List.count_eq_zero.2 (by simp [hq])
      simp [List.count_append, this]

theorem own_call {w w' : World} {k : TypeId} {Rd : Value → Option (DataW Unit × List MemPlace)} {b n : Nat} {D : DataW Unit} (h : w.ownsMap Tryz.prog k Rd b n D) (hb : Below w.heap.size w w') : w'.ownsMap Tryz.prog k Rd b n D := by
  obtain ⟨es, clock, k1, k2⟩ := h
  exact ⟨es, clock, (hb.block b (Array.getElem?_eq_some_iff.1 k1).1).trans k1, k2⟩

theorem flatE_get (p : List Acre.Ed) (k : Nat) (h : k < p.length) : (flatE p)[k * 4]? = some (.int .i64 p[k].1.1) ∧ (flatE p)[k * 4 + 1]? = some (.int .i64 p[k].1.2) ∧ (flatE p)[k * 4 + 1 + 1]? = some (.int .i64 p[k].2.1) ∧ (flatE p)[k * 4 + 1 + 1 + 1]? = some (.int .i64 p[k].2.2) := by
  induction p generalizing k with
  | nil => simp at h
  | cons a r ih =>
    cases k with
    | zero => simp [flatE]
    | succ k =>
      have := ih k (by simpa using h)
      have e1 : (k + 1) * 4 = k * 4 + 1 + 1 + 1 + 1 := by omega
      simp only [flatE, List.flatMap_cons] at *
      rw [e1]
      simpa using this
theorem rowE_cells {w : World} {base g cap : Nat} {t : TypeId} {ps : List Acre.Ed} (h : w.ownsRow base t 4 (.slice (some ⟨g, 0, none⟩) ps.length cap) ps.length (flatE ps)) (k : Nat) (hk : k < ps.length) :
    w.cell? ⟨g, k * 4, none⟩ = some (.int .i64 ps[k].1.1) ∧ w.cell? ⟨g, k * 4 + 1, none⟩ = some (.int .i64 ps[k].1.2) ∧ w.cell? ⟨g, k * 4 + 1 + 1, none⟩ = some (.int .i64 ps[k].2.1) ∧ w.cell? ⟨g, k * 4 + 1 + 1 + 1, none⟩ = some (.int .i64 ps[k].2.2) := by
  obtain ⟨e1, e2, e3, e4⟩ := flatE_get ps k hk
  exact ⟨(h.cellAt _ (by omega)).trans e1, (h.cellAt _ (by omega)).trans e2, (h.cellAt _ (by omega)).trans e3, (h.cellAt _ (by omega)).trans e4⟩
theorem rowE_form {w : World} {base n size : Nat} {t : TypeId} {v : Value} {xs : List Value} (h : w.ownsRow base t size v n xs) : ∃ ga g cap, v = .slice ga n cap ∧ (0 < n → ga = some ⟨g, 0, none⟩) := by
  rcases h.2 with ⟨rfl, rfl⟩ | ⟨g, cap, cur, rfl, _⟩
  · exact ⟨none, 0, 0, rfl, by simp⟩
  · exact ⟨_, g, cap, rfl, fun _ => rfl⟩

theorem lits3 {m : Nat} {c : Value} {ls : List Lit} (h : Tryz.prog.keyLits (m + 1) 3 [c] = some ls) : ∃ n, c = .int .i64 n := by
  cases c <;> simp [Program.keyLits, Tryz.underlying3] at h
  rename_i q n
  obtain ⟨⟨rfl, _⟩, _⟩ := h
  exact ⟨n, rfl⟩
set_option maxRecDepth 100000 in
theorem lits28 {m : Nat} {c d : Value} {ls : List Lit} (h : Tryz.prog.keyLits (m + 1 + 1) 40 [c, d] = some ls) : (∃ n, c = .int .i64 n) ∧ ∃ n, d = .int .i64 n := by
  unfold Program.keyLits at h
  simp only [Tryz.underlying40] at h
  simp [cells28, cells3, Option.bind_eq_some_iff] at h
  obtain ⟨a, ha, b, ⟨d', hd, _⟩, _⟩ := h
  exact ⟨lits3 ha, lits3 hd⟩
set_option maxRecDepth 100000 in
theorem invE (key : Value) (kl : Lit) (h : keyOf Tryz.prog 42 key = some kl) : ∃ x : Acre.Ed, key = edV4 x := by
  obtain ⟨m, hm⟩ : ∃ m, Tryz.prog.types.size = m + 1 + 1 := ⟨Tryz.prog.types.size - 2, by have := types_big; omega⟩
  unfold keyOf at h
  simp only [Tryz.underlying42] at h
  split at h
  · rename_i hf
    simp only [Bool.and_eq_true] at hf
    have hf2 := hf.2
    cases key <;> simp [Value.formed, Tryz.underlying42] at hf2
    rename_i cs
    obtain ⟨c0, c1, c2, c3, rfl⟩ := Joins.array4 (hf2.trans cells46)
    rw [hm] at h
    unfold Program.keyLits at h
    simp only [Tryz.underlying42] at h
    simp [cells46, cells28, Value.cells, List.range, List.range.loop, Option.bind_eq_some_iff] at h
    obtain ⟨a, ha, b, ⟨d', hd, _⟩, _⟩ := h
    obtain ⟨⟨x0, rfl⟩, ⟨x1, rfl⟩⟩ := lits28 ha
    obtain ⟨⟨x2, rfl⟩, ⟨x3, rfl⟩⟩ := lits28 hd
    exact ⟨((x0, x1), (x2, x3)), rfl⟩
  · simp at h

theorem grown_cell2 {w w' : World} {r : Nat} (hg : w.grownBy w' (some r)) {a : Addr} {v : Value} (hc : w.cell? a = some v) (hne : a.block ≠ r) : w'.cell? a = some v :=
  (World.cell?_of_block (w := w) (hg.block a.block (World.block_lt_of_cell? _ _ hc) (fun e => hne (by simpa using e)))).trans hc

end Go.Proofs.YtkjlkbgdkdcboaaGreatDoor

