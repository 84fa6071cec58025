import Derived.Test.YtkjlkbgdkdcboaaGreatRows
import Derived.WalkKit
import Derived.ProofKit
import Derived.WideKeyEntry
import Derived.Maps.OwnSet
import Derived.Maps.RangeWalk

set_option linter.unusedSimpArgs false
set_option linter.unusedVariables false

namespace Go.Proofs.YtkjlkbgdkdcboaaGreat
open Go.RowKit Go.Maps Go.WideElems Go.ChangeMaps
open Go.WideMaps (KeyLaw)

theorem laidOut : laidOutB Tryz.prog = true := by kernel_rfl
theorem lawPt : KeyLaw Tryz.prog 35 := deep_law_laid laidOut (m := 2) (by omega) (of_decide_eq_true (by kernel_rfl)) (by kernel_rfl) (by kernel_rfl)
theorem lawEd : KeyLaw Tryz.prog 37 := deep_law_laid laidOut (m := 3) (by omega) (of_decide_eq_true (by kernel_rfl)) (by kernel_rfl) (by kernel_rfl)
theorem zeroInt (w : World) : (zeroValue 3).run Tryz.prog w = .ok (.int .i64 0) w := by kernel_rfl

theorem setBlock_twice (w : World) (b : Nat) (o o' : Obj) : setBlock (setBlock w b o) b o' = setBlock w b o' := by
  unfold setBlock; simp [Array.setIfInBounds_setIfInBounds]

section
variable {P : Program} {w : World} {t k e : TypeId} {b n : Nat} {D : DataW Unit}

theorem entry_cases (K : KeyLaw P k) (ht : P.underlying t = some (.map k e)) {z : Value} (hz : ∀ u : World, (zeroValue e).run P u = .ok z u) {es : Array MapEntry} {clock : Nat} (hb : w.heap[b]? = some (.map es clock))
    (hks : ∀ x ∈ es.toList, ∃ l, keyOf P k x.key = some l) {key : Value} {kl : Lit} (hkey : keyOf P k key = some kl) :
    ((Instr.mapEntry t (.map (some b)) key).run P w = .ok (.tuple #[z, goInt clock]) (setBlock w b (.map (es.push ⟨key, z, clock⟩) (clock + 1))) ∧
      (Instr.mapUpdate t (.map (some b)) key z).run P w = .ok () (setBlock w b (.map (es.push ⟨key, z, clock⟩) (clock + 1))) ∧
      (Instr.lookup t (.map (some b)) key false).run P w = .ok z w) ∨
    ∃ v st, (Instr.mapEntry t (.map (some b)) key).run P w = .ok (.tuple #[v, goInt st]) (setBlock w b (.map es clock)) := by
  rcases K.find w hkey es.toList hks with ⟨h1, _⟩ | ⟨j, e0, h1, h2, h3⟩
  · refine Or.inl ⟨?_, ?_, ?_⟩
    · simp [Instr.mapEntry, run_underlying ht, MapKept.run_getObj_map hb, K.check w false hkey, h1, hz, MapKept.run_setObj_map _ hb, Result.andThen, setBlock]
    · simp [Instr.mapUpdate, run_underlying ht, MapKept.run_getObj_map hb, K.check w false hkey, h1, MapKept.run_setObj_map _ hb, Result.andThen, setBlock]
    · simp [Instr.lookup, run_underlying ht, MapKept.run_getObj_map hb, K.check w es.isEmpty hkey, h1, hz, Result.andThen]
  · have hj : es[j]? = some e0 := by simpa using h2
    have hsame : es.modify j (fun e => { e with key := key }) = es := by
      apply Array.ext'
      rw [Array.toList_modify, modify_eq_set _ _ _ _ h2]
      subst h3
      exact set_self _ _ _ h2
    exact Or.inr ⟨e0.val, e0.born, by simp [Instr.mapEntry, run_underlying ht, MapKept.run_getObj_map hb, K.check w false hkey, h1, hj, h3, K.stays w hkey, hsame, MapKept.run_setObj_map _ hb, Result.andThen, setBlock]⟩

/-- 'm[k]++', at its four operations, in whatever order they come. -/
theorem tick (K : KeyLaw P k) (ht : P.underlying t = some (.map k e)) (he : P.underlying e = some (.int .i64)) (hz : ∀ u : World, (zeroValue e).run P u = .ok (.int .i64 0) u)
    (h : w.ownsMap P k (plainElem P e) b n D) (hn : n + 1 < maxLen) {key : Value} {kl : Lit} (hkey : keyOf P k key = some kl) :
    ∃ (c : Int) (v0 : Value) (st : Nat) (w2 : World), (Lit.int .i64 c).wf = true ∧ D.atKey kl (.lit (.int .i64 0)) = .lit (.int .i64 c) ∧
      (Instr.lookup t (.map (some b)) key false).run P w = .ok (.int .i64 c) w ∧ (Instr.lookup t (.map (some b)) key false).run P w2 = .ok (.int .i64 c) w2 ∧
      (Instr.mapEntry t (.map (some b)) key).run P w = .ok (.tuple #[v0, .int .i64 st]) w2 ∧ w.grownBy w2 (some b) ∧
      ∀ d : Int, (Lit.int .i64 d).wf = true → ∃ w3 : World, (Instr.entryStore t (.map (some b)) (.int .i64 st) (.int .i64 d)).run P w2 = .ok () w3 ∧ w3.ownsMap P k (plainElem P e) b (n + 1) (D.put kl (.lit (.int .i64 d))) ∧ w.grownBy w3 (some b) := by
  have KK : Keyed P k := Keyed.of_law K
  obtain ⟨c, hl1, hat, hwc⟩ := h.lookup_int KK ht he (hz w) hkey
  obtain ⟨es, clock, hb, F, hs, hD⟩ := id h
  have hks : ∀ x ∈ es.toList, ∃ l, keyOf P k x.key = some l := fun x hx => by
    obtain ⟨y, hy⟩ := F.reads x hx
    exact ⟨_, rd_key hy⟩
  obtain ⟨v0, st, es1, clock1, hm, _, hst⟩ := entry_then_store K ht hz hb F hkey
  have hb2 : (setBlock w b (.map es1 clock1)).heap[b]? = some (.map es1 clock1) := heap_setBlock_same hb _
  have hgrow : ∀ o, w.grownBy (setBlock w b o) (some b) := fun o => ⟨rfl, rfl, rfl, by simp [setBlock], fun i _ hi => heap_setBlock_other hb _ (fun e => hi (by rw [e]))⟩
  have hl2 : (Instr.lookup t (.map (some b)) key false).run P (setBlock w b (.map es1 clock1)) = .ok (.int .i64 c) (setBlock w b (.map es1 clock1)) := by
    rcases entry_cases K ht hz hb hks hkey with ⟨h1, h2, h3⟩ | ⟨v, s, h1⟩
    · obtain ⟨w', hu, hown, _⟩ := h.update KK ht (by omega) hkey (plainElem_int he (a := 0) (by decide))
      rw [h2] at hu
      rw [hm] at h1
      simp only [Result.ok.injEq] at hu h1
      rw [h1.2, hu.2]
      obtain ⟨c', hl', hat', _⟩ := hown.lookup_int KK ht he (hz w') hkey
      have hc : c' = c := by
        rw [atKey_put_same h.isMap (KK.key hkey)] at hat'
        rw [h3] at hl1
        simp at hat' hl1
        omega
      rw [← hc]
      exact hl'
    · rw [hm] at h1
      simp only [Result.ok.injEq] at h1
      rw [h1.2]
      have hown : (setBlock w b (.map es clock)).ownsMap P k (plainElem P e) b n D := ⟨es, clock, heap_setBlock_same hb _, F, hs, hD⟩
      obtain ⟨c', hl', hat', _⟩ := hown.lookup_int KK ht he (hz _) hkey
      have hc : c' = c := by
        rw [hat] at hat'; simpa using hat'.symm
      rw [← hc]
      exact hl'
  refine ⟨c, v0, st, _, hwc, hat, hl1, hl2, hm, hgrow _, fun d hd => ?_⟩
  obtain ⟨es', clock', h1, h2⟩ := hst _ (.int .i64 d) hb2
  obtain ⟨w', hu, hown, _⟩ := h.update KK ht (by omega) hkey (plainElem_int he hd)
  rw [h2] at hu
  simp only [Result.ok.injEq] at hu
  rw [setBlock_twice] at h1
  exact ⟨_, h1, by rw [hu.2]; exact hown, hgrow _⟩
end

theorem types_big : 99 < Tryz.prog.types.size := of_decide_eq_true (by kernel_rfl)
theorem cells28 : Tryz.prog.cellsOf 35 = 2 := by kernel_rfl
theorem cells3 : Tryz.prog.cellsOf 3 = 1 := by kernel_rfl
theorem cells46 : Tryz.prog.cellsOf 37 = 4 := by kernel_rfl

/-- what a point reads as, as a key -/
def kp (x y : Int) : Lit := .string (keyBytes [.int .i64 x, .int .i64 y])
theorem key_pt {x y : Int} (hx : (Lit.int .i64 x).wf = true) (hy : (Lit.int .i64 y).wf = true) : keyOf Tryz.prog 35 (.agg #[.int .i64 x, .int .i64 y]) = some (kp x y) := by
  have k28 : Tryz.prog.keyType 35 = true := by kernel_rfl
  have f28 : (Value.agg #[Value.int .i64 x, .int .i64 y]).formed Tryz.prog 35 = true := by simp [Value.formed, Tryz.underlying35, cells28]
  obtain ⟨m, hm⟩ : ∃ m, Tryz.prog.types.size = m + 1 := ⟨Tryz.prog.types.size - 1, by have := types_big; omega⟩
  unfold keyOf
  rw [Tryz.underlying35, k28, f28, hm]
  have e : Tryz.prog.keyLits (m + 1 + 1) 35 [Value.int .i64 x, .int .i64 y] = some [.int .i64 x, .int .i64 y] := by
    simp [Program.keyLits, Tryz.underlying35, Tryz.underlying3, hx, hy, cells28, cells3]
  simp only [Value.cells, Bool.and_self, if_true, e, Option.map_some, kp]

/-- what an edge reads as, as a key -/
def ke (x y u v : Int) : Lit := .string (keyBytes [.int .i64 x, .int .i64 y, .int .i64 u, .int .i64 v])
theorem key_ed {x y u v : Int} (hx : (Lit.int .i64 x).wf = true) (hy : (Lit.int .i64 y).wf = true) (hu : (Lit.int .i64 u).wf = true) (hv : (Lit.int .i64 v).wf = true) :
    keyOf Tryz.prog 37 (.agg #[.int .i64 x, .int .i64 y, .int .i64 u, .int .i64 v]) = some (ke x y u v) := by
  have k46 : Tryz.prog.keyType 37 = true := by kernel_rfl
  have f46 : (Value.agg #[Value.int .i64 x, .int .i64 y, .int .i64 u, .int .i64 v]).formed Tryz.prog 37 = true := by simp [Value.formed, Tryz.underlying37, cells46]
  obtain ⟨m, hm⟩ : ∃ m, Tryz.prog.types.size = m + 1 + 1 := ⟨Tryz.prog.types.size - 2, by have := types_big; omega⟩
  unfold keyOf
  rw [Tryz.underlying37, k46, f46, hm]
  have e : Tryz.prog.keyLits (m + 1 + 1 + 1) 37 [Value.int .i64 x, .int .i64 y, .int .i64 u, .int .i64 v] = some [.int .i64 x, .int .i64 y, .int .i64 u, .int .i64 v] := by
    simp [Program.keyLits, Tryz.underlying37, Tryz.underlying35, Tryz.underlying3, hx, hy, hu, hv, cells28, cells3, cells46, List.range, List.range.loop]
  simp only [Value.cells, Bool.and_self, if_true, e, Option.map_some, ke]

end Go.Proofs.YtkjlkbgdkdcboaaGreat
