import Derived.Test.YtkjlkbgdkdcboaaDoorLaw
import Derived.Test.YtkjlkbgdkdcboaaDoorTie
import Derived.Test.YtkjlkbgdkdcboaaDoorCards
import Derived.WalkKit
import Derived.ProofKit
import Derived.OpenShut
import Derived.Lib.SmallJoins
import Derived.SizedLaws
import Derived.Deep.SlicePairs
import Derived.Carry
import Derived.Lib.LaidTab
import Derived.LaidMore
import Derived.LaidSub
import Derived.LaidHandle
import Derived.SevenTiedAt
namespace Go.Proofs.YtkjlkbgdkdcboaaDoor.writes
open Go.ChangeShapes Go.WideShapes Go.ChangeAt Go.RowKit Go.Joins Go.Deep

theorem own : ownKnob Tryd.prog.godebug = none := by kernel_rfl
theorem laidOut : laidOutB Tryd.prog = true := by kernel_rfl
theorem fcells26 : Tryd.prog.cellsOf 36 = 1 := by kernel_rfl
theorem fcells3 : Tryd.prog.cellsOf 3 = 1 := by kernel_rfl
theorem fcells28 : Tryd.prog.cellsOf 38 = 2 := by kernel_rfl
theorem fbytes26 : Tryd.prog.bytesOf 36 = 24 := by kernel_rfl
theorem fbytes28 : Tryd.prog.bytesOf 38 = 16 := by kernel_rfl
theorem reach_eq : reachBytes = 140737488351232 := rfl

theorem weightsAll_mem {H : Type} {P : Program} {e : TypeId} : ∀ {l : List (DataW H)} {d : DataW H}, d ∈ l → ∀ n ∈ d.weights P e, n ∈ DataW.weightsAll P e l
  | d' :: r, d, hd, n, hn => by
    simp only [DataW.weightsAll, List.mem_append]
    rcases List.mem_cons.1 hd with rfl | h
    · exact Or.inl hn
    · exact Or.inr (weightsAll_mem h n hn)

/-- the reach, of a slice inside a slice -/
theorem sized_within {H : Type} {P : Program} {ts : List TypeId} {ds : List (DataW H)} (h : (DataW.weightsEach P ts ds).all (· ≤ reachBytes) = true) {j : Nat} {t e q : TypeId} {el sp e' sp' : List (DataW H)}
    (ht : ts[j]? = some t) (hd : ds[j]? = some (.slice el sp)) (hu : P.underlying t = some (.slice e)) (hu2 : P.underlying e = some (.slice q)) (hx : DataW.slice e' sp' ∈ el) : (e'.length + sp'.length) * P.bytesOf q ≤ reachBytes := by
  refine of_decide_eq_true (List.all_eq_true.1 h _ (DataW.weights_mem_each ht hd _ ?_))
  simp only [DataW.weights, hu, List.mem_cons, List.mem_append]
  exact Or.inr (Or.inl (weightsAll_mem hx _ (by simp [DataW.weights, hu2])))

section
variable {H : Type} {enc : TypeId × Value → H} {W : World} {base : Nat} {held : Bool}

/-- a ring that is handed in -/
theorem open_ring {fuel : Nat} {cs : List Value} {x : DataW H × List MemPlace} (h : DataW.trod enc Tryd.prog W base (fun _ => true) held fuel 36 cs = some x) :
    ∃ s ps, cs = [s] ∧ Ring W s ps ∧ (ps = [] ∨ ∃ el sp, x.1 = .slice el sp ∧ el.length = ps.length) := by
  rcases open_slice_pairs Tryd.underlying36 Tryd.underlying38 fcells28 rfl rfl fcells3 fcells3 h with ⟨rfl, rfl⟩ | ⟨a, len, cap, m, n, V0, V1, D0, D1, P0, P1, rfl, hb, hl, hm, hmm, rfl, hx⟩
  · exact ⟨_, [], rfl, ⟨none, 0, 0, 0, rfl, fun h => absurd h (by simp), fun k hk => absurd hk (by simp)⟩, Or.inl rfl⟩
  · simp only [if_true] at hmm
    subst hmm
    have each : ∀ i, i < m → ∃ q : Int × Int, V0 i = .int .i64 q.1 ∧ V1 i = .int .i64 q.2 := by
      intro i hi
      obtain ⟨_, _, h0, h1⟩ := hx i hi
      obtain ⟨a, e0, _, _⟩ := DataW.trod_int Tryd.underlying3 h0
      obtain ⟨b, e1, _, _⟩ := DataW.trod_int Tryd.underlying3 h1
      simp at e0 e1
      exact ⟨(a, b), e0, e1⟩
    obtain ⟨q, hq⟩ := choose_lt each
    obtain ⟨b, o, sp⟩ := a
    have hsp : 0 < len → sp = none := fun h0 => by simpa [Addr.add] using World.cell?_spot (hx 0 (by omega)).1
    refine ⟨_, (List.range len).map q, rfl, ⟨some ⟨b, o, sp⟩, b, o, m, by simp, ?_, ?_⟩, Or.inr ⟨_, _, rfl, by simp⟩⟩
    · intro h0
      have h0' : 0 < len := by simpa using h0
      obtain rfl := hsp h0'
      have c0 := (hx 0 (by omega)).1
      rw [add_plain] at c0
      exact ⟨rfl, World.block_lt_of_cell? _ _ c0⟩
    · intro k hk
      have hk' : k < len := by simpa using hk
      obtain rfl := hsp (by omega)
      obtain ⟨c0, c1, _, _⟩ := hx k (by omega)
      rw [add_plain] at c0 c1
      obtain ⟨e0, e1⟩ := hq k (by omega)
      rw [e0] at c0
      rw [e1] at c1
      simp only [List.getElem_map, List.getElem_range]
      exact ⟨c0, by rw [Nat.add_assoc]; exact c1⟩

/-- a list of rings that is handed in -/
theorem open_rings {fuel : Nat} {cs : List Value} {x : DataW H × List MemPlace} (h : DataW.trod enc Tryd.prog W base (fun _ => true) held fuel 22 cs = some x) :
    ∃ s R, cs = [s] ∧ Rings W s R ∧ (R = [] ∨ ∃ el sp, x.1 = .slice el sp ∧ el.length = R.length ∧ ∀ r ∈ R, r = [] ∨ ∃ e' s', DataW.slice e' s' ∈ el ∧ e'.length = r.length) := by
  rcases open_slice1 Tryd.underlying22 fcells26 h with ⟨rfl, rfl⟩ | ⟨a, len, cap, m, n, V, D, Pl, rfl, hb, hl, hm, hmm, rfl, hx⟩
  · exact ⟨_, [], rfl, ⟨none, 0, 0, 0, rfl, fun h => absurd h (by simp), fun k hk => absurd hk (by simp)⟩, Or.inl rfl⟩
  · simp only [if_true] at hmm
    subst hmm
    have each : ∀ i, i < m → ∃ ps : List (Int × Int), Ring W (V i) ps ∧ (ps = [] ∨ ∃ el sp, D i = .slice el sp ∧ el.length = ps.length) := by
      intro i hi
      obtain ⟨s, ps, e, hr, hd⟩ := open_ring (hx i hi).2
      simp at e
      subst e
      exact ⟨ps, hr, hd⟩
    obtain ⟨q, hq⟩ := choose_lt each
    obtain ⟨b, o, sp⟩ := a
    have hsp : 0 < len → sp = none := fun h0 => by simpa [Addr.add] using World.cell?_spot (hx 0 (by omega)).1
    refine ⟨_, (List.range len).map q, rfl, ⟨some ⟨b, o, sp⟩, b, o, m, by simp, ?_, ?_⟩, Or.inr ⟨_, _, rfl, by simp, ?_⟩⟩
    · intro h0
      have h0' : 0 < len := by simpa using h0
      obtain rfl := hsp h0'
      rfl
    · intro k hk
      have hk' : k < len := by simpa using hk
      obtain rfl := hsp (by omega)
      have c0 := (hx k (by omega)).1
      rw [add_plain] at c0
      simp only [List.getElem_map, List.getElem_range]
      exact ⟨_, c0, (hq k (by omega)).1⟩
    · intro r hr
      obtain ⟨i, hi, rfl⟩ := List.mem_map.1 hr
      have hi' := List.mem_range.1 hi
      rcases (hq i (by omega)).2 with e | ⟨el, s', e, e2⟩
      · exact Or.inl e
      · exact Or.inr ⟨el, s', List.mem_map.2 ⟨i, hi, e⟩, e2⟩

end

theorem gT : Tryd.prog.globalNamed "internal/strconv.uint64pow10" = some 1 := by kernel_rfl
theorem gTType : (Tryd.prog.globals[1]?).map (fun x => x.type) = some 94 := by kernel_rfl

theorem tab_of_laid {W : World} (h : laidMetH Tryd.prog Rows.writesRow.laid W) : Tab W := by
  rw [MakeChecks.laidMetH_plain _ _ _ (by kernel_rfl)] at h
  have h2 := laidMet.filter (fun x => x.1 == "internal/strconv.uint64pow10") h
  have e : (Rows.writesRow.laid.filter fun x => x.1 == "internal/strconv.uint64pow10") = [("internal/strconv.uint64pow10", Lib.tabData .u64 Lib.pow10Tab)] := by rfl
  rw [e] at h2
  exact Lib.tabIs_of_head gT gTType Tryd.underlying94 Tryd.underlying87 (by kernel_rfl) (by kernel_rfl) h2

/-- the door's own heap meets the condition -/
theorem door_met (os : Os) (args : Array Value) : laidMetH Tryd.prog Rows.writesRow.laid ((World.doorLaid Tryd.prog 400 os).forCall (fun _ _ => 0) ⟨#[], args, []⟩).memory :=
  laidMetH_of_parts3 (fuel := 8) (laidMet_of_run' 8 (by kernel_rfl) (by kernel_rfl)) (by kernel_rfl) (by kernel_rfl)

set_option maxRecDepth 100000 in
theorem lifted (os : Os) (started : os.Started) (H : Type) (enc : TypeId × Value → H) :
    ReturnsInHanded {} Tryd.checked os 3 .any (fun w args => (Rows.writesSpec.pre enc Tryd.prog Tryd.f3 [] false w args ∧ laidMetH Tryd.prog Rows.writesRow.laid w) ∧ sizedMet enc Tryd.prog Tryd.f3 (OpenSpec.ofChange Rows.writesSpec) false w args)
      (Rows.writesSpec.post enc Tryd.prog Tryd.f3 false true false false) := by
  refine returnsInHanded_of_change_and (C := Tryd.checked) (X := fun w _ => laidMetH Tryd.prog Rows.writesRow.laid w) (fun _ _ _ hh h => h.of_heap hh) own started (by kernel_rfl) Tryd.func3
    (ChangeSpec.witness_shaped (enc := enc) (C := Tryd.checked) (os := os) (X := fun w _ => laidMetH Tryd.prog Rows.writesRow.laid w) false (World.doorLaid Tryd.prog 400 os) #[.slice none 0 0] 8 rfl (World.shaped_of_RefB (by kernel_rfl) (by kernel_rfl)) (by kernel_rfl) (by kernel_rfl) (by kernel_rfl) (door_met os _)) ?_
  intro W base args ds gs before hval0 hW _ hsz0 hL _
  have hsz : (DataW.weightsEach Tryd.prog (Tryd.f3.params.toList ++ Rows.writesSpec.plain.varTypes Tryd.prog) (ds ++ gs)).all (fun x => decide (x ≤ reachBytes)) = true := hsz0
  clear hsz0
  have hval : ∀ (j : Nat) t v, Tryd.f3.params[j]? = some t → args[j]? = some v → Value.okWide Tryd.prog W .any base t v := hval0
  have hW' := hW
  obtain ⟨p, q, hA0, hV, rfl, hfz, hnd⟩ := hW
  have hA : DataW.TrodAll enc Tryd.prog W 0 (fun _ => true) true Tryd.f3.params.toList args.toList ds p := hA0
  rw [Tryd.params3] at hA hval hsz
  obtain ⟨v0, d0, rfl, rfl, h0⟩ := trodAll_one hA
  obtain ⟨rfl, rfl⟩ := trodVars_none hV
  obtain ⟨a0, len, cap, rfl⟩ := okWide_slice Tryd.underlying22 (hval 0 22 v0 rfl rfl)
  have h0k := h0
  obtain ⟨fuel, hf⟩ := h0
  obtain ⟨s, R, hs, hR, hd⟩ := open_rings hf
  simp [Value.cells] at hs
  subst hs
  clear hA0 hval0
  simp only [List.append_nil] at hW' hsz
  have hlt0 : ∀ x ∈ p, x.block < W.heap.size := fun x hx => hW'.lt x (by simp [hx])
  have hn : R.length * 24 ≤ 140737488351232 := by
    rcases hd with rfl | ⟨el, sp, e, e2, _⟩
    · simp
    · dsimp only at e
      subst e
      have := sized_slice hsz (j := 0) (t := 22) (e := 36) rfl rfl Tryd.underlying22
      rw [fbytes26, reach_eq, e2] at this
      omega
  have hm : ∀ r ∈ R, r.length * 16 ≤ 140737488351232 := by
    intro r hr
    rcases hd with rfl | ⟨el, sp, e, _, e3⟩
    · simp at hr
    · dsimp only at e
      subst e
      rcases e3 r hr with rfl | ⟨e', s', hx, e4⟩
      · simp
      · have := sized_within hsz (j := 0) (t := 22) (e := 36) (q := 38) rfl rfl Tryd.underlying22 Tryd.underlying36 hx
        rw [fbytes28, reach_eq, e4] at this
        omega
  refine (writes_walk R _ W hR hn hm (tab_of_laid hL)).mono fun e W' ⟨he, hg⟩ => ?_
  subst he
  exact ⟨_, rfl, _, _, _, [], _, [], hW', trodAll_mk1 (shut_bool Tryd.underlying4 _), trodAll_mk1 (hg.trod laidOut (by kernel_rfl) (of_decide_eq_true (by kernel_rfl)) h0k hlt0), rfl, hg.frame _, fun h => by cases h⟩

theorem row_holds : Rows.WritesSaid :=
  OpenClaim.holds_of_wide 3 Tryd.f3 rfl rfl rfl rfl rfl rfl rfl ⟨rfl, rfl, rfl, rfl, rfl⟩ rfl rfl rfl rfl rfl (by kernel_rfl) Tryd.func3 (by kernel_rfl)
    (of_decide_eq_true (by kernel_rfl)) (by unfold Func.isWrapper; first | (rw [if_pos (by decide +kernel)]; kernel_rfl) | (rw [if_neg (by decide +kernel)]; exact ⟨rfl, rfl⟩))
    (fun os started H enc _ => lifted os started H enc)

end Go.Proofs.YtkjlkbgdkdcboaaDoor.writes
