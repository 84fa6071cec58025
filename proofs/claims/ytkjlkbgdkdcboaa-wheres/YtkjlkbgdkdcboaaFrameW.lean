import Derived.Test.YtkjlkbgdkdcboaaFrame
import Derived.Test.YtkjlkbgdkdcboaaWalksX
import Derived.SizedLaws
import Derived.Deep.SlicePairs
import Derived.Carry
namespace Go.Proofs.Ytkjlkbgdkdcboaa.wheres
open Go.ChangeShapes Go.WideShapes Go.ChangeAt Go.RowKit Go.Joins Go.Deep

theorem laidOut : laidOutB Try.prog = true := by kernel_rfl
theorem fcells26 : Try.prog.cellsOf 26 = 1 := by kernel_rfl
theorem fcells37 : Try.prog.cellsOf 37 = 2 := by kernel_rfl
theorem fbytes26 : Try.prog.bytesOf 26 = 24 := by kernel_rfl
theorem fbytes28 : Try.prog.bytesOf 28 = 16 := by kernel_rfl
theorem reach_eq : reachBytes = 140737488351232 := rfl

theorem weightsAll_mem {H : Type} {P : Program} {e : TypeId} : ∀ {l : List (DataW H)} {d : DataW H}, d ∈ l → ∀ n ∈ d.weights P e, n ∈ DataW.weightsAll P e l
  | d' :: r, d, hd, n, hn => by
    simp only [DataW.weightsAll, List.mem_append]
    rcases List.mem_cons.1 hd with rfl | h
    · exact Or.inl hn
    · exact Or.inr (weightsAll_mem h n hn)

/-- the reach, of a slice inside a slice -/
theorem sized_within {H : Type} {P : Program} {ts : List TypeId} {ds : List (DataW H)} (h : (DataW.weightsEach P ts ds).all (· ≤ reachBytes) = true) {j : Nat} {t e q : TypeId} {el sp e' sp' : List (DataW H)}
    (ht : ts[j]? = some t) (hd : ds[j]? = some (.slice el sp)) (hu : P.underlying t = some (.slice e)) (hu2 : P.underlying e = some (.slice q)) (hx : DataW.slice e' sp' ∈ el) : (e'.length + sp'.length) * P.bytesOf q ≤ reachBytes := by
  refine of_decide_eq_true (List.all_eq_true.1 h _ (DataW.weights_mem_each ht hd _ ?_))
  simp only [DataW.weights, hu, List.mem_cons, List.mem_append]
  exact Or.inr (Or.inl (weightsAll_mem hx _ (by simp [DataW.weights, hu2])))

section
variable {H : Type} {enc : TypeId × Value → H} {W : World} {base : Nat} {held : Bool}

/-- a ring that is handed in -/
theorem open_ring {fuel : Nat} {cs : List Value} {x : DataW H × List MemPlace} (h : DataW.trod enc Try.prog W base (fun _ => true) held fuel 26 cs = some x) :
    ∃ s ps, cs = [s] ∧ Ring W s ps ∧ (ps = [] ∨ ∃ el sp, x.1 = .slice el sp ∧ el.length = ps.length) := by
  rcases open_slice_pairs Try.underlying26 Try.underlying28 fcells28 rfl rfl fcells3 fcells3 h with ⟨rfl, rfl⟩ | ⟨a, len, cap, m, n, V0, V1, D0, D1, P0, P1, rfl, hb, hl, hm, hmm, rfl, hx⟩
  · exact ⟨_, [], rfl, ⟨none, 0, 0, 0, rfl, fun h => absurd h (by simp), fun k hk => absurd hk (by simp)⟩, Or.inl rfl⟩
  · simp only [if_true] at hmm
    subst hmm
    have each : ∀ i, i < m → ∃ q : Int × Int, V0 i = .int .i64 q.1 ∧ V1 i = .int .i64 q.2 := by
      intro i hi
      obtain ⟨_, _, h0, h1⟩ := hx i hi
      obtain ⟨a, e0, _, _⟩ := DataW.trod_int Try.underlying3 h0
      obtain ⟨b, e1, _, _⟩ := DataW.trod_int Try.underlying3 h1
      simp at e0 e1
      exact ⟨(a, b), e0, e1⟩
    obtain ⟨q, hq⟩ := choose_lt each
    obtain ⟨b, o, sp⟩ := a
    have hsp : 0 < len → sp = none := fun h0 => by simpa [Addr.add] using World.cell?_spot (hx 0 (by omega)).1
    refine ⟨_, (List.range len).map q, rfl, ⟨some ⟨b, o, sp⟩, b, o, m, by simp, ?_, ?_⟩, Or.inr ⟨_, _, rfl, by simp⟩⟩
    · intro h0
      have h0' : 0 < len := by simpa using h0
      obtain rfl := hsp h0'
      have c0 := (hx 0 (by omega)).1
      rw [add_plain] at c0
      exact ⟨rfl, World.block_lt_of_cell? _ _ c0⟩
    · intro k hk
      have hk' : k < len := by simpa using hk
      obtain rfl := hsp (by omega)
      obtain ⟨c0, c1, _, _⟩ := hx k (by omega)
      rw [add_plain] at c0 c1
      obtain ⟨e0, e1⟩ := hq k (by omega)
      rw [e0] at c0
      rw [e1] at c1
      simp only [List.getElem_map, List.getElem_range]
      exact ⟨c0, by rw [Nat.add_assoc]; exact c1⟩

/-- a list of rings that is handed in -/
theorem open_rings {fuel : Nat} {cs : List Value} {x : DataW H × List MemPlace} (h : DataW.trod enc Try.prog W base (fun _ => true) held fuel 22 cs = some x) :
    ∃ s R, cs = [s] ∧ Rings W s R ∧ (R = [] ∨ ∃ el sp, x.1 = .slice el sp ∧ el.length = R.length ∧ ∀ r ∈ R, r = [] ∨ ∃ e' s', DataW.slice e' s' ∈ el ∧ e'.length = r.length) := by
  rcases open_slice1 Try.underlying22 fcells26 h with ⟨rfl, rfl⟩ | ⟨a, len, cap, m, n, V, D, Pl, rfl, hb, hl, hm, hmm, rfl, hx⟩
  · exact ⟨_, [], rfl, ⟨none, 0, 0, 0, rfl, fun h => absurd h (by simp), fun k hk => absurd hk (by simp)⟩, Or.inl rfl⟩
  · simp only [if_true] at hmm
    subst hmm
    have each : ∀ i, i < m → ∃ ps : List (Int × Int), Ring W (V i) ps ∧ (ps = [] ∨ ∃ el sp, D i = .slice el sp ∧ el.length = ps.length) := by
      intro i hi
      obtain ⟨s, ps, e, hr, hd⟩ := open_ring (hx i hi).2
      simp at e
      subst e
      exact ⟨ps, hr, hd⟩
    obtain ⟨q, hq⟩ := choose_lt each
    obtain ⟨b, o, sp⟩ := a
    have hsp : 0 < len → sp = none := fun h0 => by simpa [Addr.add] using World.cell?_spot (hx 0 (by omega)).1
    refine ⟨_, (List.range len).map q, rfl, ⟨some ⟨b, o, sp⟩, b, o, m, by simp, ?_, ?_⟩, Or.inr ⟨_, _, rfl, by simp, ?_⟩⟩
    · intro h0
      have h0' : 0 < len := by simpa using h0
      obtain rfl := hsp h0'
      rfl
    · intro k hk
      have hk' : k < len := by simpa using hk
      obtain rfl := hsp (by omega)
      have c0 := (hx k (by omega)).1
      rw [add_plain] at c0
      simp only [List.getElem_map, List.getElem_range]
      exact ⟨_, c0, (hq k (by omega)).1⟩
    · intro r hr
      obtain ⟨i, hi, rfl⟩ := List.mem_map.1 hr
      have hi' := List.mem_range.1 hi
      rcases (hq i (by omega)).2 with e | ⟨el, s', e, e2⟩
      · exact Or.inl e
      · exact Or.inr ⟨el, s', List.mem_map.2 ⟨i, hi, e⟩, e2⟩

set_option maxRecDepth 100000 in
/-- a fraction that is handed in -/
theorem open_frac {b0 : Nat} {r : Reach} {v : Value} {d : DataW H} {p : List MemPlace} {sp : Nat → Bool} (hv : Value.okWide Try.prog W r b0 37 v) (h : DataW.Trod enc Try.prog W base sp held 37 v d p) :
    ∃ x y, v = .agg #[.int .i64 x, .int .i64 y] := by
  obtain ⟨v0, v1, y0, y1, n, rfl, _, _, h0, h1⟩ := open_agg2 Try.underlying37 (by kernel_rfl) fcells37 hv h
  obtain ⟨a, e0, _, _⟩ := DataW.trod_int Try.underlying3 h0
  obtain ⟨b, e1, _, _⟩ := DataW.trod_int Try.underlying3 h1
  simp at e0 e1
  exact ⟨a, b, by rw [e0, e1]⟩

end

abbrev Walk : Prop := ∀ (R : List (List (Int × Int))) (v : Value) (x y : Int × Int) (w : World), Rings w v R → R.length * 24 ≤ 140737488351232 → (∀ r ∈ R, r.length * 16 ≤ 140737488351232) →
    Calls Try.prog 4 #[v, .agg #[.int .i64 x.1, .int .i64 x.2], .agg #[.int .i64 y.1, .int .i64 y.2]] w fun e w' => e = .returned (.bool true) ∧ Below w.heap.size w w'

set_option maxRecDepth 100000 in
theorem lifted (walk : Walk)
    (os : Os) (started : os.Started) (H : Type) (enc : TypeId × Value → H) :
    ReturnsInHanded {} Try.checked os 4 .any (Rows.wheresSpec.pre6 enc Try.prog Try.f4 Rows.wheresRow.domain false) (Rows.wheresSpec.post enc Try.prog Try.f4 false true false false) := by
  refine returnsInHanded_of_change_sized (C := Try.checked) own started (by kernel_rfl) Try.func4
    (ChangeSpec.witness6 (enc := enc) (C := Try.checked) false ⟨#[], #[.slice none 0 0, .agg #[.int .i64 0, .int .i64 1], .agg #[.int .i64 0, .int .i64 1]], []⟩ 8 (by kernel_rfl) (by kernel_rfl) (by kernel_rfl) (by kernel_rfl)) ?_
  intro W base args ds gs before hval0 hW _ hsz0 _
  have hsz : (DataW.weightsEach Try.prog (Try.f4.params.toList ++ Rows.wheresSpec.plain.varTypes Try.prog) (ds ++ gs)).all (· ≤ reachBytes) = true := hsz0
  clear hsz0
  have hval : ∀ (j : Nat) t v, Try.f4.params[j]? = some t → args[j]? = some v → Value.okWide Try.prog W .any base t v := hval0
  have hW' := hW
  obtain ⟨p, q, hA0, hV, rfl, hfz, hnd⟩ := hW
  have hA : DataW.TrodAll enc Try.prog W 0 (fun _ => true) true Try.f4.params.toList args.toList ds p := hA0
  rw [Try.params4] at hA hval hsz
  obtain ⟨v0, v1, v2, d0, d1, d2, p0, p1, p2, rfl, rfl, rfl, h0, h1, h2⟩ := trodAll_three hA
  obtain ⟨rfl, rfl⟩ := trodVars_none hV
  obtain ⟨x1, x2, rfl⟩ := open_frac (hval 1 37 v1 rfl rfl) h1
  obtain ⟨y1, y2, rfl⟩ := open_frac (hval 2 37 v2 rfl rfl) h2
  obtain ⟨a0, len, cap, rfl⟩ := okWide_slice Try.underlying22 (hval 0 22 v0 rfl rfl)
  have h0k := h0
  obtain ⟨fuel, hf⟩ := h0
  obtain ⟨s, R, hs, hR, hd⟩ := open_rings hf
  simp [Value.cells] at hs
  subst hs
  clear hA0 hval0
  simp only [List.append_nil] at hW' hsz
  have hlt0 : ∀ x ∈ p0, x.block < W.heap.size := fun x hx => hW'.lt x (by simp [hx])
  have hlt1 : ∀ x ∈ p1, x.block < W.heap.size := fun x hx => hW'.lt x (by simp [hx])
  have hlt2 : ∀ x ∈ p2, x.block < W.heap.size := fun x hx => hW'.lt x (by simp [hx])
  have hn : R.length * 24 ≤ 140737488351232 := by
    rcases hd with rfl | ⟨el, sp, e, e2, _⟩
    · simp
    · dsimp only at e
      subst e
      have := sized_slice hsz (j := 0) (t := 22) (e := 26) rfl rfl Try.underlying22
      rw [fbytes26, reach_eq, e2] at this
      omega
  have hm : ∀ r ∈ R, r.length * 16 ≤ 140737488351232 := by
    intro r hr
    rcases hd with rfl | ⟨el, sp, e, _, e3⟩
    · simp at hr
    · dsimp only at e
      subst e
      rcases e3 r hr with rfl | ⟨e', s', hx, e4⟩
      · simp
      · have := sized_within hsz (j := 0) (t := 22) (e := 26) (q := 28) rfl rfl Try.underlying22 Try.underlying26 hx
        rw [fbytes28, reach_eq, e4] at this
        omega
  refine (walk R _ (x1, x2) (y1, y2) W hR hn hm).mono fun e W' ⟨he, hg⟩ => ?_
  subst he
  exact ⟨_, rfl, _, _, _, [], _, [], hW', trodAll_mk1 (shut_bool Try.underlying4 _), trodAll_mk3 (hg.trod laidOut (by kernel_rfl) (of_decide_eq_true (by kernel_rfl)) h0k hlt0) (hg.trod laidOut (by kernel_rfl) (of_decide_eq_true (by kernel_rfl)) h1 hlt1) (hg.trod laidOut (by kernel_rfl) (of_decide_eq_true (by kernel_rfl)) h2 hlt2), rfl, hg.frame _, fun h => by cases h⟩

theorem proved_of (walk : Walk) : Rows.WheresSaid :=
  OpenClaim.holds_of_wide 4 Try.f4 rfl rfl rfl rfl rfl rfl rfl ⟨rfl, rfl, rfl, rfl, rfl⟩ rfl rfl rfl rfl rfl (by kernel_rfl) Try.func4 (by kernel_rfl)
    (of_decide_eq_true (by kernel_rfl)) (by unfold Func.isWrapper; first | (rw [if_pos (by decide +kernel)]; kernel_rfl) | (rw [if_neg (by decide +kernel)]; exact ⟨rfl, rfl⟩))
    (fun os started H enc _ => lifted walk os started H enc)

end Go.Proofs.Ytkjlkbgdkdcboaa.wheres
