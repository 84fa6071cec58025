import Derived.Test.YtkjlkbgdkdcboaaGreatDoorJoinW
import Derived.Test.YtkjlkbgdkdcboaaGreatDoorHA

set_option linter.unusedSimpArgs false
set_option linter.unusedVariables false

set_option linter.unusedSimpArgs false
set_option linter.unusedVariables false
namespace Go.Proofs.YtkjlkbgdkdcboaaGreatDoor
open Go.RowKit Go.Maps Go.Shelf
attribute [local go_sem] Oper.semAt_some
theorem tagC_of (o : Obj) : tagC o = tagOf o := by cases o <;> rfl
structure KeepO (B : Nat) (W W' : World) : Prop where
  bel : Below B W W'
  oth : Oth W W'
theorem KeepO.of_below {B : Nat} {W W' : World} (h : Below W.heap.size W W') (hB : B ≤ W.heap.size) : KeepO B W W' :=
  ⟨h.mono hB, h.size, fun k o hk _ _ => (h.block k (Array.getElem?_eq_some_iff.1 hk).1).trans hk⟩
def AbT {β : Type} (B : Nat) (J : β → World → Prop) : Prop := ∀ s W W', J s W → KeepO B W W' → J s W'
structure KeepI (W W' : World) : Prop where
  size : W.heap.size ≤ W'.heap.size
  same : ∀ (k : Nat) (o : Obj), W.heap[k]? = some o → tagOf o ≠ none → tagOf o ≠ some 34 → tagOf o ≠ some 44 → W'.heap[k]? = some o
theorem KeepI.trans {A B C : World} (h : KeepI A B) (h' : KeepI B C) : KeepI A C := ⟨Nat.le_trans h.size h'.size, fun k o hk a b c => h'.same k o (h.same k o hk a b c) a b c⟩
theorem KeepI.of_below {W W' : World} (h : Below W.heap.size W W') : KeepI W W' := ⟨h.size, fun k o hk _ _ _ => (h.block k (Array.getElem?_eq_some_iff.1 hk).1).trans hk⟩
theorem KeepI.put {W : World} {l : Nat} {o : Obj} (o' : Obj) (hl : W.heap[l]? = some o) (ho : o.isCells = false) : KeepI W (W.putObj l o') := by
  refine ⟨by simp [World.putObj], fun k u hk a _ _ => ?_⟩
  refine (World.putObj_heap_other (fun e => ?_)).trans hk
  subst e
  rw [hl] at hk
  cases hk
  cases o with
  | cells => cases ho
  | _ => exact a rfl
section
variable {F : Fence} {n : Nat} {P : Program} {α : Type}
def SeqT (F : Fence) (n : Nat) (P : Program) (g : Nat) (lb : Array Value) (encs : α → Array Value) (Kp : World → World → Prop) (At : α → World → Prop) (S Sp : List α → Prop) (N : Nat) (w : World) : Prop :=
  ∀ (l : Nat) (J Jx : List α → World → Prop) (W : World), Below w.heap.size w W → AbT W.heap.size J → AbT W.heap.size Jx →
    (∀ pre x W1, J pre W1 → At x W1 → Sp (pre ++ [x]) → pre.length < N → YieldAt F (n - 1) P l (encs x) W1 fun e W' =>
      (e = .returned (.bool true) ∧ J (pre ++ [x]) W' ∧ Kp W1 W') ∨ (e = .returned (.bool false) ∧ Jx (pre ++ [x]) W')) →
    J [] W →
    CallsIn F n P g (#[.func (.yield l) #[] #[]] ++ lb) W fun e W' => (∃ v, e = .returned v) ∧ ((∃ xs, S xs ∧ J xs W') ∨ (∃ pre, Sp pre ∧ Jx pre W'))
theorem wpIn_rangeFunc_T {g : Operand} {ps : Array Tmp} {assign body : Code} {Q : Exit → Act → World → Prop} {a : Act} {w : World}
    (hro : F.round = none) (h1 : 1 ≤ n) {gf : Nat} {lb : Array Value} (hg : a.eval g = .func (.func gf) #[] lb) (hFg : F.fn gf) (eg : ∀ args w, (callFunc gf args).run P w = .ok (.enter gf args) w)
    {encs : α → Array Value} {Kp : World → World → Prop} {At : α → World → Prop} {S Sp : List α → Prop} {N : Nat} {w0 : World} (hseq : SeqT F (n - 1) P gf lb encs Kp At S Sp N w0)
    (hKt : ∀ {A B C : World}, Kp A B → Kp B C → Kp A C) (hKb : ∀ (W : World) (l : Nat) (o o' : Obj), w.heap.size ≤ l → W.heap[l]? = some o → o.isCells = false → o.isWalk = false → Kp W (W.putObj l o')) (hb0 : Below w0.heap.size w0 w) (hps : ∀ x, (encs x).size = ps.size)
    (I Ix : List α → World → Prop) (hI : OwnFrom w.heap.size I) (hIx : OwnFrom w.heap.size Ix) (hIt : ∀ B, w.heap.size ≤ B → AbT B I) (hIxt : ∀ B, w.heap.size ≤ B → AbT B Ix) (hAt : ∀ x W r o', W.heap[w.heap.size + 1]? = some (.loop r) → At x W → At x (W.putObj (w.heap.size + 1) o')) (h0 : I [] w) (Ax : α → Act → World → Prop) (hAx : ∀ x a', OwnFrom w.heap.size (fun (_ : Unit) W => Ax x a' W))
    (hassign : ∀ (l : Nat) (pre : List α) (x : α) (W : World) (K : Act → World → Prop), I pre W → At x W → (∀ a' W', KeepsFrom w.heap.size W W' → Kp W W' → I pre W' → At x W' → Ax x a' W' → K a' W') →
      assign.wpIn (F.inRound l) (n - 1 - 1) P (Exit.then K (fun _ _ _ => False)) { tmps := (ps.zip (encs x)).foldl (fun t (p, v) => t.setIfInBounds p v) a.tmps, defers := [] } W)
    (hbody : ∀ (l : Nat) (pre : List α) (x : α) (a' : Act) (W : World), w.heap.size ≤ l → I pre W → At x W → Ax x a' W → Sp (pre ++ [x]) → pre.length < N → body.wpIn (F.inRound l) (n - 1 - 1) P (atPost w.heap.size Kp I Ix (pre ++ [x]) W) a' W)
    (hdone : ∀ (D : Nat) (xs : List α) (W : World), w.heap.size ≤ D → S xs → I xs W → W.heap[D]? = some (.deferred (some [])) → Q .normal { a with defers := { target := .collected D, args := #[] } :: a.defers } W)
    (hstop : ∀ (D : Nat) (pre : List α) (W : World), w.heap.size ≤ D → Sp pre → Ix pre W → W.heap[D]? = some (.deferred (some [])) → Code.ret.wpIn F n P Q { a with defers := { target := .collected D, args := #[] } :: a.defers } W) :
    (Code.rangeFunc g ps assign body).wpIn F n P Q a w := by
  apply wpIn_rangeFunc
  intro fn hfn
  rw [hro]
  -- the loop's record, in each of its states
  obtain ⟨R, hR⟩ : ∃ R : LoopState → Option Code → Loop, R = fun st pe => { state := st, pending := pe, fn, tmps := a.tmps, params := ps, assign, body, defers := w.heap.size } := ⟨_, rfl⟩
  obtain ⟨V, hV⟩ : ∃ V, (w.alloc (.deferred (some []))).alloc (.loop (R .ready none)) = V := ⟨_, rfl⟩
  have kD : V.heap[w.heap.size]? = some (.deferred (some [])) := by
    rw [← hV]; exact (Below.heap_alloc _ _ _ (by simp)).trans (World.alloc_heap_new w _)
  have kL : V.heap[w.heap.size + 1]? = some (.loop (R .ready none)) := by
    rw [← hV]
    have := World.alloc_heap_new (w.alloc (.deferred (some []))) (.loop (R .ready none))
    rwa [World.size_alloc] at this
  have kI : I [] V := by rw [← hV]; exact hI.alloc _ (hI.alloc _ h0)
  have kB : Below w0.heap.size w0 V := by
    rw [← hV]; exact hb0.trans ((((Below.refl _ w).alloc (Nat.le_refl _) _).alloc (by simp) _).mono hb0.size)
  have kS : w.heap.size ≤ V.heap.size := by rw [← hV]; simp; omega
  refine ⟨w.heap.size + 1, [{ target := .collected w.heap.size, args := #[] }], V, { target := .fn (.func gf) lb, args := #[.func (.yield (w.heap.size + 1)) #[] #[]] }, V, gf,
    #[.func (.yield (w.heap.size + 1)) #[] #[]] ++ lb, V, ?_, ?_, ?_, ?_, fun _ => h1, ?_⟩
  · rw [← hV, hR]; exact run_enterLoop_outer _ _ _ _ _
  · simp only [resolve, hg]
    simp [go_sem]
  · intro f' hf'; simp [Target.leads] at hf'; subst hf'; exact hFg
  · simp [invoke, go_sem, eg]
  refine (hseq (w.heap.size + 1)
    (fun pre W => I pre W ∧ W.heap[w.heap.size + 1]? = some (.loop (R .ready none)) ∧ W.heap[w.heap.size]? = some (.deferred (some [])))
    (fun pre W => Ix pre W ∧ W.heap[w.heap.size + 1]? = some (.loop (R .done (some .ret))) ∧ W.heap[w.heap.size]? = some (.deferred (some [])))
    V kB
    (fun s A B hs hk => ⟨hIt _ kS s A B hs.1 hk, hk.oth.same _ _ hs.2.1 (by simp [tagC]) (by simp [tagC]), hk.oth.same _ _ hs.2.2 (by simp [tagC]) (by simp [tagC])⟩)
    (fun s A B hs hk => ⟨hIxt _ kS s A B hs.1 hk, hk.oth.same _ _ hs.2.1 (by simp [tagC]) (by simp [tagC]), hk.oth.same _ _ hs.2.2 (by simp [tagC]) (by simp [tagC])⟩)
    ?_ ⟨kI, kL, kD⟩).mono ?_
  · rintro pre x W ⟨hi, hl, hk⟩ hat hsp hlen
    have hy := run_yield (P := P) (args := encs x) hl (by rw [hR]; exact hps x)
    rw [hR] at hy
    refine ⟨fn, _, assign, body, hy, roundIn_of_wpIn hfn (hassign _ pre x W _ hi hat ?_)⟩
    intro a' Wa ka kpa hia hata hax
    have la := ka.same _ _ (by omega) hl rfl
    have da := ka.same _ _ (Nat.le_refl _) hk rfl
    have lta := (Array.getElem?_eq_some_iff.1 la).1
    refine ⟨_, run_beginRound la (by rw [hR]), ?_⟩
    obtain ⟨Wc, hWc⟩ : ∃ Wc, Wa.putObj (w.heap.size + 1) (.loop { R .ready none with state := .busy }) = Wc := ⟨_, rfl⟩
    have lc : Wc.heap[w.heap.size + 1]? = some (.loop { R .ready none with state := .busy }) := by rw [← hWc]; exact World.putObj_heap_same lta
    have dc : Wc.heap[w.heap.size]? = some (.deferred (some [])) := by rw [← hWc]; exact (World.putObj_heap_other (by omega)).trans da
    have kpc : Kp Wa Wc := by rw [← hWc]; exact hKb _ _ _ _ (by omega) la rfl rfl
    have ic : I pre Wc := by rw [← hWc]; exact hI.putObj _ hia (by omega) la rfl
    have atc : At x Wc := by rw [← hWc]; exact hAt x Wa _ _ la hata
    have axc : Ax x a' Wc := by rw [← hWc]; exact (hAx x a').putObj (s := ()) _ hax (by omega) la rfl
    rw [hWc]
    refine wpIn_mono (hbody _ pre x a' Wc (by omega) ic atc axc hsp hlen) ?_
    have close : ∀ (jump : Option Code) (W3 : World), KeepsFrom w.heap.size Wc W3 →
        (Instr.endRound (w.heap.size + 1) jump).run P W3 = .ok (.bool jump.isNone) (W3.putObj (w.heap.size + 1) (.loop (R (if jump.isNone then .ready else .done) jump))) ∧
        W3.heap[w.heap.size + 1]? = some (.loop { R .ready none with state := .busy }) ∧
        (W3.putObj (w.heap.size + 1) (.loop (R (if jump.isNone then .ready else .done) jump))).heap[w.heap.size + 1]? = some (.loop (R (if jump.isNone then .ready else .done) jump)) ∧
        (W3.putObj (w.heap.size + 1) (.loop (R (if jump.isNone then .ready else .done) jump))).heap[w.heap.size]? = some (.deferred (some [])) := fun jump W3 k3 => by
      have l3 := k3.same _ _ (by omega) lc rfl
      have := run_endRound (P := P) jump l3
      rw [hR] at this ⊢
      exact ⟨this, by rw [hR] at l3; exact l3, World.putObj_heap_same (Array.getElem?_eq_some_iff.1 l3).1, (World.putObj_heap_other (by omega)).trans (k3.same _ _ (Nat.le_refl _) dc rfl)⟩
    rintro e a3 W3 hp
    cases e with
    | normal =>
      obtain ⟨k3, kp3, i3⟩ := hp
      obtain ⟨r1, r2, r3, r4⟩ := close none W3 k3
      exact ⟨_, _, r1, .inl ⟨rfl, ⟨hI.putObj _ i3 (by omega) r2 rfl, r3, r4⟩, hKt kpa (hKt (hKt kpc kp3) (hKb _ _ _ _ (by omega) r2 rfl rfl))⟩⟩
    | ret =>
      obtain ⟨k3, i3⟩ := hp
      obtain ⟨r1, r2, r3, r4⟩ := close (some .ret) W3 k3
      exact ⟨_, _, r1, .inr ⟨rfl, hIx.putObj _ i3 (by omega) r2 rfl, r3, r4⟩⟩
    | exit id => exact hp.elim
    | goto t => exact hp.elim
    | panic ch => exact hp.elim
    | outgrown => exact hp.elim
  · rintro e W2 ⟨⟨v, rfl⟩, (⟨xs, hS, hi, hl, hk⟩ | ⟨pre, hSp, hi, hl, hk⟩)⟩
    · have := run_endLoop (P := P) hl (by rw [hR]; simp)
      rw [hR] at this
      exact ⟨none, _, this, hdone _ xs _ (Nat.le_refl _) hS (hI.putObj _ hi (by omega) hl rfl) ((World.putObj_heap_other (by omega)).trans hk)⟩
    · have := run_endLoop (P := P) hl (by rw [hR]; simp)
      rw [hR] at this
      exact ⟨some .ret, _, this, hstop _ pre _ (Nat.le_refl _) hSp (hIx.putObj _ hi (by omega) hl rfl) ((World.putObj_heap_other (by omega)).trans hk)⟩
end
end Go.Proofs.YtkjlkbgdkdcboaaGreatDoor

set_option linter.unusedSimpArgs false
set_option linter.unusedVariables false
namespace Go.Proofs.YtkjlkbgdkdcboaaGreatDoor
open Go.RowKit Go.Maps Go.Shelf
attribute [local go_sem] Oper.semAt_some
abbrev Gs := (Acre.Fc × Acre.Fc) × (Value × List (Acre.Ed × Bool × Bool))
def gsV (x : Gs) : Value := .agg #[.int .i64 x.1.1.1, .int .i64 x.1.1.2, .int .i64 x.1.2.1, .int .i64 x.1.2.2, x.2.1, .map none]
structure GlV (W : World) (E : List Acre.Ed) (x : Gs) : Prop where
  row : W.ownsRow 0 163 6 x.2.1 x.2.2.length (flatL x.2.2)
  len : x.2.2.length ≤ 24
  ed : ∀ l ∈ x.2.2, l.1 ∈ E
theorem GlV.later {W W' : World} {E : List Acre.Ed} {x : Gs} (h : GlV W E x) (hb : Below W.heap.size W W') : GlV W' E x := ⟨row_call h.row hb, h.len, h.ed⟩
theorem GlV.turn {W : World} {E : List Acre.Ed} {x : Gs} (h : GlV W E x) (l : Nat) (r : Loop) (o' : Obj) (hl : W.heap[l]? = some (.loop r)) : GlV (W.putObj l o') E x :=
  ⟨row_turn h.row (grownBy_putObj' W l o') (fun q e => by cases e; exact ⟨_, hl, rfl⟩), h.len, h.ed⟩
def gps (xs : List Gs) : List Acre.Pc := xs.foldl (fun ps x => (bandsOfL x.2.2).foldl (Acre.joinB x.1.1 x.1.2) ps) []
theorem gps_snoc (pre : List Gs) (x : Gs) : gps (pre ++ [x]) = (bandsOfL x.2.2).foldl (Acre.joinB x.1.1 x.1.2) (gps pre) := by
  unfold gps
  rw [List.foldl_append]
  rfl
theorem bandsG_hf {α : Type} : ∀ (l : List (Bool × α)) (i : Bool) (lo : α), 2 * (Slab.bandsG i lo l).length ≤ l.length + (if i then 1 else 0)
  | [], _, _ => by simp [Slab.bandsG]
  | (fl, e) :: t, i, lo => by
    have a := bandsG_hf t true e
    have b := bandsG_hf t false lo
    have c := bandsG_hf t fl lo
    unfold Slab.bandsG
    cases i <;> cases fl <;> simp at a b c ⊢ <;> omega
theorem bandsOfL_half (L : List (Acre.Ed × Bool × Bool)) : 2 * (bandsOfL L).length ≤ L.length := by
  unfold bandsOfL
  have := bandsG_hf (L.map fun l => (l.2.2, l.1)) false Acre.zed
  simpa using this
theorem bandsOfL_len (L : List (Acre.Ed × Bool × Bool)) : (bandsOfL L).length ≤ L.length := by
  have := bandsOfL_half L
  omega
theorem gps_len (xs : List Gs) (h : ∀ x ∈ xs, x.2.2.length ≤ 24) : (gps xs).length ≤ 12 * xs.length := by
  have : ∀ (l : List Gs) (ps : List Acre.Pc), (∀ x ∈ l, x.2.2.length ≤ 24) → (l.foldl (fun ps x => (bandsOfL x.2.2).foldl (Acre.joinB x.1.1 x.1.2) ps) ps).length ≤ ps.length + 12 * l.length := by
    intro l
    induction l with
    | nil => intro ps _; simp
    | cons a r ih =>
      intro ps h
      have h1 := ih ((bandsOfL a.2.2).foldl (Acre.joinB a.1.1 a.1.2) ps) (fun x hx => h x (by simp [hx]))
      have h2 := foldB_len a.1.1 a.1.2 (bandsOfL a.2.2) ps
      have h3 := bandsOfL_half a.2.2
      have h4 := h a (by simp)
      simp only [List.foldl_cons, List.length_cons]
      omega
  have h1 := this xs [] h
  unfold gps
  simpa using h1
theorem bandsG_mem {α : Type} : ∀ (l : List (Bool × α)) (i : Bool) (lo : α) (b : α × α), b ∈ Slab.bandsG i lo l → ((i = true ∧ b.1 = lo) ∨ b.1 ∈ l.map (·.2)) ∧ b.2 ∈ l.map (·.2)
  | [], _, _, b, h => by simp [Slab.bandsG] at h
  | (fl, e) :: t, i, lo, b, h => by
    have q1 := bandsG_mem t true e b
    have q2 := bandsG_mem t false lo b
    have q3 := bandsG_mem t fl lo b
    unfold Slab.bandsG at h
    cases i <;> cases fl <;> simp at h q1 q2 q3 ⊢
    all_goals grind
theorem bandsOfL_mem {E : List Acre.Ed} {L : List (Acre.Ed × Bool × Bool)} {b : Acre.Ed × Acre.Ed} (hL : ∀ l ∈ L, l.1 ∈ E) (hb : b ∈ bandsOfL L) : b.1 ∈ E ∧ b.2 ∈ E := by
  unfold bandsOfL at hb
  obtain ⟨h1, h2⟩ := bandsG_mem _ _ _ _ hb
  have hm : ∀ e, e ∈ (L.map fun l => (l.2.2, l.1)).map (·.2) → e ∈ E := by
    intro e he
    rw [List.map_map] at he
    obtain ⟨l, hl, rfl⟩ := List.mem_map.1 he
    exact hL l hl
  rcases h1 with ⟨h, _⟩ | h
  · cases h
  · exact ⟨hm _ h, hm _ h2⟩
theorem JnI.keepO {w W W' : World} {B : Nat} {ps : List Acre.Pc} (hB : w.heap.size ≤ B) (h : JnI w W ps) (hk : KeepO B W W') : JnI w W' ps := by
  obtain ⟨pv, h1, h2⟩ := h.row
  obtain ⟨D, hD⟩ := h.mv
  refine ⟨⟨pv, hk.oth.same _ _ h1 (by simp [tagC]) (by simp [tagC]), ?_⟩, hk.oth.same _ _ h.last (by simp [tagC]) (by simp [tagC]), ⟨D, hD.same ?_⟩, h.bel.trans (hk.bel.mono hB)⟩
  · refine ⟨h2.1, ?_⟩
    rcases h2.2 with hn | ⟨g, cap, cur, rfl, hb, hgg, rest⟩
    · exact .inl hn
    · exact .inr ⟨g, cap, cur, rfl, hb, hk.oth.same _ _ hgg (by simp [tagC]) (by simp [tagC]), rest⟩
  · obtain ⟨es, clock, hb, _⟩ := hD.own
    rw [hb]
    exact hk.oth.same _ _ hb (by simp [tagC]) (by simp [tagC])
structure GRest (w W wr : World) (B0 Bx : Nat) (ob : Array Value) (bv : Value) (bs : List (Acre.Ed × Acre.Ed)) : Prop where
  last : Boxed wr (w.heap.size + 1 + 1) 99 (.map (some (w.heap.size + 1)))
  bel : Below w.heap.size w wr
  kf : KeepsFrom B0 W wr
  ki : KeepI W wr
  bx : wr.heap[Bx]? = some (.cells ob 102 (0, 0))
  rb : wr.ownsRow W.heap.size 106 8 bv bs.length (flatB bs)
theorem GRest.step {w W wr V : World} {B0 Bx : Nat} {ob : Array Value} {bv : Value} {bs : List (Acre.Ed × Acre.Ed)} {row : Option Nat} {T : Option TypeId} (h : GRest w W wr B0 Bx ob bv bs) (hg : wr.grownBy V row) (ht : RowTag wr row T) (h1 : T ≠ some 99) (h2 : T ≠ some 102) (h3 : T ≠ some 106) (hlow : ∀ r, row = some r → w.heap.size ≤ r) (hk : T = none → ∀ r, row = some r → r < B0) (hT : T = none ∨ T = some 34 ∨ T = some 44) : GRest w W V B0 Bx ob bv bs := by
  refine ⟨block_tag hg ht h.last (fun e => h1 e.symm), h.bel.grown hg h.bel.size hlow, h.kf.trans ⟨hg.size, fun k o hB hk' hc => ?_⟩, h.ki.trans ⟨hg.size, fun k o hk' a b c => block_tag hg ht hk' (fun e => by rcases hT with q | q | q <;> rw [q] at e <;> first | exact a e | exact b e | exact c e)⟩, block_tag hg ht h.bx (fun e => h2 e.symm), row_tag hg ht h.rb (fun e => h3 e.symm)⟩
  refine (hg.block k (Array.getElem?_eq_some_iff.1 hk').1 (fun e => ?_)).trans hk'
  obtain ⟨o', a1, a2⟩ := ht k e.symm
  rw [hk'] at a1
  cases a1
  cases o with
  | cells => cases hc
  | _ => have := hk a2.symm k e.symm; omega
theorem GRest.later {w W wr V : World} {B0 Bx : Nat} {ob : Array Value} {bv : Value} {bs : List (Acre.Ed × Acre.Ed)} (h : GRest w W wr B0 Bx ob bv bs) (hb : Below wr.heap.size wr V) : GRest w W V B0 Bx ob bv bs :=
  ⟨Boxed.later h.last hb, below_call hb h.bel, h.kf.trans (keepsFrom_below hb), h.ki.trans (KeepI.of_below hb), (hb.block Bx (Array.getElem?_eq_some_iff.1 h.bx).1).trans h.bx, row_call h.rb hb⟩
structure GF (w W wr : World) (B0 Bx : Nat) (ob : Array Value) (bv : Value) (bs : List (Acre.Ed × Acre.Ed)) (qs : List Acre.Pc) : Prop where
  jn : JnI w wr qs
  re : GRest w W wr B0 Bx ob bv bs
theorem GF.later {w W wr V : World} {B0 Bx : Nat} {ob : Array Value} {bv : Value} {bs : List (Acre.Ed × Acre.Ed)} {qs : List Acre.Pc} (h : GF w W wr B0 Bx ob bv bs qs) (hb : Below wr.heap.size wr V) : GF w W V B0 Bx ob bv bs qs := ⟨h.jn.later hb, h.re.later hb⟩
theorem GF.set {w W wr : World} {B0 Bx : Nat} {ob : Array Value} {bv : Value} {bs : List (Acre.Ed × Acre.Ed)} {qs : List Acre.Pc} {gp cap : Nat} (h : GF w W wr B0 Bx ob bv bs qs) (hb : Boxed wr w.heap.size 34 (.slice (some ⟨gp, 0, none⟩) qs.length cap)) (hr : wr.ownsRow w.heap.size 44 12 (.slice (some ⟨gp, 0, none⟩) qs.length cap) qs.length (flatP qs)) (i : Nat) (hi : i < qs.length) (t : Acre.Fc) :
    GF w W ((wr.setCell ⟨gp, i * 12 + 1 + 1, none⟩ (.int .i64 t.1)).setCell ⟨gp, i * 12 + 1 + 1 + 1, none⟩ (.int .i64 t.2)) B0 Bx ob bv bs (qs.set i (((Acre.pcAt qs i).1.1, t), (Acre.pcAt qs i).2)) := by
  obtain ⟨r1, g1⟩ := hr.stored (i * 12 + 1 + 1) (.int .i64 t.1)
  obtain ⟨r2, g2⟩ := r1.stored (i * 12 + 1 + 1 + 1) (.int .i64 t.2)
  have t1 : RowTag wr (some gp) (some 44) := RowTag.of_row hr
  have t2 : RowTag (wr.setCell ⟨gp, i * 12 + 1 + 1, none⟩ (.int .i64 t.1)) (some gp) (some 44) := RowTag.of_row r1
  have lo : ∀ r, some gp = some r → w.heap.size ≤ r := fun r e => (hr.lt r e).1
  have R := (h.re.step g1 t1 (by decide) (by decide) (by decide) lo (by simp) (by simp)).step g2 t2 (by decide) (by decide) (by decide) lo (by simp) (by simp)
  obtain ⟨D, hD⟩ := h.jn.mv
  refine ⟨⟨⟨_, block_tag g2 t2 (block_tag g1 t1 hb (by simp [tagOf])) (by simp [tagOf]), ?_⟩, R.last, ⟨D, ?_⟩, R.bel⟩, R⟩
  · rw [List.length_set, ← flatP_set qs i hi]
    exact r2
  · rw [List.length_set, lastM_set qs i (((Acre.pcAt qs i).1.1, t), (Acre.pcAt qs i).2) rfl]
    exact mv_tag g2 t2 (mv_tag g1 t1 hD)
structure GH (w W wr : World) (B0 Bx : Nat) (ob : Array Value) (bv : Value) (bs : List (Acre.Ed × Acre.Ed)) (pv : Value) (qs : List Acre.Pc) (p : Acre.Pc) : Prop where
  box : Boxed wr w.heap.size 34 pv
  row : wr.ownsRow w.heap.size 44 12 pv qs.length (flatP qs)
  mv : ∃ D, MV wr 106 keB WfB (w.heap.size + 1) (qs.length + 1) D (lastM (qs ++ [p]))
  re : GRest w W wr B0 Bx ob bv bs
theorem GF.half {w W wr V : World} {B0 Bx : Nat} {ob : Array Value} {bv pv : Value} {bs : List (Acre.Ed × Acre.Ed)} {qs : List Acre.Pc} {f t : Acre.Fc} {b : Acre.Ed × Acre.Ed} {D : DataW Value} (h : GF w W wr B0 Bx ob bv bs qs) (hB0 : w.heap.size + 3 ≤ B0) (hb : Boxed wr w.heap.size 34 pv) (hr : wr.ownsRow w.heap.size 44 12 pv qs.length (flatP qs)) (hg : wr.grownBy V (some (w.heap.size + 1))) (hm : MV V 106 keB WfB (w.heap.size + 1) (qs.length + 1) D (upd (lastM qs) b (.int .i64 qs.length))) : GH w W V B0 Bx ob bv bs pv qs ((f, t), b) := by
  obtain ⟨D0, hD⟩ := h.jn.mv
  have t1 : RowTag wr (some (w.heap.size + 1)) none := by
    intro r e
    cases e
    obtain ⟨es, clock, hb, _⟩ := hD.own
    exact ⟨_, hb, rfl⟩
  refine ⟨block_tag hg t1 hb (by simp [tagOf]), row_tag hg t1 hr (by simp), ⟨D, ?_⟩, h.re.step hg t1 (by simp) (by simp) (by simp) (fun r e => by cases e; omega) (fun _ r e => by cases e; omega) (by simp)⟩
  rw [← lastM_push]
  exact hm
theorem GH.push {w W wr w3 : World} {B0 Bx : Nat} {ob : Array Value} {bv pv v' : Value} {bs : List (Acre.Ed × Acre.Ed)} {qs : List Acre.Pc} {p : Acre.Pc} {tmp : Obj} (h : GH w W wr B0 Bx ob bv bs pv qs p) (hg : (wr.alloc tmp).grownBy w3 pv.ownBlock) (hr : w3.ownsRow w.heap.size 44 12 v' (qs.length + 1) (flatP qs ++ pcL p)) :
    Boxed w3 w.heap.size 34 pv ∧ GF w W (w3.setCell ⟨w.heap.size, 0, none⟩ v') B0 Bx ob bv bs (qs ++ [p]) := by
  have b1 := below1 wr tmp
  have t1 : RowTag (wr.alloc tmp) pv.ownBlock (some 44) := RowTag.of_row (h.row.alloc tmp)
  have hb3 : Boxed w3 w.heap.size 34 pv := block_tag hg t1 (Boxed.later h.box b1) (by simp [tagOf])
  have g2 := grownBy_setCell' w3 w.heap.size v'
  have t2 : RowTag w3 (some w.heap.size) (some 34) := fun r e => by cases e; exact ⟨_, hb3, rfl⟩
  obtain ⟨D, hD⟩ := h.mv
  have R := ((h.re.later b1).step hg t1 (by decide) (by decide) (by decide) (fun r e => (h.row.lt r e).1) (by simp) (by simp)).step g2 t2 (by decide) (by decide) (by decide) (fun r e => by cases e; omega) (by simp) (by simp)
  refine ⟨hb3, ⟨⟨_, hb3.set v', ?_⟩, R.last, ⟨D, ?_⟩, R.bel⟩, R⟩
  · have e : flatP (qs ++ [p]) = flatP qs ++ pcL p := by simp [flatP]
    rw [e, List.length_append]
    exact row_tag g2 t2 hr (by decide)
  · rw [List.length_append]
    exact mv_tag g2 t2 (mv_tag hg t1 (hD.later b1))
set_option maxRecDepth 100000 in
set_option maxHeartbeats 4000000 in
theorem joinedG_in (g : Nat) (lb : Array Value) (eg : ∀ args w, (callFunc g args).run Tryz.prog w = .ok (.enter g args) w) (E : List Acre.Ed) (S Sp : List Gs → Prop) (hSp : ∀ pre, Sp pre → ∀ x ∈ pre, x.2.2.length ≤ 24) (N : Nat) (hN : N ≤ 100000) (w : World)
    (hsm : ∀ e ∈ E, SmE e)
    (hseq : SeqT Fence.wide 18 Tryz.prog g lb (fun x : Gs => #[gsV x]) KeepI (fun x W => GlV W E x) S Sp N w) :
    CallsIn Fence.wide 19 Tryz.prog 20 #[.func (.func g) #[] lb] w fun e w' => ∃ v xs, e = .returned v ∧ S xs ∧ w'.ownsRow w.heap.size 44 12 v (gps xs).length (flatP (gps xs)) ∧ Below w.heap.size w w' := by
  have hmm := @run_makeMap Tryz.prog
  obtain ⟨i0, hi, hz0, hz1, hz2⟩ := info_parts info39
  refine callsIn_of_wp_marks Tryz.func20 rfl trivial ?_ rfl
  simp only [Tryz.ntmps20, List.size_toArray, List.length_cons, List.length_nil, Nat.reduceAdd, Nat.reduceSub, Array.replicate_succ, Array.replicate_zero, List.push_toArray, List.append_toArray, List.nil_append, List.cons_append]
  gi_wp2
  have b0 := ((Boxed.new w 34 (.slice none 0 0)).alloc (.map #[] 0)).alloc (.cells #[.map (some (w.heap.size + 1))] 99)
  have b2 := Boxed.new ((w.alloc (.cells #[.slice none 0 0] 34)).alloc (.map #[] 0)) 99 (.map (some (w.heap.size + 1)))
  have m0 := (MV.new (kt := 106) (key := keB) (ok := WfB) (w.alloc (.cells #[.slice none 0 0] 34))).later (below1 _ (.cells #[.map (some (w.heap.size + 1))] 99))
  simp only [World.size_alloc] at b2 m0
  have hB := below3 w (.cells #[.slice none 0 0] 34) (.map #[] 0) (.cells #[.map (some (w.heap.size + 1))] 99)
  have hsz : (((w.alloc (.cells #[.slice none 0 0] 34)).alloc (.map #[] 0)).alloc (.cells #[.map (some (w.heap.size + 1))] 99)).heap.size = w.heap.size + 3 := by simp
  generalize ((w.alloc (.cells #[.slice none 0 0] 34)).alloc (.map #[] 0)).alloc (.cells #[.map (some (w.heap.size + 1))] 99) = W0 at *
  have hI0 : JnI w W0 [] := ⟨⟨_, b0, World.ownsRow_nil _ _ _ _⟩, b2, ⟨_, m0⟩, hB⟩
  refine wpIn_rangeFunc_T rfl (by omega) (gf := g) (lb := lb) rfl trivial eg hseq (fun h1 h2 => KeepI.trans h1 h2) (fun W l o o' _ hl ho _ => KeepI.put o' hl ho) hB (fun _ => rfl)
    (fun pre W => JnI w W (gps pre)) (fun _ _ => False)
    (fun s A B row hs hg hr => hs.own (by omega) hg hr) (fun _ _ _ _ hs _ _ => hs) (fun B hB s A C hs hk => hs.keepO (by omega) hk) (fun _ _ _ _ _ hs _ => hs)
    (fun x W r o' hl h => h.turn _ r o' hl) hI0
    (fun x a' W => ∃ Bx, w.heap.size + 3 ≤ Bx ∧ W.heap[Bx]? = some (.cells #[.int .i64 x.1.1.1, .int .i64 x.1.1.2, .int .i64 x.1.2.1, .int .i64 x.1.2.2, x.2.1, .map none] 102 (0, 0)) ∧ a' = { tmps := #[.func (.func g) #[] lb, undef, .slice none 0 0, .pointer (some ⟨w.heap.size, 0, none⟩), .pointer (some ⟨w.heap.size + 1 + 1, 0, none⟩), .pointer (some ⟨Bx, 0, none⟩), undef, undef, undef, undef, .map (some (w.heap.size + 1)), .func (.func g) #[] lb, gsV x, undef, undef, undef, undef, undef, undef, undef, undef, undef, undef, undef, undef, undef, undef, undef, undef, undef, undef, undef, undef, undef, undef, undef, undef, undef, undef, undef, undef, undef, undef, undef, undef, undef, undef, undef, undef, undef, undef, undef, undef, undef, undef, undef, undef, undef, undef, undef, undef], defers := [] })
    (fun x a' _ X Y row hs hg hr => by
      obtain ⟨Bx, h1, h2, h3⟩ := hs
      refine ⟨Bx, h1, (hg.block Bx (Array.getElem?_eq_some_iff.1 h2).1 (fun e' => ?_)).trans h2, h3⟩
      obtain ⟨_, o, ho, hc⟩ := hr Bx e'.symm
      rw [h2] at ho; cases ho; cases hc)
    ?assign ?body ?done ?stop
  case assign =>
    rintro l pre ⟨⟨⟨f1, f2⟩, ⟨t1, t2⟩⟩, ⟨lv, L⟩⟩ W K hi hat hK
    dsimp only at hat hK
    have hrw := hat.row
    dsimp only at hrw
    obtain ⟨la, lg, lcap, rfl, _, _⟩ := row_form hrw
    unfold gsV at hK ⊢
    gi_wp2
    exact hK _ _ ((KeepsOthers.alloc _ _).from _) (KeepI.of_below (below1 _ _)) (hi.later (below1 _ _)) (hat.later (below1 _ _)) ⟨W.heap.size, by have := hi.last.lt; omega, World.alloc_heap_new W _, rfl⟩
  case body =>
    rintro l pre ⟨⟨⟨f1, f2⟩, ⟨t1, t2⟩⟩, ⟨lv, L⟩⟩ a' W hl hi hat ⟨Bx, hBx, bX, rfl⟩ hsp hlen
    dsimp only at hat bX
    unfold gsV
    have hx : Box W Bx [.int .i64 f1, .int .i64 f2, .int .i64 t1, .int .i64 t2, lv, .map none] := box_of_heap bX
    have hrw := hat.row
    dsimp only at hrw
    obtain ⟨la, lg, lcap, rfl, _, _⟩ := row_form hrw
    have s0 := hx.c 0 _ rfl
    have s1 := hx.c 1 _ rfl
    have s2 := hx.c 2 _ rfl
    have s3 := hx.c 3 _ rfl
    have s4 := hx.c 4 _ rfl
    have s5 := hx.c 5 _ rfl
    have hlL := hat.len
    have hed := hat.ed
    dsimp only at hlL hed
    have HC := hide (fun (V : World) (hb : Below W.heap.size W V) => bands_any L (.slice la L.length lcap) (f1, f2) (t1, t2) 0 none V (row_call hat.row hb) hlL)
    gi_wp2_with (refine ⟨trivial, ?_⟩; gi_at_call 37; refine (CallsIn.inRound l (callsIn_wide.2 (HC.out W (Below.refl _ _)))).mono ?_; rintro e w1 ⟨u, rfl, hrowB, hb1⟩; obtain ⟨ua, ub, ucap, rfl, hua, _⟩ := row_form hrowB)
    obtain ⟨bs, hbs⟩ : ∃ bs, bandsOfL L = bs := ⟨_, rfl⟩
    have hbl : (bandsOfL L).length ≤ 24 := Nat.le_trans (bandsOfL_len L) hlL
    have hbm : ∀ b ∈ bandsOfL L, SmE b.1 ∧ SmE b.2 := fun b hb => ⟨hsm _ (bandsOfL_mem hed hb).1, hsm _ (bandsOfL_mem hed hb).2⟩
    have hps := gps_snoc pre (((f1, f2), (t1, t2)), (.slice la L.length lcap, L))
    dsimp only at hps
    have hpl := gps_len pre (fun y hy => hSp _ hsp y (by simp [hy]))
    rw [hbs] at hrowB hua hbl hbm hps ⊢
    obtain ⟨ps, hpp⟩ : ∃ ps, gps pre = ps := ⟨_, rfl⟩
    rw [hpp] at hi hps hpl
    have Hps := hide hps
    have H0 : Hid (GF w W w1 W0.heap.size Bx #[.int .i64 f1, .int .i64 f2, .int .i64 t1, .int .i64 t2, .slice la L.length lcap, .map none] (.slice ua bs.length ucap) bs ((bs.take 0).foldl (Acre.joinB (f1, f2) (t1, t2)) ps)) :=
      ⟨hi.later hb1, ⟨(hi.later hb1).last, (hi.later hb1).bel, keepsFrom_below hb1, KeepI.of_below hb1, (hb1.block Bx (hx.lt (by simp))).trans bX, hrowB⟩⟩
    have hBxW := hx.lt (by simp)
    have hWs := hi.last.lt
    clear hps hpp hbs hi hat hb1 hed hsp hrowB hx bX HC s0 s1 s2 s3 s4 s5 hlL b0 b2 m0 hI0 hseq
    gi_wp2
    gi_loopw [16] (fun i wr => ∃ j : Nat, i = .int .i64 j ∧ j ≤ bs.length ∧ Hid (GF w W wr W0.heap.size Bx #[.int .i64 f1, .int .i64 f2, .int .i64 t1, .int .i64 t2, .slice la L.length lcap, .map none] (.slice ua bs.length ucap) bs ((bs.take j).foldl (Acre.joinB (f1, f2) (t1, t2)) ps))) (fun i _ => bs.length - (intOf i).toNat)
    case atStart => exact ⟨0, rfl, Nat.zero_le _, H0⟩
    case round =>
      clear H0
      obtain ⟨j, rfl, hj, hr⟩ := hrel
      have hF := hr.out
      by_cases hlt : j < bs.length
      · obtain rfl := hua (by omega)
        obtain ⟨⟨y0, y1, y2, y3⟩, ⟨y4, y5, y6, y7⟩⟩ := rowB_cells hF.re.rb j hlt
        have hbj := hbm bs[j] (List.getElem_mem hlt)
        have hfold : (bs.take (j + 1)).foldl (Acre.joinB (f1, f2) (t1, t2)) ps = Acre.joinB (f1, f2) (t1, t2) ((bs.take j).foldl (Acre.joinB (f1, f2) (t1, t2)) ps) bs[j] := by
          rw [List.take_succ_eq_append_getElem hlt, List.foldl_append]; rfl
        have hql := foldB_len (f1, f2) (t1, t2) (bs.take j) ps
        rw [List.length_take] at hql
        obtain ⟨qs, hqs⟩ : ∃ qs, (bs.take j).foldl (Acre.joinB (f1, f2) (t1, t2)) ps = qs := ⟨_, rfl⟩
        rw [hqs] at hF hfold hql
        obtain ⟨⟨⟨⟨a0, a1⟩, ⟨a2, a3⟩⟩, ⟨⟨c0, c1⟩, ⟨c2, c3⟩⟩⟩, hb⟩ : ∃ b, bs[j] = b := ⟨_, rfl⟩
        rw [hb] at y0 y1 y2 y3 y4 y5 y6 y7 hbj hfold
        dsimp only at y0 y1 y2 y3 y4 y5 y6 y7
        have hqlen : qs.length ≤ 3000000 := by omega
        have Hfold := hide hfold
        have HWB := hide (WfB.mk (b := (((a0, a1), (a2, a3)), ((c0, c1), (c2, c3)))) hbj.1.wf hbj.2.wf)
        have q1 := below1 wr (.cells #[.int .i64 a0, .int .i64 a1, .int .i64 a2, .int .i64 a3, .int .i64 c0, .int .i64 c1, .int .i64 c2, .int .i64 c3] 106)
        have bB := World.alloc_heap_new wr (.cells #[.int .i64 a0, .int .i64 a1, .int .i64 a2, .int .i64 a3, .int .i64 c0, .int .i64 c1, .int .i64 c2, .int .i64 c3] 106)
        have HF2 := hide (hF.later q1)
        have hRw : w.heap.size + 1 + 1 < wr.heap.size := by have := hF.re.ki.size; omega
        clear hqs hfold hbj hb q1 hr hF hql
        gi_upto_region 8 with fail
        clear y0 y1 y2 y3 y4 y5 y6 y7
        generalize hRs : wr.heap.size = R at *
        generalize wr.alloc (.cells #[.int .i64 a0, .int .i64 a1, .int .i64 a2, .int .i64 a3, .int .i64 c0, .int .i64 c1, .int .i64 c2, .int .i64 c3] 106) = WP at *
        have hF := HF2.out
        have bb := box_of_heap bB
        have z0 := bb.c 0 _ rfl
        have z1 := bb.c 1 _ rfl
        have z2 := bb.c 2 _ rfl
        have z3 := bb.c 3 _ rfl
        have z4 := bb.c 4 _ rfl
        have z5 := bb.c 5 _ rfl
        have z6 := bb.c 6 _ rfl
        have z7 := bb.c 7 _ rfl
        have bx := box_of_heap hF.re.bx
        have s0 := bx.c 0 _ rfl
        have s1 := bx.c 1 _ rfl
        have s2 := bx.c 2 _ rfl
        have s3 := bx.c 3 _ rfl
        have cl := hF.re.last.cell
        obtain ⟨D, hD⟩ := hF.jn.mv
        have hlk := hD.lookupOk ktB Tryz.underlying99 zero3 HWB.out
        obtain ⟨pv, hbox, hprow⟩ := hF.jn.row
        have cp := hbox.cell
        obtain ⟨pa, pg, pcap, rfl, hpa, _⟩ := row_form hprow
        unfold bdV at hlk
        dsimp only at hlk
        rcases hli : Acre.lastI (((a0, a1), (a2, a3)), ((c0, c1), (c2, c3))) qs with _ | i
        · have hj1 : Hid (Acre.joinB (f1, f2) (t1, t2) qs (((a0, a1), (a2, a3)), ((c0, c1), (c2, c3))) = qs ++ [(((f1, f2), (t1, t2)), (((a0, a1), (a2, a3)), ((c0, c1), (c2, c3))))]) := hide (by
            unfold Acre.joinB; rw [hli])
          simp only [lastM, hli, Option.map_none, Option.getD_none, Option.isSome_none] at hlk
          clear hli
          gi_upto_region 9 with fail
          clear hlk
          refine wpIn_weak (reg9_none l _ WP _ _ _ _ _ _ _ _ _ _ _ _ _ _ _ _ _ _ _ _ _ _ _ _ _ _ _ _ _ _ _ _ _ _ _ _ _ _ _ _ _ _ _ _ _ _ _ _ _ _ _ _ _ _ _ _ _ _ _ _) ?_
          rintro e a W' ⟨rfl, rfl, v26, v27, v28, v29, v30, v31, v32, v33, v34, v35, rfl⟩
          clear z0 z1 z2 z3 z4 z5 z6 z7 s0 s1 s2 s3 cl cp bb bx hF hD hprow hbox
          have HF3 := hide (HF2.out.later ((Below.refl _ WP).drew))
          have bB3 : Hid (WP.drew.heap[R]? = some (.cells #[.int .i64 a0, .int .i64 a1, .int .i64 a2, .int .i64 a3, .int .i64 c0, .int .i64 c1, .int .i64 c2, .int .i64 c3] 106 (0, 0))) := hide bB
          clear HF2 bB
          generalize WP.drew = WD at *
          have hF := HF3.out
          obtain ⟨D, hD⟩ := hF.jn.mv
          have cl := hF.re.last.cell
          obtain ⟨pv, hbox, hprow⟩ := hF.jn.row
          have cp := hbox.cell
          obtain ⟨pa, pg, pcap, rfl, hpa, _⟩ := row_form hprow
          have bb := box_of_heap bB3.out
          have z0 := bb.c 0 _ rfl
          have z1 := bb.c 1 _ rfl
          have z2 := bb.c 2 _ rfl
          have z3 := bb.c 3 _ rfl
          have z4 := bb.c 4 _ rfl
          have z5 := bb.c 5 _ rfl
          have z6 := bb.c 6 _ rfl
          have z7 := bb.c 7 _ rfl
          have bx := box_of_heap hF.re.bx
          have s0 := bx.c 0 _ rfl
          have s1 := bx.c 1 _ rfl
          have s2 := bx.c 2 _ rfl
          have s3 := bx.c 3 _ rfl
          obtain ⟨w2, hup, hm2, hg2⟩ := hD.update ktB Tryz.underlying99 (by unfold maxLen; omega) HWB.out (.int .i64 qs.length)
          unfold bdV at hup
          dsimp only at hup
          have HH := hide (hF.half (f := (f1, f2)) (t := (t1, t2)) (by omega) hbox hprow hg2 hm2)
          have bB2 : Hid (w2.heap[R]? = some (.cells #[.int .i64 a0, .int .i64 a1, .int .i64 a2, .int .i64 a3, .int .i64 c0, .int .i64 c1, .int .i64 c2, .int .i64 c3] 106 (0, 0))) := hide ((hg2.block R (Array.getElem?_eq_some_iff.1 bB3.out).1 (fun e => by cases e; omega)).trans bB3.out)
          clear hg2 hm2 hF hD HF3 hprow hbox bB3 hpa
          gi_upto_region 12 with fail
          clear z0 z1 z2 z3 z4 z5 z6 z7 s0 s1 s2 s3 cl cp hup bb bx
          have hH := HH.out
          have bb := box_of_heap bB2.out
          have z0 := bb.c 0 _ rfl
          have z1 := bb.c 1 _ rfl
          have z2 := bb.c 2 _ rfl
          have z3 := bb.c 3 _ rfl
          have z4 := bb.c 4 _ rfl
          have z5 := bb.c 5 _ rfl
          have z6 := bb.c 6 _ rfl
          have z7 := bb.c 7 _ rfl
          have bx := box_of_heap hH.re.bx
          have s0 := bx.c 0 _ rfl
          have s1 := bx.c 1 _ rfl
          have s2 := bx.c 2 _ rfl
          have s3 := bx.c 3 _ rfl
          have cp := hH.box.cell
          have hs1 := hH.re.bel.size
          gi_upto_region 13 with (first
            | (gi_at_builtin; refine wpListIn_append_own _ rfl _ _ 34 rfl w.heap.size 44 i0 _ 12 96 Tryz.underlying34 hi hz0 hz1 hz2 rfl (by decide) _ _ _ rfl (hH.row.alloc _) ⟨w2.heap.size, 0, none⟩ 1 1 (pcL (((f1, f2), (t1, t2)), (((a0, a1), (a2, a3)), ((c0, c1), (c2, c3))))) rfl rfl (World.news_of_block (cs := #[.int .i64 f1, .int .i64 f2, .int .i64 t1, .int .i64 t2, .int .i64 a0, .int .i64 a1, .int .i64 a2, .int .i64 a3, .int .i64 c0, .int .i64 c1, .int .i64 c2, .int .i64 c3]) (t := 44) (fr := (0, 0)) (heap_alloc_new w2 _)) (by simp [pcL, frL, edL, Value.oneCell']) (by unfold maxLen; omega) (by omega) (by simp; omega) ?_; intro v' w3 hown' hgrow _; obtain ⟨g', cap', rfl⟩ := row_succ hown'; have hJP := hH.push hgrow hown'; have hc1 := hJP.1.cell; have hf1 := hJP.1.frozen; have HJ := hide hJP.2; clear hJP hown' hgrow)
            | gi_in)
          clear z0 z1 z2 z3 z4 z5 z6 z7 s0 s1 s2 s3 cp bb bx hH HH hc1 hf1 bB2
          have HN := hide (Hfold.out.trans (hj1.out))
          gi_wp2
          go_roundw
          case rel => exact ⟨j + 1, by go_num, by omega, HN.out ▸ HJ⟩
          case measure => simp [intOf]; omega
        · obtain ⟨hil, hib⟩ := Acre.lastI_spec hli
          have hjt : Hid ((Acre.pcAt qs i).1.2 = (f1, f2) → Acre.joinB (f1, f2) (t1, t2) qs (((a0, a1), (a2, a3)), ((c0, c1), (c2, c3))) = qs.set i (((Acre.pcAt qs i).1.1, (t1, t2)), (Acre.pcAt qs i).2)) := hide (fun h => by
            unfold Acre.joinB; rw [hli]; simp only [if_pos h, hib])
          have hjf : Hid (¬ (Acre.pcAt qs i).1.2 = (f1, f2) → Acre.joinB (f1, f2) (t1, t2) qs (((a0, a1), (a2, a3)), ((c0, c1), (c2, c3))) = qs ++ [(((f1, f2), (t1, t2)), (((a0, a1), (a2, a3)), ((c0, c1), (c2, c3))))]) := hide (fun h => by
            unfold Acre.joinB; rw [hli]; simp only [if_neg h])
          simp only [lastM, hli, Option.map_some, Option.getD_some, Option.isSome_some] at hlk
          obtain rfl := hpa (by omega)
          obtain ⟨p2, p3⟩ := rowP_cells hprow i hil
          obtain ⟨⟨x1, x2⟩, hTo⟩ : ∃ To, (Acre.pcAt qs i).1.2 = To := ⟨_, rfl⟩
          rw [hTo] at hjt hjf p2 p3
          dsimp only at p2 p3
          clear hli hib hTo
          gi_upto_region 9 with fail
          clear hlk
          refine wpIn_weak (reg9_some l _ WP _ _ i _ _ _ _ _ _ _ hil hqlen cp s0 s1 p2 p3 _ _ _ _ _ _ _ _ _ _ _ _ _ _ _ _ _ _ _ _ _ _ _ _ _ _ _ _ _ _ _ _ _ _ _ _ _ _ _ _ _ _ _ _ _ _ _ _ _ _ _ _ _ _ _ _ _) ?_
          rintro e a W' ⟨rfl, rfl, v26, v27, v28, v29, v30, v31, v32, v33, v34, v35, rfl⟩
          clear p2 p3
          clear z0 z1 z2 z3 z4 z5 z6 z7 s0 s1 s2 s3 cl cp bb bx hF hD hprow hbox
          have HF3 := hide (HF2.out.later ((Below.refl _ WP).drew))
          have bB3 : Hid (WP.drew.heap[R]? = some (.cells #[.int .i64 a0, .int .i64 a1, .int .i64 a2, .int .i64 a3, .int .i64 c0, .int .i64 c1, .int .i64 c2, .int .i64 c3] 106 (0, 0))) := hide bB
          clear HF2 bB
          generalize WP.drew = WD at *
          have hF := HF3.out
          obtain ⟨D, hD⟩ := hF.jn.mv
          have cl := hF.re.last.cell
          by_cases hc : x1 = f1 ∧ x2 = f2
          · have hc1 : (x1 == f1 && x2 == f2) = true := by simp [hc]
            rw [hc1]
            obtain ⟨pv, hbox, hprow⟩ := hF.jn.row
            have cp := hbox.cell
            obtain ⟨pa, pg, pcap, rfl, hpa, _⟩ := row_form hprow
            obtain rfl := hpa (by omega)
            have bb := box_of_heap bB3.out
            have z0 := bb.c 0 _ rfl
            have z1 := bb.c 1 _ rfl
            have z2 := bb.c 2 _ rfl
            have z3 := bb.c 3 _ rfl
            have z4 := bb.c 4 _ rfl
            have z5 := bb.c 5 _ rfl
            have z6 := bb.c 6 _ rfl
            have z7 := bb.c 7 _ rfl
            have bx := box_of_heap hF.re.bx
            have s0 := bx.c 0 _ rfl
            have s1 := bx.c 1 _ rfl
            have s2 := bx.c 2 _ rfl
            have s3 := bx.c 3 _ rfl
            obtain ⟨p2, p3⟩ := rowP_cells hprow i hil
            have fz2 := hprow.frozenAt (i * 12 + 1 + 1)
            have fz3 := hprow.frozenAt (i * 12 + 1 + 1 + 1)
            have HS := hide (hF.set hbox hprow i hil (t1, t2))
            have HN := hide (Hfold.out.trans (hjt.out (by rw [hc.1, hc.2])))
            clear hF hD HF3 hprow hbox bB3 hpa hc hc1 hjt hjf
            gi_wp2
            go_roundw
            case rel => exact ⟨j + 1, by go_num, by omega, HN.out ▸ HS⟩
            case measure => simp [intOf]; omega
          · have hc1 : (x1 == f1 && x2 == f2) = false := by simpa using hc
            rw [hc1]
            have HJ1 := hide (hjf.out (fun e => hc (by simpa using e)))
            clear hc hc1 hjt hjf
            obtain ⟨pv, hbox, hprow⟩ := hF.jn.row
            have cp := hbox.cell
            obtain ⟨pa, pg, pcap, rfl, hpa, _⟩ := row_form hprow
            have bb := box_of_heap bB3.out
            have z0 := bb.c 0 _ rfl
            have z1 := bb.c 1 _ rfl
            have z2 := bb.c 2 _ rfl
            have z3 := bb.c 3 _ rfl
            have z4 := bb.c 4 _ rfl
            have z5 := bb.c 5 _ rfl
            have z6 := bb.c 6 _ rfl
            have z7 := bb.c 7 _ rfl
            have bx := box_of_heap hF.re.bx
            have s0 := bx.c 0 _ rfl
            have s1 := bx.c 1 _ rfl
            have s2 := bx.c 2 _ rfl
            have s3 := bx.c 3 _ rfl
            obtain ⟨w2, hup, hm2, hg2⟩ := hD.update ktB Tryz.underlying99 (by unfold maxLen; omega) HWB.out (.int .i64 qs.length)
            unfold bdV at hup
            dsimp only at hup
            have HH := hide (hF.half (f := (f1, f2)) (t := (t1, t2)) (by omega) hbox hprow hg2 hm2)
            have bB2 : Hid (w2.heap[R]? = some (.cells #[.int .i64 a0, .int .i64 a1, .int .i64 a2, .int .i64 a3, .int .i64 c0, .int .i64 c1, .int .i64 c2, .int .i64 c3] 106 (0, 0))) := hide ((hg2.block R (Array.getElem?_eq_some_iff.1 bB3.out).1 (fun e => by cases e; omega)).trans bB3.out)
            clear hg2 hm2 hF hD HF3 hprow hbox bB3 hpa
            gi_upto_region 12 with fail
            clear z0 z1 z2 z3 z4 z5 z6 z7 s0 s1 s2 s3 cl cp hup bb bx
            have hH := HH.out
            have bb := box_of_heap bB2.out
            have z0 := bb.c 0 _ rfl
            have z1 := bb.c 1 _ rfl
            have z2 := bb.c 2 _ rfl
            have z3 := bb.c 3 _ rfl
            have z4 := bb.c 4 _ rfl
            have z5 := bb.c 5 _ rfl
            have z6 := bb.c 6 _ rfl
            have z7 := bb.c 7 _ rfl
            have bx := box_of_heap hH.re.bx
            have s0 := bx.c 0 _ rfl
            have s1 := bx.c 1 _ rfl
            have s2 := bx.c 2 _ rfl
            have s3 := bx.c 3 _ rfl
            have cp := hH.box.cell
            have hs1 := hH.re.bel.size
            gi_upto_region 13 with (first
              | (gi_at_builtin; refine wpListIn_append_own _ rfl _ _ 34 rfl w.heap.size 44 i0 _ 12 96 Tryz.underlying34 hi hz0 hz1 hz2 rfl (by decide) _ _ _ rfl (hH.row.alloc _) ⟨w2.heap.size, 0, none⟩ 1 1 (pcL (((f1, f2), (t1, t2)), (((a0, a1), (a2, a3)), ((c0, c1), (c2, c3))))) rfl rfl (World.news_of_block (cs := #[.int .i64 f1, .int .i64 f2, .int .i64 t1, .int .i64 t2, .int .i64 a0, .int .i64 a1, .int .i64 a2, .int .i64 a3, .int .i64 c0, .int .i64 c1, .int .i64 c2, .int .i64 c3]) (t := 44) (fr := (0, 0)) (heap_alloc_new w2 _)) (by simp [pcL, frL, edL, Value.oneCell']) (by unfold maxLen; omega) (by omega) (by simp; omega) ?_; intro v' w3 hown' hgrow _; obtain ⟨g', cap', rfl⟩ := row_succ hown'; have hJP := hH.push hgrow hown'; have hc1 := hJP.1.cell; have hf1 := hJP.1.frozen; have HJ := hide hJP.2; clear hJP hown' hgrow)
              | gi_in)
            clear z0 z1 z2 z3 z4 z5 z6 z7 s0 s1 s2 s3 cp bb bx hH HH hc1 hf1 bB2
            have HN := hide (Hfold.out.trans (HJ1.out))
            gi_wp2
            go_roundw
            case rel => exact ⟨j + 1, by go_num, by omega, HN.out ▸ HJ⟩
            case measure => simp [intOf]; omega
      · obtain rfl : j = bs.length := by omega
        rw [List.take_of_length_le (Nat.le_refl _), ← Hps.out] at hF
        have HF := hide hF
        clear hF hr
        gi_wp2
        exact ⟨HF.out.re.kf, HF.out.re.ki, HF.out.jn⟩
  case done =>
    rintro D xs W hD hS hi hK
    obtain ⟨pv, b, hrow⟩ := hi.row
    have cv := b.cell
    gi_wp2
    refine ⟨by simp, .inl ⟨_, _, rfl, run_takeDeferred hK, ?_⟩⟩
    exact ⟨_, results_tmp rfl _ _ _, pv, xs, rfl, hS, ownsRow_putObj hrow _ hK rfl, hi.bel.trans (belowK_b (w := w) (Nat.le_refl _) W D _ _ (by omega) hK rfl rfl)⟩
  case stop =>
    rintro D pre W _ _ h _
    exact h.elim
end Go.Proofs.YtkjlkbgdkdcboaaGreatDoor
