import Derived.Test.YtkjlkbgdkdcboaaGreatCutsOf

set_option linter.unusedSimpArgs false
set_option linter.unusedVariables false

namespace Go.Proofs.YtkjlkbgdkdcboaaGreat
open Go.RowKit Go.Maps

/-- a map of rows, key by key; no two of them in one block -/
structure GV {κ α : Type} (w : World) (kt : TypeId) (key : κ → Lit) (ok : κ → Prop) (b n base : Nat) (et : TypeId) (size : Nat) (f : α → List Value) (D : DataW Value) (S : κ → Option Value) (G : κ → List α) : Prop where
  mv : MV w kt key ok b n D S
  row : ∀ x v, S x = some v → w.ownsRow base et size v (G x).length ((G x).flatMap f) ∧ G x ≠ []
  nil : ∀ x, S x = none → G x = []
  apart : ∀ x y vx vy, S x = some vx → S y = some vy → x ≠ y → vx.ownBlock ≠ vy.ownBlock
  low : b < base

section
variable {κ α : Type} {kt : TypeId} {kv : κ → Value} {key : κ → Lit} {ok : κ → Prop} {w : World} {t e et : TypeId} {b n base size : Nat} {f : α → List Value} {D : DataW Value} {S : κ → Option Value} {G : κ → List α}

/-- the row at a key, or nil -/
theorem GV.at' (h : GV w kt key ok b n base et size f D S G) (x : κ) : w.ownsRow base et size ((S x).getD (.slice none 0 0)) (G x).length ((G x).flatMap f) := by
  cases hs : S x with
  | none => rw [h.nil x hs]; exact World.ownsRow_nil _ _ _ _
  | some v => exact (h.row x v hs).1
theorem GV.same {w' : World} (h : GV w kt key ok b n base et size f D S G) (hb : ∀ k, k < w.heap.size → w'.heap[k]? = w.heap[k]?) (hg : w.grownBy w' none) : GV w' kt key ok b n base et size f D S G :=
  ⟨h.mv.same (hb b h.mv.lt), fun x v hx => ⟨(h.row x v hx).1.kept hg (by cases v.ownBlock <;> simp), (h.row x v hx).2⟩, h.nil, h.apart, h.low⟩
theorem GV.later {w' : World} (h : GV w kt key ok b n base et size f D S G) (hb : Below w.heap.size w w') : GV w' kt key ok b n base et size f D S G :=
  h.same (fun k hk => hb.block k hk) ⟨hb.os, hb.tape, hb.output, hb.size, fun i hi _ => hb.block i hi⟩

/-- m[k] = append(m[k], a) -/
theorem GV.push [DecidableEq κ] (h : GV w kt key ok b n base et size f D S G) (x : κ) (a : α) {w2 w3 w4 : World} {v' : Value} {D' : DataW Value} {n' : Nat} (hg2 : w.grownBy w2 (some b)) (hown' : w3.ownsRow base et size v' ((G x).length + 1) ((G x).flatMap f ++ f a))
    (hg3 : w2.grownBy w3 ((S x).getD (.slice none 0 0)).ownBlock) (hloc : v'.ownBlock = ((S x).getD (.slice none 0 0)).ownBlock ∨ ∃ g, v'.ownBlock = some g ∧ w.heap.size ≤ g) (hmv : MV w4 kt key ok b n' D' (upd S x v')) (hg4 : w3.grownBy w4 (some b)) :
    GV w4 kt key ok b n' base et size f D' (upd S x v') (fun y => if y = x then G x ++ [a] else G y) := by
  have hlo := h.low
  have nb : ∀ {W : World} {v : Value} {k : Nat} {xs : List Value}, W.ownsRow base et size v k xs → v.ownBlock ≠ some b := fun hr e => by have := (hr.lt b e).1; omega
  have hv' : ∀ y vy, y ≠ x → S y = some vy → v'.ownBlock ≠ vy.ownBlock := by
    intro y vy hy hs
    have hr := (h.row y vy hs)
    obtain ⟨g, cap, rfl⟩ : ∃ g cap, vy = .slice (some ⟨g, 0, none⟩) (G y).length cap := by
      rcases hr.1.2 with ⟨_, h0⟩ | ⟨g, cap, _, e, _⟩
      · exact absurd (List.length_eq_zero_iff.1 h0) hr.2
      · exact ⟨g, cap, e⟩
    rcases hloc with hl | ⟨g', hl, hge⟩
    · rw [hl]
      cases hsx : S x with
      | none => simp [Value.ownBlock]
      | some vx => exact h.apart x y vx _ hsx hs (fun e => hy e.symm)
    · rw [hl]
      intro e'
      have := (hr.1.lt g' e'.symm).2
      omega
  refine ⟨hmv, ?_, ?_, ?_, hlo⟩
  · intro y vy hy
    by_cases e : y = x
    · subst e
      simp only [upd, if_true, Option.some.injEq] at hy
      subst hy
      refine ⟨?_, by simp⟩
      simp only [if_true]
      rw [List.length_append, List.flatMap_append]
      simpa using hown'.kept hg4 (.inr (nb hown'))
    · simp only [upd, e, if_false] at hy
      obtain ⟨r1, r2⟩ := h.row y vy hy
      have r3 := r1.kept hg2 (.inr (nb r1))
      have hne : vy.ownBlock ≠ ((S x).getD (.slice none 0 0)).ownBlock ∨ vy.ownBlock = none := by
        cases hsx : S x with
        | none =>
          left
          rcases r1.2 with ⟨_, h0⟩ | ⟨g, cap, _, e', _⟩
          · exact absurd (List.length_eq_zero_iff.1 h0) r2
          · rw [e']; simp [Value.ownBlock]
        | some vx => exact .inl (fun e' => h.apart x y vx vy hsx hy (fun q => e q.symm) e'.symm)
      have r4 := r3.kept hg3 (hne.symm.imp id id)
      have r5 := r4.kept hg4 (.inr (nb r4))
      simp only [e, if_false]
      exact ⟨r5, r2⟩
  · intro y hy
    by_cases e : y = x
    · subst e; simp [upd] at hy
    · simp only [upd, e, if_false] at hy ⊢
      exact h.nil y hy
  · intro y z vy vz hy hz hne
    by_cases e : y = x
    · subst e
      have e2 : z ≠ y := fun q => hne q.symm
      simp only [upd, if_true, Option.some.injEq] at hy
      simp only [upd, e2, if_false] at hz
      subst hy
      exact hv' z vz e2 hz
    · simp only [upd, e, if_false] at hy
      by_cases e2 : z = x
      · subst e2
        simp only [upd, if_true, Option.some.injEq] at hz
        subst hz
        exact fun q => hv' y vy e hy q.symm
      · simp only [upd, e2, if_false] at hz
        exact h.apart y z vy vz hy hz hne
end

end Go.Proofs.YtkjlkbgdkdcboaaGreat

namespace Go.Proofs.YtkjlkbgdkdcboaaGreat
open Go.RowKit Go.Maps

section
variable {κ α : Type} {kt : TypeId} {key : κ → Lit} {ok : κ → Prop} {w : World} {et : TypeId} {b b2 n n2 base size : Nat} {f : α → List Value} {D D2 : DataW Value} {S S2 : κ → Option Value} {G G2 : κ → List α}

theorem GV.aside {w' : World} {r : Option Nat} (h : GV w kt key ok b n base et size f D S G) (hg : w.grownBy w' r) (hb : r ≠ some b) (hr : ∀ x v, S x = some v → v.ownBlock = none ∨ v.ownBlock ≠ r) : GV w' kt key ok b n base et size f D S G :=
  ⟨h.mv.grown hg hb, fun x v hx => ⟨(h.row x v hx).1.kept hg (hr x v hx), (h.row x v hx).2⟩, h.nil, h.apart, h.low⟩
/-- a row that is there lies in a block -/
theorem GV.block (h : GV w kt key ok b n base et size f D S G) {x : κ} {v : Value} (hx : S x = some v) : ∃ g, v.ownBlock = some g ∧ base ≤ g ∧ g < w.heap.size := by
  obtain ⟨r1, r2⟩ := h.row x v hx
  rcases r1.2 with ⟨_, h0⟩ | ⟨g, cap, _, e, _⟩
  · exact absurd (List.length_eq_zero_iff.1 h0) r2
  · have hg : v.ownBlock = some g := by rw [e]; rfl
    exact ⟨g, hg, r1.lt g hg⟩
/-- two maps of rows, side by side -/
def Parted (S S2 : κ → Option Value) : Prop := ∀ x y vx vy, S x = some vx → S2 y = some vy → vx.ownBlock ≠ vy.ownBlock
theorem Parted.symm (h : Parted S S2) : Parted S2 S := fun x y vx vy h1 h2 e => h y x vy vx h2 h1 e.symm
/-- what the other keeps when the one grows -/
theorem GV.beside [DecidableEq κ] (h : GV w kt key ok b n base et size f D S G) (h2 : GV w kt key ok b2 n2 base et size f D2 S2 G2) (hp : Parted S S2) (hbb : b ≠ b2) (x : κ) {w2 w3 w4 : World} {v' : Value} (hg2 : w.grownBy w2 (some b))
    (hg3 : w2.grownBy w3 ((S x).getD (.slice none 0 0)).ownBlock) (hloc : v'.ownBlock = ((S x).getD (.slice none 0 0)).ownBlock ∨ ∃ g, v'.ownBlock = some g ∧ w.heap.size ≤ g) (hg4 : w3.grownBy w4 (some b)) :
    GV w4 kt key ok b2 n2 base et size f D2 S2 G2 ∧ Parted (upd S x v') S2 := by
  have hlo := h.low
  have n1 : ∀ y v, S2 y = some v → v.ownBlock = none ∨ v.ownBlock ≠ some b := fun y v hy => by
    obtain ⟨g, hg, h1, _⟩ := h2.block hy
    exact .inr (by rw [hg]; intro e; cases e; omega)
  have n2' : ∀ y v, S2 y = some v → v.ownBlock = none ∨ v.ownBlock ≠ ((S x).getD (.slice none 0 0)).ownBlock := fun y v hy => by
    obtain ⟨g, hg, h1, _⟩ := h2.block hy
    refine .inr ?_
    cases hs : S x with
    | none => rw [hg]; simp [Value.ownBlock]
    | some vx => exact fun e => hp x y vx v hs hy e.symm
  have nb : ((S x).getD (.slice none 0 0)).ownBlock ≠ some b2 := by
    cases hs : S x with
    | none => simp [Value.ownBlock]
    | some vx =>
      obtain ⟨g, hg, h1, _⟩ := h.block hs
      have := h2.low
      simp only [Option.getD_some, hg]
      intro e
      cases e
      omega
  refine ⟨((h2.aside hg2 (fun e => hbb (Option.some.inj e)) n1).aside hg3 nb n2').aside hg4 (fun e => hbb (Option.some.inj e)) n1, ?_⟩
  intro y z vy vz hy hz
  by_cases e : y = x
  · subst e
    simp only [upd, if_true, Option.some.injEq] at hy
    subst hy
    obtain ⟨g, hg, h1, h3⟩ := h2.block hz
    rcases hloc with hl | ⟨g', hl, hge⟩
    · rw [hl]
      cases hs : S y with
      | none => rw [hg]; simp [Value.ownBlock]
      | some vx => exact hp y z vx vz hs hz
    · rw [hl, hg]
      intro e'
      cases e'
      omega
  · simp only [upd, e, if_false] at hy
    exact hp y z vy vz hy hz
end

end Go.Proofs.YtkjlkbgdkdcboaaGreat
