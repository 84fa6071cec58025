import Derived.Test.YtkjlkbgdkdcboaaPlane
namespace Go.Proofs.Ytkjlkbgdkdcboaa.Acre

abbrev Pt := Int × Int

def on2 (a b c d p : Pt) : Bool := onE a.1 a.2 b.1 b.2 p.1 1 p.2 1 && onE c.1 c.2 d.1 d.2 p.1 1 p.2 1
/-- the ends that are on both edges -/
def endsOf (a b c d : Pt) : List Pt := [a, b, c, d].filter (on2 a b c d)
/-- one place, some, or none -/
def tell (l : List Pt) : Int × (Int × Int) × (Int × Int) :=
  match l with
  | [] => (0, (0, 0), (0, 0))
  | p :: r => if r.all (fun q => q == p) then (1, (p.1, 1), (p.2, 1)) else (2, (0, 0), (0, 0))

/-- u: the different ones among l -/
structure Diff (l u : List Pt) : Prop where
  nodup : u.Nodup
  mem : ∀ p, p ∈ u ↔ p ∈ l

theorem Diff.nil : Diff [] [] := ⟨List.nodup_nil, fun _ => Iff.rfl⟩
theorem Diff.old {l u : List Pt} (h : Diff l u) {p : Pt} (hp : p ∈ u) : Diff (l ++ [p]) u :=
  ⟨h.nodup, fun q => by
    rw [List.mem_append, List.mem_singleton, ← h.mem]
    exact ⟨Or.inl, fun k => k.elim id (fun e => e ▸ hp)⟩⟩
theorem Diff.new {l u : List Pt} (h : Diff l u) {p : Pt} (hp : p ∉ u) : Diff (l ++ [p]) (u ++ [p]) :=
  ⟨List.nodup_append.2 ⟨h.nodup, by simp, fun a ha b hb => by
      simp only [List.mem_singleton] at hb; subst hb; exact fun e => hp (e ▸ ha)⟩,
   fun q => by rw [List.mem_append, List.mem_append, h.mem]⟩

theorem tell_none {l u : List Pt} (h : Diff l u) (hu : u.length = 0) : tell l = (0, (0, 0), (0, 0)) := by
  have : u = [] := List.length_eq_zero_iff.1 hu
  subst this
  cases l with
  | nil => rfl
  | cons p r => have := (h.mem p).2 (by simp); simp at this
theorem tell_one {l u : List Pt} (h : Diff l u) (hu : u.length = 1) {p : Pt} (hp : l.getLast? = some p) : tell l = (1, (p.1, 1), (p.2, 1)) := by
  obtain ⟨q, rfl⟩ := List.length_eq_one_iff.1 hu
  have hall : ∀ x ∈ l, x = q := fun x hx => by have := (h.mem x).2 hx; simpa using this
  have hpq : p = q := hall p (List.mem_of_getLast? hp)
  subst hpq
  cases l with
  | nil => simp at hp
  | cons a r =>
    have ha : a = p := hall a (by simp)
    subst ha
    unfold tell
    simp only
    rw [if_pos]
    rw [List.all_eq_true]
    intro x hx
    have := hall x (by simp [hx])
    simp [this]
theorem tell_more {l u : List Pt} (h : Diff l u) (h0 : u.length ≠ 0) (h1 : u.length ≠ 1) : tell l = (2, (0, 0), (0, 0)) := by
  match u, h with
  | [], _ => simp at h0
  | [_], _ => simp at h1
  | a :: b :: r, h =>
    have hab : a ≠ b := by have := h.nodup; simp at this; exact this.1.1
    have ha := (h.mem a).1 (by simp)
    have hb := (h.mem b).1 (by simp)
    match l with
    | [] => simp at ha
    | p :: t =>
      unfold tell
      simp only
      rw [if_neg]
      intro hall
      rw [List.all_eq_true] at hall
      have e : ∀ x ∈ p :: t, x = p := fun x hx => by
        rcases List.mem_cons.1 hx with k | k
        · exact k
        · simpa using hall x k
      exact hab ((e a ha).trans (e b hb).symm)

def turn (a b c d : Pt) : Int := (b.1 - a.1) * (d.2 - c.2) - (b.2 - a.2) * (d.1 - c.1)
/-- P5 -/
def meet (a b c d : Pt) : Int × (Int × Int) × (Int × Int) :=
  if [a, b, c, d].all onGrid then
    if turn a b c d = 0 then tell (endsOf a b c d) else across a.1 a.2 b.1 b.2 c.1 c.2 d.1 d.2 (turn a b c d)
  else (0, (0, 0), (0, 0))

end Go.Proofs.Ytkjlkbgdkdcboaa.Acre
