namespace Go.Proofs.YtkjlkbgdkdcboaaDoor.Acre
def onGrid (p : Int × Int) : Bool := decide (-12 ≤ p.1 ∧ p.1 ≤ 12) && decide (-12 ≤ p.2 ∧ p.2 ≤ 12)
theorem all_snoc (ps : List (Int × Int)) (k : Nat) (h : k < ps.length) : (ps.take (k + 1)).all onGrid = ((ps.take k).all onGrid && onGrid ps[k]) := by
  rw [List.take_succ_eq_append_getElem h, List.all_append]; simp
theorem all_no (ps : List (Int × Int)) (k : Nat) (h : k < ps.length) (hn : onGrid ps[k] = false) : ps.all onGrid = false := by
  rw [List.all_eq_false]; exact ⟨ps[k], List.getElem_mem h, by simp [hn]⟩
abbrev Pt := Int × Int
def ringOk (r : List Pt) : Bool := (decide (3 ≤ r.length) && decide (r.length ≤ 6)) && r.all onGrid
def fieldOk (f : List (List Pt)) : Bool := decide (f.length ≤ 2) && f.all ringOk
end Go.Proofs.YtkjlkbgdkdcboaaDoor.Acre
