import Derived.Test.YtkjlkbgdkdcboaaPlane3
namespace Go.Proofs.Ytkjlkbgdkdcboaa.Acre

abbrev Ed := Pt × Pt

/-- the edge from its lower end, from left to right if it is level -/
def up (e : Ed) : Ed := if decide (e.2.2 < e.1.2) || (e.1.2 == e.2.2 && decide (e.2.1 < e.1.1)) then (e.2, e.1) else e

def isR (e : Ed) (x y : Int × Int) : Bool := (decide (0 ≤ sgn (y.1 - e.1.2 * y.2)) && decide (sgn (y.1 - e.2.2 * y.2) < 0)) && decide (0 < sd e.1.1 e.1.2 e.2.1 e.2.2 x.1 x.2 y.1 y.2)
def isOnE (e : Ed) (x y : Int × Int) : Bool := onE e.1.1 e.1.2 e.2.1 e.2.2 x.1 x.2 y.1 y.2

def near (f : Int × Int) : Bool := (decide (1 ≤ f.2) && decide (f.2 ≤ 1152)) && ((decide (-(13 * f.2) ≤ f.1) && decide (f.1 ≤ 13 * f.2)) && g f.1 f.2 == 1)
def ringOk (r : List Pt) : Bool := (decide (3 ≤ r.length) && decide (r.length ≤ 6)) && r.all onGrid
def fieldOk (f : List (List Pt)) : Bool := decide (f.length ≤ 2) && f.all ringOk

/-- the edges of a ring, from number k on -/
def edgesTo (r : List Pt) (k : Nat) : List Ed := (List.range k).map fun i => (r.getD i (0, 0), r.getD ((i + 1) % r.length) (0, 0))
def edgesOf (f : List (List Pt)) : List Ed := f.flatMap fun r => edgesTo r r.length

theorem edgesTo_succ (r : List Pt) (k : Nat) : edgesTo r (k + 1) = edgesTo r k ++ [(r.getD k (0, 0), r.getD ((k + 1) % r.length) (0, 0))] := by
  unfold edgesTo; rw [List.range_succ, List.map_append]; rfl

end Go.Proofs.Ytkjlkbgdkdcboaa.Acre
