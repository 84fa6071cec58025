/-
  No cell of these rows narrows 'for every input' (looked for: loops, veiled, ifaces, maps, wideKeys, modest, calm, conditions, laid).
  DERIVED. THE GIVEN ROWS OF THIS SEAT. 4 by the template 'for every input the law returns true; each argument reads behind the call as it read before'; 0 by the template 'total and deterministic' (their statements: YtkjlkbgdkdcboaaTotals.lean).
  GIVEN WITH THE SEED: the statements are not yours to turn. If you find one false, say at which input.
  Laid BY PROGRAM, IN A SANDBOX (cutbox-rows.mjs): the forced cells as the released guide's own fill.sh prints them over the translation 2052815488943dc9… (all of the seat's roots in one cut). By AI agents, Wed Nov 11 2026. No macro, syntax, notation, axiom, sorry.
-/
import Derived.Test.YtkjlkbgdkdcboaaChecked
import GoSem.Claim
import GoSem.ClaimJoined
import GoSem.ClaimMapViews
import Derived.JoinedTies
import Derived.KernelRfl
namespace Go.Proofs.Ytkjlkbgdkdcboaa
/- THE CELL 'sum', in the pinned program and in every row, IS THE sha256 OF THE DUMP (.gsa) THAT YtkjlkbgdkdcboaaProg.lean LOADS. Nothing in Lean hashes anything: it is a label: what it is worth is what the hold of that sum in a sandbox is worth. -/
noncomputable def Try.pinned : Pinned := { name := "ytkjlkbgdkdcboaa", sum := "2052815488943dc9d19187dd74280c54342c0865c993ac5ac41013c4474982fb", checked := Try.checked }
namespace Rows
def none {H : Type} : Left H := { results := [], args := [] }

/-- 'acrelaw.Reads': WHATEVER THE INPUT: true; the input reads as it did. -/
def readsSpec : ChangeSpec := { name := "reads", fn := fun _ => fun
  | [d] => { results := [.lit (.bool true)], args := [d] }
  | _ => none }
def readsRow : OpenClaim := { program := "ytkjlkbgdkdcboaa", sum := "2052815488943dc9d19187dd74280c54342c0865c993ac5ac41013c4474982fb", func := "acre/acrelaw.Reads", spec := "reads", plainKeys := false, apart := false }
def ReadsSaid : Prop := readsRow.holds Try.pinned (OpenSpec.ofChange readsSpec)

/-- ITS FALSE NEIGHBOUR: 'it returns false'. Refute it at one input. -/
def readsWrong : ChangeSpec := { name := "reads", fn := fun _ => fun
  | [d] => { results := [.lit (.bool false)], args := [d] }
  | _ => none }
def ReadsWrongFalsely : Prop := readsRow.holds Try.pinned (OpenSpec.ofChange readsWrong)

/-- 'acrelaw.Wheres': WHATEVER THE INPUT: true; the input reads as it did. -/
def wheresSpec : ChangeSpec := { name := "wheres", fn := fun _ => fun
  | [d1, d2, d3] => { results := [.lit (.bool true)], args := [d1, d2, d3] }
  | _ => none }
def wheresRow : OpenClaim := { program := "ytkjlkbgdkdcboaa", sum := "2052815488943dc9d19187dd74280c54342c0865c993ac5ac41013c4474982fb", func := "acre/acrelaw.Wheres", spec := "wheres", plainKeys := false, apart := false }
def WheresSaid : Prop := wheresRow.holds Try.pinned (OpenSpec.ofChange wheresSpec)

/-- ITS FALSE NEIGHBOUR: 'it returns false'. Refute it at one input. -/
def wheresWrong : ChangeSpec := { name := "wheres", fn := fun _ => fun
  | [d1, d2, d3] => { results := [.lit (.bool false)], args := [d1, d2, d3] }
  | _ => none }
def WheresWrongFalsely : Prop := wheresRow.holds Try.pinned (OpenSpec.ofChange wheresWrong)

/-- 'acrelaw.Meets': WHATEVER THE INPUT: true; the input reads as it did. -/
def meetsSpec : ChangeSpec := { name := "meets", fn := fun _ => fun
  | [d1, d2] => { results := [.lit (.bool true)], args := [d1, d2] }
  | _ => none }
def meetsRow : OpenClaim := { program := "ytkjlkbgdkdcboaa", sum := "2052815488943dc9d19187dd74280c54342c0865c993ac5ac41013c4474982fb", func := "acre/acrelaw.Meets", spec := "meets", plainKeys := false, apart := false }
def MeetsSaid : Prop := meetsRow.holds Try.pinned (OpenSpec.ofChange meetsSpec)

/-- ITS FALSE NEIGHBOUR: 'it returns false'. Refute it at one input. -/
def meetsWrong : ChangeSpec := { name := "meets", fn := fun _ => fun
  | [d1, d2] => { results := [.lit (.bool false)], args := [d1, d2] }
  | _ => none }
def MeetsWrongFalsely : Prop := meetsRow.holds Try.pinned (OpenSpec.ofChange meetsWrong)

/-- 'acrelaw.Mirrored': WHATEVER THE INPUT: true; the input reads as it did. -/
def mirroredSpec : ChangeSpec := { name := "mirrored", fn := fun _ => fun
  | [d1, d2] => { results := [.lit (.bool true)], args := [d1, d2] }
  | _ => none }
def mirroredRow : OpenClaim := { program := "ytkjlkbgdkdcboaa", sum := "2052815488943dc9d19187dd74280c54342c0865c993ac5ac41013c4474982fb", func := "acre/acrelaw.Mirrored", spec := "mirrored", plainKeys := false, apart := false }
def MirroredSaid : Prop := mirroredRow.holds Try.pinned (OpenSpec.ofChange mirroredSpec)

/-- ITS FALSE NEIGHBOUR: 'it returns false'. Refute it at one input. -/
def mirroredWrong : ChangeSpec := { name := "mirrored", fn := fun _ => fun
  | [d1, d2] => { results := [.lit (.bool false)], args := [d1, d2] }
  | _ => none }
def MirroredWrongFalsely : Prop := mirroredRow.holds Try.pinned (OpenSpec.ofChange mirroredWrong)

/- THE SECOND FORM. 'bulk': how many values and letters a reading holds, each counted each time it is reached (what is shared counts as often as it is met; a slice's spare places count too). A statement '..UptoSaid' is the law's where the arguments, and the package variables that the reading takes, are together of bulk at most 1048576: NARROWER than '..Said'. Prove '..Said' where nothing that the law and all that it calls make is longer than what came in: it says more and counts as full. Else prove '..UptoSaid'. A law counts once. -/
mutual
def uptoBulk {H : Type} : DataW H → Nat
  | .lit (.string bytes) => bytes.length + 1
  | .lit _ => 1
  | .nil => 1
  | .ptr d => uptoBulk d + 1
  | .slice elems spare => uptoBulkAll elems + uptoBulkAll spare + 1
  | .agg parts => uptoBulkAll parts + 1
  | .iface _ d => uptoBulk d + 1
  | .map entries => uptoBulkEntries entries + 1
  | .held _ => 1
def uptoBulkAll {H : Type} : List (DataW H) → Nat
  | [] => 0
  | d :: r => uptoBulk d + uptoBulkAll r
def uptoBulkEntries {H : Type} : List (Lit × DataW H) → Nat
  | [] => 0
  | x :: r => uptoBulkEntry x + uptoBulkEntries r
def uptoBulkEntry {H : Type} : Lit × DataW H → Nat
  | (.string bytes, d) => bytes.length + uptoBulk d + 1
  | (_, d) => uptoBulk d + 1
 end
def uptoSmall : (H : Type) → List (DataW H) → Bool := fun _ ds => decide (uptoBulkAll ds ≤ 1048576)
def OpenSpec.upto (s : _root_.Go.ChangeSpec) : _root_.Go.OpenSpec := { _root_.Go.OpenSpec.ofChange s with cond := some uptoSmall }

/-- 'acrelaw.Reads', WHERE WHAT IT READS IS OF BULK AT MOST 1048576: true; the input reads as it did. -/
def readsUptoRow : OpenClaim := { program := "ytkjlkbgdkdcboaa", sum := "2052815488943dc9d19187dd74280c54342c0865c993ac5ac41013c4474982fb", func := "acre/acrelaw.Reads", spec := "reads", plainKeys := false, apart := false, narrowed := true }
def ReadsUptoSaid : Prop := readsUptoRow.holds Try.pinned (OpenSpec.upto readsSpec)

/-- 'acrelaw.Wheres', WHERE WHAT IT READS IS OF BULK AT MOST 1048576: true; the input reads as it did. -/
def wheresUptoRow : OpenClaim := { program := "ytkjlkbgdkdcboaa", sum := "2052815488943dc9d19187dd74280c54342c0865c993ac5ac41013c4474982fb", func := "acre/acrelaw.Wheres", spec := "wheres", plainKeys := false, apart := false, narrowed := true }
def WheresUptoSaid : Prop := wheresUptoRow.holds Try.pinned (OpenSpec.upto wheresSpec)

/-- 'acrelaw.Meets', WHERE WHAT IT READS IS OF BULK AT MOST 1048576: true; the input reads as it did. -/
def meetsUptoRow : OpenClaim := { program := "ytkjlkbgdkdcboaa", sum := "2052815488943dc9d19187dd74280c54342c0865c993ac5ac41013c4474982fb", func := "acre/acrelaw.Meets", spec := "meets", plainKeys := false, apart := false, narrowed := true }
def MeetsUptoSaid : Prop := meetsUptoRow.holds Try.pinned (OpenSpec.upto meetsSpec)

/-- 'acrelaw.Mirrored', WHERE WHAT IT READS IS OF BULK AT MOST 1048576: true; the input reads as it did. -/
def mirroredUptoRow : OpenClaim := { program := "ytkjlkbgdkdcboaa", sum := "2052815488943dc9d19187dd74280c54342c0865c993ac5ac41013c4474982fb", func := "acre/acrelaw.Mirrored", spec := "mirrored", plainKeys := false, apart := false, narrowed := true }
def MirroredUptoSaid : Prop := mirroredUptoRow.holds Try.pinned (OpenSpec.upto mirroredSpec)

end Rows
end Go.Proofs.Ytkjlkbgdkdcboaa
