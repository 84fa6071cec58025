import Derived.Test.YtkjlkbgdkdcboaaGreatDoorSlabB
import Derived.Stop.RegionWithIn
import Derived.Sort.CutIn

set_option linter.unusedSimpArgs false
set_option linter.unusedVariables false

set_option linter.unusedSimpArgs false
set_option linter.unusedVariables false
namespace Go.Proofs.YtkjlkbgdkdcboaaGreatDoor
open Go.RowKit Go.Maps Go.Shelf
attribute [local go_sem] Oper.semAt_some
-- no piece yet for the band
set_option maxRecDepth 100000 in
set_option maxHeartbeats 6000000 in
theorem reg9_none {ps : String} (l n : Nat) (WP : World)  (x0 x1 x2 x3 x4 x5 x6 x7 x8 x10 x11 x12 x13 x14 x15 x16 x17 x18 x19 x20 x21 x22 x23 x24 x25 x26 x27 x28 x29 x30 x31 x32 x33 x34 x35 x36 x37 x38 x39 x40 x41 x42 x43 x44 x45 x46 x47 x48 x49 x50 x51 x52 x53 x54 x55 x56 x57 x58 x59 x60 : Value) :
    Code.wpIn (Fence.wide.inRound l) n Tryz.prog (Code.region 9 #[{ dst := some 26, op := Op.move (Operand.tmp 9), type := 4, pos := ps, after := #[], guard := none },
  { dst := some 27, op := Op.move (Operand.tmp 26), type := 4, pos := ps, after := #[{ on := 0, ground := Ground.data }], guard := none },
  { dst := some 28, op := Op.load 34 (Operand.tmp 3), type := 34, pos := ps, after := #[{ on := 1, ground := Ground.guard }], guard := some (1, true) },
  { dst := some 29, op := Op.move (Operand.tmp 8), type := 3, pos := ps, after := #[{ on := 1, ground := Ground.guard }], guard := some (1, true) },
  { dst := some 30, op := Op.indexAddr 34 (Operand.tmp 28) (Operand.tmp 29), type := 0, pos := ps, after := #[{ on := 2, ground := Ground.data }, { on := 3, ground := Ground.data }, { on := 1, ground := Ground.guard }], guard := some (1, true) },
  { dst := some 31, op := Op.fieldAddr 44 (Operand.tmp 30) 1, type := 0, pos := ps, after := #[{ on := 4, ground := Ground.data }, { on := 1, ground := Ground.guard }], guard := some (1, true) },
  { dst := some 32, op := Op.load 38 (Operand.tmp 31), type := 38, pos := ps, after := #[{ on := 5, ground := Ground.data }, { on := 1, ground := Ground.guard }], guard := some (1, true) },
  { dst := some 33, op := Op.fieldAddr 102 (Operand.tmp 5) 0, type := 0, pos := ps, after := #[{ on := 1, ground := Ground.guard }], guard := some (1, true) },
  { dst := some 34, op := Op.load 38 (Operand.tmp 33), type := 38, pos := ps, after := #[{ on := 7, ground := Ground.data }, { on := 1, ground := Ground.guard }], guard := some (1, true) },
  { dst := some 35, op := Op.binOp BinOp.eql 38 (Operand.tmp 32) (Operand.tmp 34) 38, type := 4, pos := ps, after := #[{ on := 6, ground := Ground.data }, { on := 8, ground := Ground.data }, { on := 1, ground := Ground.guard }], guard := some (1, true) },
  { dst := some 36, op := Op.pick (Operand.tmp 27) (Operand.tmp 35) (Operand.const (Value.bool false)), type := 4, pos := ps, after := #[{ on := 1, ground := Ground.data }, { on := 9, ground := Ground.data }], guard := none }] true)
      (fun e a W' => e = .normal ∧ W' = WP.drew ∧ ∃ v26 v27 v28 v29 v30 v31 v32 v33 v34 v35, a = { tmps := #[x0, x1, x2, x3, x4, x5, x6, x7, x8, .bool false, x10, x11, x12, x13, x14, x15, x16, x17, x18, x19, x20, x21, x22, x23, x24, x25, v26, v27, v28, v29, v30, v31, v32, v33, v34, v35, .bool false, x37, x38, x39, x40, x41, x42, x43, x44, x45, x46, x47, x48, x49, x50, x51, x52, x53, x54, x55, x56, x57, x58, x59, x60], defers := [] })
      { tmps := #[x0, x1, x2, x3, x4, x5, x6, x7, x8, .bool false, x10, x11, x12, x13, x14, x15, x16, x17, x18, x19, x20, x21, x22, x23, x24, x25, x26, x27, x28, x29, x30, x31, x32, x33, x34, x35, x36, x37, x38, x39, x40, x41, x42, x43, x44, x45, x46, x47, x48, x49, x50, x51, x52, x53, x54, x55, x56, x57, x58, x59, x60], defers := [] } WP := by
  gi_region
  all_goals exact ⟨rfl, rfl, _, _, _, _, _, _, _, _, _, _, rfl⟩
end Go.Proofs.YtkjlkbgdkdcboaaGreatDoor
namespace Go.Proofs.YtkjlkbgdkdcboaaGreatDoor
open Go.RowKit Go.Maps Go.Shelf
attribute [local go_sem] Oper.semAt_some
theorem eql33 (u v x y : Int) (w' : World) : (binOp .eql 38 (.agg #[.int .i64 u, .int .i64 v]) (.agg #[.int .i64 x, .int .i64 y])).run Tryz.prog w' = .ok (.bool (u == x && v == y)) w' := by
  by_cases h1 : u = x <;> by_cases h2 : v = y <;> simp [go_sem, h1, h2]
-- a piece for the band: does it end here
set_option maxRecDepth 100000 in
set_option maxHeartbeats 6000000 in
theorem reg9_some {ps : String} (l n : Nat) (WP : World) (P Bx i q pcap pg : Nat) (f1 f2 y1 y2 : Int) (hi : i < q) (hq : q ≤ 3000000) (cp : WP.cell? ⟨P, 0, none⟩ = some (.slice (some ⟨pg, 0, none⟩) q pcap)) (s0 : WP.cell? ⟨Bx, 0, none⟩ = some (.int .i64 f1)) (s1 : WP.cell? ⟨Bx, 1, none⟩ = some (.int .i64 f2)) (p2 : WP.cell? ⟨pg, i * 12 + 1 + 1, none⟩ = some (.int .i64 y1)) (p3 : WP.cell? ⟨pg, i * 12 + 1 + 1 + 1, none⟩ = some (.int .i64 y2)) (x0 x1 x2 x4 x6 x7 x10 x11 x12 x13 x14 x15 x16 x17 x18 x19 x20 x21 x22 x23 x24 x25 x26 x27 x28 x29 x30 x31 x32 x33 x34 x35 x36 x37 x38 x39 x40 x41 x42 x43 x44 x45 x46 x47 x48 x49 x50 x51 x52 x53 x54 x55 x56 x57 x58 x59 x60 : Value) :
    Code.wpIn (Fence.wide.inRound l) n Tryz.prog (Code.region 9 #[{ dst := some 26, op := Op.move (Operand.tmp 9), type := 4, pos := ps, after := #[], guard := none },
  { dst := some 27, op := Op.move (Operand.tmp 26), type := 4, pos := ps, after := #[{ on := 0, ground := Ground.data }], guard := none },
  { dst := some 28, op := Op.load 34 (Operand.tmp 3), type := 34, pos := ps, after := #[{ on := 1, ground := Ground.guard }], guard := some (1, true) },
  { dst := some 29, op := Op.move (Operand.tmp 8), type := 3, pos := ps, after := #[{ on := 1, ground := Ground.guard }], guard := some (1, true) },
  { dst := some 30, op := Op.indexAddr 34 (Operand.tmp 28) (Operand.tmp 29), type := 0, pos := ps, after := #[{ on := 2, ground := Ground.data }, { on := 3, ground := Ground.data }, { on := 1, ground := Ground.guard }], guard := some (1, true) },
  { dst := some 31, op := Op.fieldAddr 44 (Operand.tmp 30) 1, type := 0, pos := ps, after := #[{ on := 4, ground := Ground.data }, { on := 1, ground := Ground.guard }], guard := some (1, true) },
  { dst := some 32, op := Op.load 38 (Operand.tmp 31), type := 38, pos := ps, after := #[{ on := 5, ground := Ground.data }, { on := 1, ground := Ground.guard }], guard := some (1, true) },
  { dst := some 33, op := Op.fieldAddr 102 (Operand.tmp 5) 0, type := 0, pos := ps, after := #[{ on := 1, ground := Ground.guard }], guard := some (1, true) },
  { dst := some 34, op := Op.load 38 (Operand.tmp 33), type := 38, pos := ps, after := #[{ on := 7, ground := Ground.data }, { on := 1, ground := Ground.guard }], guard := some (1, true) },
  { dst := some 35, op := Op.binOp BinOp.eql 38 (Operand.tmp 32) (Operand.tmp 34) 38, type := 4, pos := ps, after := #[{ on := 6, ground := Ground.data }, { on := 8, ground := Ground.data }, { on := 1, ground := Ground.guard }], guard := some (1, true) },
  { dst := some 36, op := Op.pick (Operand.tmp 27) (Operand.tmp 35) (Operand.const (Value.bool false)), type := 4, pos := ps, after := #[{ on := 1, ground := Ground.data }, { on := 9, ground := Ground.data }], guard := none }] true)
      (fun e a W' => e = .normal ∧ W' = WP.drew ∧ ∃ v26 v27 v28 v29 v30 v31 v32 v33 v34 v35, a = { tmps := #[x0, x1, x2, .pointer (some ⟨P, 0, none⟩), x4, .pointer (some ⟨Bx, 0, none⟩), x6, x7, .int .i64 i, .bool true, x10, x11, x12, x13, x14, x15, x16, x17, x18, x19, x20, x21, x22, x23, x24, x25, v26, v27, v28, v29, v30, v31, v32, v33, v34, v35, .bool (y1 == f1 && y2 == f2), x37, x38, x39, x40, x41, x42, x43, x44, x45, x46, x47, x48, x49, x50, x51, x52, x53, x54, x55, x56, x57, x58, x59, x60], defers := [] })
      { tmps := #[x0, x1, x2, .pointer (some ⟨P, 0, none⟩), x4, .pointer (some ⟨Bx, 0, none⟩), x6, x7, .int .i64 i, .bool true, x10, x11, x12, x13, x14, x15, x16, x17, x18, x19, x20, x21, x22, x23, x24, x25, x26, x27, x28, x29, x30, x31, x32, x33, x34, x35, x36, x37, x38, x39, x40, x41, x42, x43, x44, x45, x46, x47, x48, x49, x50, x51, x52, x53, x54, x55, x56, x57, x58, x59, x60], defers := [] } WP := by
  have he := eql33 y1 y2 f1 f2
  gi_region
  all_goals exact ⟨rfl, rfl, _, _, _, _, _, _, _, _, _, _, rfl⟩
end Go.Proofs.YtkjlkbgdkdcboaaGreatDoor
