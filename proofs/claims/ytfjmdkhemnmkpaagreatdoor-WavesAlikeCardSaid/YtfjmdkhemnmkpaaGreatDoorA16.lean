/- Parts of the proof: WvAlR. -/
import Derived.Test.YtfjmdkhemnmkpaaGreatDoorA15
import Derived.Test.YtfjmdkhemnmkpaaGreatDoorA10
import Derived.Test.YtfjmdkhemnmkpaaGreatDoorA02
import Derived.Laws.StructEq
namespace Go.Proofs.YtfjmdkhemnmkpaaGreatDoor
open Go.RowKit
theorem run_ixD (w : World) (b o L c q : Nat) (h : q < L) : (Instr.indexAt 40 (.slice (some ⟨b, o, none⟩) L c) (.int .i64 (q : Int))).run Tryz.prog w = .ok (.pointer (some ⟨b, o + q * 5, none⟩)) w := by
  have h1 : (0 : Int) ≤ q := by omega
  have h2 : (q : Int) < L := by omega
  simp [go_sem, h1, h2]
theorem run_ixN (w : World) (b o L c q : Nat) (h : q < L) : (Instr.indexAt 23 (.slice (some ⟨b, o, none⟩) L c) (.int .i64 (q : Int))).run Tryz.prog w = .ok (.pointer (some ⟨b, o + q, none⟩)) w := by
  have h1 : (0 : Int) ≤ q := by omega
  have h2 : (q : Int) < L := by omega
  simp [go_sem, h1, h2]
theorem run_fdD0 (w : World) (b o : Nat) : (Instr.fieldAt 47 (.pointer (some ⟨b, o, none⟩)) 0).run Tryz.prog w = .ok (.pointer (some ⟨b, o + 0, none⟩)) w := by
  simp [go_sem]
theorem run_fdD1 (w : World) (b o : Nat) : (Instr.fieldAt 47 (.pointer (some ⟨b, o, none⟩)) 1).run Tryz.prog w = .ok (.pointer (some ⟨b, o + 2, none⟩)) w := by
  simp [go_sem]
theorem run_fdD2 (w : World) (b o : Nat) : (Instr.fieldAt 47 (.pointer (some ⟨b, o, none⟩)) 2).run Tryz.prog w = .ok (.pointer (some ⟨b, o + 3, none⟩)) w := by
  simp [go_sem]
theorem run_fdD3 (w : World) (b o : Nat) : (Instr.fieldAt 47 (.pointer (some ⟨b, o, none⟩)) 3).run Tryz.prog w = .ok (.pointer (some ⟨b, o + 4, none⟩)) w := by
  simp [go_sem]
theorem run_ldRepD (w : World) (b o : Nat) (d : DV) (h : ∀ i u, d.cells[i]? = some u → w.cell? ⟨b, o + i, none⟩ = some u) : (Instr.loadAt 45 (.pointer (some ⟨b, o + 0, none⟩))).run Tryz.prog w = .ok (.agg #[.int .u8 (d.cd : Int), .string d.tx]) w := by
  have h0 : w.cell? ⟨b, o + 0, none⟩ = some (.int .u8 (d.cd : Int)) := h 0 _ rfl
  have h1 : w.cell? ⟨b, o + 1, none⟩ = some (.string d.tx) := h 1 _ rfl
  simp only [Nat.add_zero] at h0 ⊢
  simp [go_sem, h0, h1]
theorem run_ldFrD (w : World) (b o : Nat) (d : DV) (h : ∀ i u, d.cells[i]? = some u → w.cell? ⟨b, o + i, none⟩ = some u) : (Instr.loadAt 4 (.pointer (some ⟨b, o + 2, none⟩))).run Tryz.prog w = .ok (.bool d.fr) w := by
  have h2 : w.cell? ⟨b, o + 2, none⟩ = some (.bool d.fr) := h 2 _ rfl
  simp [go_sem, h2]
theorem run_ldWvD (w : World) (b o : Nat) (d : DV) (h : ∀ i u, d.cells[i]? = some u → w.cell? ⟨b, o + i, none⟩ = some u) : (Instr.loadAt 3 (.pointer (some ⟨b, o + 3, none⟩))).run Tryz.prog w = .ok (.int .i64 (d.wv : Int)) w := by
  have h3 : w.cell? ⟨b, o + 3, none⟩ = some (.int .i64 (d.wv : Int)) := h 3 _ rfl
  simp [go_sem, h3]
theorem run_ldTnD (w : World) (b o : Nat) (d : DV) (h : ∀ i u, d.cells[i]? = some u → w.cell? ⟨b, o + i, none⟩ = some u) : (Instr.loadAt 3 (.pointer (some ⟨b, o + 4, none⟩))).run Tryz.prog w = .ok (.int .i64 (d.tn : Int)) w := by
  have h4 : w.cell? ⟨b, o + 4, none⟩ = some (.int .i64 (d.tn : Int)) := h 4 _ rfl
  simp [go_sem, h4]
theorem run_ldN (w : World) (p : Addr) (v : Int) (h : w.cell? p = some (.int .i64 v)) : (Instr.loadAt 3 (.pointer (some p))).run Tryz.prog w = .ok (.int .i64 v) w := by
  simp [go_sem, h]
theorem guard_repD (op : BinOp) (w : World) (x y : Operand) (r s : Int) (t u : ByteArray) : (eqGuard op 45 x y (.agg #[.int .u8 r, .string t]) (.agg #[.int .u8 s, .string u])).run Tryz.prog w = .ok () w := by
  have h : Tryz.prog.eqGuardType Tryz.prog.depth 45 = false := by kernel_rfl
  cases op <;> simp [eqGuard, h]
theorem run_neRepD (w : World) (r : Int) (t : ByteArray) : (binOp .neq 45 (.agg #[.int .u8 r, .string t]) (.agg #[.int .u8 r, .string t])).run Tryz.prog w = .ok (.bool false) w := by
  simp [go_sem]
theorem run_neBD (w : World) (b : Bool) : (binOp .neq 4 (.bool b) (.bool b)).run Tryz.prog w = .ok (.bool false) w := by
  cases b <;> simp [go_sem, Tryz.underlying4]
theorem run_neND (w : World) (x : Int) : (binOp .neq 3 (.int .i64 x) (.int .i64 x)).run Tryz.prog w = .ok (.bool false) w := by
  simp [go_sem]
theorem run_ltND (w : World) (x y : Int) (h : y ≤ x) : (binOp .lss 3 (.int .i64 x) (.int .i64 y)).run Tryz.prog w = .ok (.bool false) w := by
  have h1 : ¬ x < y := by omega
  simp [go_sem, h1]
  try omega
theorem run_geND (w : World) (x y : Int) (h : x < y) : (binOp .geq 3 (.int .i64 x) (.int .i64 y)).run Tryz.prog w = .ok (.bool false) w := by
  have h1 : ¬ y ≤ x := by omega
  simp [go_sem, h1]
  try omega
theorem run_sub1 (w : World) (x : Nat) (h : x < 1000000) : (binOp .sub 3 (.int .i64 ((x + 1 : Nat) : Int)) (.int .i64 1)).run Tryz.prog w = .ok (.int .i64 (x : Int)) w := by
  have h1 : IntKind.i64.wrap (x : Int) = (x : Int) := by simp [IntKind.wrap, IntKind.bits, IntKind.signed]; omega
  simp [go_sem, h1]
theorem run_stN (w : World) (g t : Nat) (u : Value) (v : Int) (h : w.cell? ⟨g, t, none⟩ = some u) (hf : w.frozen? ⟨g, t, none⟩ = false) : (Instr.storeAt 3 (.pointer (some ⟨g, t, none⟩)) (.int .i64 v)).run Tryz.prog w = .ok () (w.setCell ⟨g, t, none⟩ (.int .i64 v)) := by
  simp [go_sem, h, hf]
def oWA160 (p : String) : Oper := { dst := some 75, op := Op.move (Operand.tmp 9), type := 40, pos := p, after := #[], guard := none }
def oWA161 (p : String) : Oper := { dst := some 76, op := Op.move (Operand.tmp 13), type := 3, pos := p, after := #[], guard := none }
def oWA162 (p : String) : Oper := { dst := some 77, op := Op.indexAddr 40 (Operand.tmp 75) (Operand.tmp 76), type := 0, pos := p, after := #[{ on := 0, ground := Ground.data }, { on := 1, ground := Ground.data }], guard := none }
def oWA163 (p : String) : Oper := { dst := some 78, op := Op.fieldAddr 47 (Operand.tmp 77) 0, type := 0, pos := p, after := #[{ on := 2, ground := Ground.data }], guard := none }
def oWA164 (p : String) : Oper := { dst := some 79, op := Op.load 45 (Operand.tmp 78), type := 45, pos := p, after := #[{ on := 3, ground := Ground.data }], guard := none }
def oWA165 (p : String) : Oper := { dst := some 80, op := Op.move (Operand.tmp 10), type := 40, pos := p, after := #[], guard := none }
def oWA166 (p : String) : Oper := { dst := some 81, op := Op.move (Operand.tmp 13), type := 3, pos := p, after := #[], guard := none }
def oWA167 (p : String) : Oper := { dst := some 82, op := Op.indexAddr 40 (Operand.tmp 80) (Operand.tmp 81), type := 0, pos := p, after := #[{ on := 5, ground := Ground.data }, { on := 6, ground := Ground.data }], guard := none }
def oWA168 (p : String) : Oper := { dst := some 83, op := Op.fieldAddr 47 (Operand.tmp 82) 0, type := 0, pos := p, after := #[{ on := 7, ground := Ground.data }], guard := none }
def oWA169 (p : String) : Oper := { dst := some 84, op := Op.load 45 (Operand.tmp 83), type := 45, pos := p, after := #[{ on := 8, ground := Ground.data }], guard := none }
def oWA1610 (p : String) : Oper := { dst := some 85, op := Op.binOp BinOp.neq 45 (Operand.tmp 79) (Operand.tmp 84) 45, type := 4, pos := p, after := #[{ on := 4, ground := Ground.data }, { on := 9, ground := Ground.data }], guard := none }
def oWA1611 (p : String) : Oper := { dst := some 86, op := Op.move (Operand.tmp 85), type := 4, pos := p, after := #[{ on := 10, ground := Ground.data }], guard := none }
def oWA1612 (p : String) : Oper := { dst := some 87, op := Op.move (Operand.tmp 9), type := 40, pos := p, after := #[{ on := 11, ground := Ground.guard }], guard := some (11, false) }
def oWA1613 (p : String) : Oper := { dst := some 88, op := Op.move (Operand.tmp 13), type := 3, pos := p, after := #[{ on := 11, ground := Ground.guard }], guard := some (11, false) }
def oWA1614 (p : String) : Oper := { dst := some 89, op := Op.indexAddr 40 (Operand.tmp 87) (Operand.tmp 88), type := 0, pos := p, after := #[{ on := 12, ground := Ground.data }, { on := 13, ground := Ground.data }, { on := 11, ground := Ground.guard }], guard := some (11, false) }
def oWA1615 (p : String) : Oper := { dst := some 90, op := Op.fieldAddr 47 (Operand.tmp 89) 1, type := 0, pos := p, after := #[{ on := 14, ground := Ground.data }, { on := 11, ground := Ground.guard }], guard := some (11, false) }
def oWA1616 (p : String) : Oper := { dst := some 91, op := Op.load 4 (Operand.tmp 90), type := 4, pos := p, after := #[{ on := 15, ground := Ground.data }, { on := 11, ground := Ground.guard }], guard := some (11, false) }
def oWA1617 (p : String) : Oper := { dst := some 92, op := Op.move (Operand.tmp 10), type := 40, pos := p, after := #[{ on := 11, ground := Ground.guard }], guard := some (11, false) }
def oWA1618 (p : String) : Oper := { dst := some 93, op := Op.move (Operand.tmp 13), type := 3, pos := p, after := #[{ on := 11, ground := Ground.guard }], guard := some (11, false) }
def oWA1619 (p : String) : Oper := { dst := some 94, op := Op.indexAddr 40 (Operand.tmp 92) (Operand.tmp 93), type := 0, pos := p, after := #[{ on := 17, ground := Ground.data }, { on := 18, ground := Ground.data }, { on := 11, ground := Ground.guard }], guard := some (11, false) }
def oWA1620 (p : String) : Oper := { dst := some 95, op := Op.fieldAddr 47 (Operand.tmp 94) 1, type := 0, pos := p, after := #[{ on := 19, ground := Ground.data }, { on := 11, ground := Ground.guard }], guard := some (11, false) }
def oWA1621 (p : String) : Oper := { dst := some 96, op := Op.load 4 (Operand.tmp 95), type := 4, pos := p, after := #[{ on := 20, ground := Ground.data }, { on := 11, ground := Ground.guard }], guard := some (11, false) }
def oWA1622 (p : String) : Oper := { dst := some 97, op := Op.binOp BinOp.neq 4 (Operand.tmp 91) (Operand.tmp 96) 4, type := 4, pos := p, after := #[{ on := 16, ground := Ground.data }, { on := 21, ground := Ground.data }, { on := 11, ground := Ground.guard }], guard := some (11, false) }
def oWA1623 (p : String) : Oper := { dst := some 98, op := Op.pick (Operand.tmp 86) (Operand.const (Value.bool true)) (Operand.tmp 97), type := 4, pos := p, after := #[{ on := 11, ground := Ground.data }, { on := 22, ground := Ground.data }], guard := none }
def oWA1624 (p : String) : Oper := { dst := some 99, op := Op.move (Operand.tmp 98), type := 4, pos := p, after := #[{ on := 23, ground := Ground.data }, { on := 11, ground := Ground.chain }], guard := none }
def oWA1625 (p : String) : Oper := { dst := some 100, op := Op.move (Operand.tmp 10), type := 40, pos := p, after := #[{ on := 24, ground := Ground.guard }], guard := some (24, false) }
def oWA1626 (p : String) : Oper := { dst := some 101, op := Op.move (Operand.tmp 13), type := 3, pos := p, after := #[{ on := 24, ground := Ground.guard }], guard := some (24, false) }
def oWA1627 (p : String) : Oper := { dst := some 102, op := Op.indexAddr 40 (Operand.tmp 100) (Operand.tmp 101), type := 0, pos := p, after := #[{ on := 25, ground := Ground.data }, { on := 26, ground := Ground.data }, { on := 24, ground := Ground.guard }], guard := some (24, false) }
def oWA1628 (p : String) : Oper := { dst := some 103, op := Op.fieldAddr 47 (Operand.tmp 102) 3, type := 0, pos := p, after := #[{ on := 27, ground := Ground.data }, { on := 24, ground := Ground.guard }], guard := some (24, false) }
def oWA1629 (p : String) : Oper := { dst := some 104, op := Op.load 3 (Operand.tmp 103), type := 3, pos := p, after := #[{ on := 28, ground := Ground.data }, { on := 24, ground := Ground.guard }], guard := some (24, false) }
def oWA1630 (p : String) : Oper := { dst := some 105, op := Op.move (Operand.tmp 13), type := 3, pos := p, after := #[{ on := 24, ground := Ground.guard }], guard := some (24, false) }
def oWA1631 (p : String) : Oper := { dst := some 106, op := Op.binOp BinOp.neq 3 (Operand.tmp 104) (Operand.tmp 105) 3, type := 4, pos := p, after := #[{ on := 29, ground := Ground.data }, { on := 30, ground := Ground.data }, { on := 24, ground := Ground.guard }], guard := some (24, false) }
def oWA1632 (p : String) : Oper := { dst := some 107, op := Op.pick (Operand.tmp 99) (Operand.const (Value.bool true)) (Operand.tmp 106), type := 4, pos := p, after := #[{ on := 24, ground := Ground.data }, { on := 31, ground := Ground.data }], guard := none }
def oWA1633 (p : String) : Oper := { dst := some 108, op := Op.move (Operand.tmp 107), type := 4, pos := p, after := #[{ on := 32, ground := Ground.data }, { on := 24, ground := Ground.chain }], guard := none }
def oWA1634 (p : String) : Oper := { dst := some 109, op := Op.move (Operand.tmp 10), type := 40, pos := p, after := #[{ on := 33, ground := Ground.guard }], guard := some (33, false) }
def oWA1635 (p : String) : Oper := { dst := some 110, op := Op.move (Operand.tmp 13), type := 3, pos := p, after := #[{ on := 33, ground := Ground.guard }], guard := some (33, false) }
def oWA1636 (p : String) : Oper := { dst := some 111, op := Op.indexAddr 40 (Operand.tmp 109) (Operand.tmp 110), type := 0, pos := p, after := #[{ on := 34, ground := Ground.data }, { on := 35, ground := Ground.data }, { on := 33, ground := Ground.guard }], guard := some (33, false) }
def oWA1637 (p : String) : Oper := { dst := some 112, op := Op.fieldAddr 47 (Operand.tmp 111) 2, type := 0, pos := p, after := #[{ on := 36, ground := Ground.data }, { on := 33, ground := Ground.guard }], guard := some (33, false) }
def oWA1638 (p : String) : Oper := { dst := some 113, op := Op.load 3 (Operand.tmp 112), type := 3, pos := p, after := #[{ on := 37, ground := Ground.data }, { on := 33, ground := Ground.guard }], guard := some (33, false) }
def oWA1639 (p : String) : Oper := { dst := some 114, op := Op.binOp BinOp.neq 3 (Operand.tmp 113) (Operand.const (Value.int IntKind.i64 0)) 3, type := 4, pos := p, after := #[{ on := 38, ground := Ground.data }, { on := 33, ground := Ground.guard }], guard := some (33, false) }
def oWA1640 (p : String) : Oper := { dst := some 115, op := Op.pick (Operand.tmp 108) (Operand.const (Value.bool true)) (Operand.tmp 114), type := 4, pos := p, after := #[{ on := 33, ground := Ground.data }, { on := 39, ground := Ground.data }], guard := none }
def oWA1641 (p : String) : Oper := { dst := some 116, op := Op.move (Operand.tmp 115), type := 4, pos := p, after := #[{ on := 40, ground := Ground.data }, { on := 33, ground := Ground.chain }], guard := none }
def oWA1642 (p : String) : Oper := { dst := some 117, op := Op.move (Operand.tmp 9), type := 40, pos := p, after := #[{ on := 41, ground := Ground.guard }], guard := some (41, false) }
def oWA1643 (p : String) : Oper := { dst := some 118, op := Op.move (Operand.tmp 13), type := 3, pos := p, after := #[{ on := 41, ground := Ground.guard }], guard := some (41, false) }
def oWA1644 (p : String) : Oper := { dst := some 119, op := Op.indexAddr 40 (Operand.tmp 117) (Operand.tmp 118), type := 0, pos := p, after := #[{ on := 42, ground := Ground.data }, { on := 43, ground := Ground.data }, { on := 41, ground := Ground.guard }], guard := some (41, false) }
def oWA1645 (p : String) : Oper := { dst := some 120, op := Op.fieldAddr 47 (Operand.tmp 119) 3, type := 0, pos := p, after := #[{ on := 44, ground := Ground.data }, { on := 41, ground := Ground.guard }], guard := some (41, false) }
def oWA1646 (p : String) : Oper := { dst := some 121, op := Op.load 3 (Operand.tmp 120), type := 3, pos := p, after := #[{ on := 45, ground := Ground.data }, { on := 41, ground := Ground.guard }], guard := some (41, false) }
def oWA1647 (p : String) : Oper := { dst := some 122, op := Op.binOp BinOp.lss 3 (Operand.tmp 121) (Operand.const (Value.int IntKind.i64 0)) 3, type := 4, pos := p, after := #[{ on := 46, ground := Ground.data }, { on := 41, ground := Ground.guard }], guard := some (41, false) }
def oWA1648 (p : String) : Oper := { dst := some 123, op := Op.pick (Operand.tmp 116) (Operand.const (Value.bool true)) (Operand.tmp 122), type := 4, pos := p, after := #[{ on := 41, ground := Ground.data }, { on := 47, ground := Ground.data }], guard := none }
def oWA1649 (p : String) : Oper := { dst := some 124, op := Op.move (Operand.tmp 123), type := 4, pos := p, after := #[{ on := 48, ground := Ground.data }, { on := 41, ground := Ground.chain }], guard := none }
def oWA1650 (p : String) : Oper := { dst := some 125, op := Op.move (Operand.tmp 9), type := 40, pos := p, after := #[{ on := 49, ground := Ground.guard }], guard := some (49, false) }
def oWA1651 (p : String) : Oper := { dst := some 126, op := Op.move (Operand.tmp 13), type := 3, pos := p, after := #[{ on := 49, ground := Ground.guard }], guard := some (49, false) }
def oWA1652 (p : String) : Oper := { dst := some 127, op := Op.indexAddr 40 (Operand.tmp 125) (Operand.tmp 126), type := 0, pos := p, after := #[{ on := 50, ground := Ground.data }, { on := 51, ground := Ground.data }, { on := 49, ground := Ground.guard }], guard := some (49, false) }
def oWA1653 (p : String) : Oper := { dst := some 128, op := Op.fieldAddr 47 (Operand.tmp 127) 3, type := 0, pos := p, after := #[{ on := 52, ground := Ground.data }, { on := 49, ground := Ground.guard }], guard := some (49, false) }
def oWA1654 (p : String) : Oper := { dst := some 129, op := Op.load 3 (Operand.tmp 128), type := 3, pos := p, after := #[{ on := 53, ground := Ground.data }, { on := 49, ground := Ground.guard }], guard := some (49, false) }
def oWA1655 (p : String) : Oper := { dst := some 130, op := Op.move (Operand.tmp 1), type := 22, pos := p, after := #[{ on := 49, ground := Ground.guard }], guard := some (49, false) }
def oWA1656 (p : String) : Oper := { dst := some 131, op := Op.call { callee := Callee.builtin Builtin.len, args := #[Operand.tmp 130], argTypes := #[22] }, type := 3, pos := p, after := #[{ on := 55, ground := Ground.data }, { on := 49, ground := Ground.guard }], guard := some (49, false) }
def oWA1657 (p : String) : Oper := { dst := some 132, op := Op.binOp BinOp.geq 3 (Operand.tmp 129) (Operand.tmp 131) 3, type := 4, pos := p, after := #[{ on := 54, ground := Ground.data }, { on := 56, ground := Ground.data }, { on := 49, ground := Ground.guard }], guard := some (49, false) }
def oWA1658 (p : String) : Oper := { dst := some 133, op := Op.pick (Operand.tmp 124) (Operand.const (Value.bool true)) (Operand.tmp 132), type := 4, pos := p, after := #[{ on := 49, ground := Ground.data }, { on := 57, ground := Ground.data }], guard := none }
def oWA1659 (p : String) : Oper := { dst := some 134, op := Op.move (Operand.tmp 133), type := 4, pos := p, after := #[{ on := 58, ground := Ground.data }, { on := 49, ground := Ground.chain }], guard := none }
def oWA1660 (p : String) : Oper := { dst := some 135, op := Op.move (Operand.tmp 11), type := 23, pos := p, after := #[{ on := 59, ground := Ground.guard }], guard := some (59, false) }
def oWA1661 (p : String) : Oper := { dst := some 136, op := Op.move (Operand.tmp 9), type := 40, pos := p, after := #[{ on := 59, ground := Ground.guard }], guard := some (59, false) }
def oWA1662 (p : String) : Oper := { dst := some 137, op := Op.move (Operand.tmp 13), type := 3, pos := p, after := #[{ on := 59, ground := Ground.guard }], guard := some (59, false) }
def oWA1663 (p : String) : Oper := { dst := some 138, op := Op.indexAddr 40 (Operand.tmp 136) (Operand.tmp 137), type := 0, pos := p, after := #[{ on := 61, ground := Ground.data }, { on := 62, ground := Ground.data }, { on := 59, ground := Ground.guard }], guard := some (59, false) }
def oWA1664 (p : String) : Oper := { dst := some 139, op := Op.fieldAddr 47 (Operand.tmp 138) 3, type := 0, pos := p, after := #[{ on := 63, ground := Ground.data }, { on := 59, ground := Ground.guard }], guard := some (59, false) }
def oWA1665 (p : String) : Oper := { dst := some 140, op := Op.load 3 (Operand.tmp 139), type := 3, pos := p, after := #[{ on := 64, ground := Ground.data }, { on := 59, ground := Ground.guard }], guard := some (59, false) }
def oWA1666 (p : String) : Oper := { dst := some 141, op := Op.indexAddr 23 (Operand.tmp 135) (Operand.tmp 140), type := 0, pos := p, after := #[{ on := 60, ground := Ground.data }, { on := 65, ground := Ground.data }, { on := 59, ground := Ground.guard }], guard := some (59, false) }
def oWA1667 (p : String) : Oper := { dst := some 142, op := Op.load 3 (Operand.tmp 141), type := 3, pos := p, after := #[{ on := 66, ground := Ground.data }, { on := 59, ground := Ground.guard }], guard := some (59, false) }
def oWA1668 (p : String) : Oper := { dst := some 143, op := Op.binOp BinOp.geq 3 (Operand.tmp 142) (Operand.const (Value.int IntKind.i64 0)) 3, type := 4, pos := p, after := #[{ on := 67, ground := Ground.data }, { on := 59, ground := Ground.guard }], guard := some (59, false) }
def oWA1669 (p : String) : Oper := { dst := some 144, op := Op.pick (Operand.tmp 134) (Operand.const (Value.bool true)) (Operand.tmp 143), type := 4, pos := p, after := #[{ on := 59, ground := Ground.data }, { on := 68, ground := Ground.data }], guard := none }
def opsWA16 (p : String) : List Oper := [oWA160 p, oWA161 p, oWA162 p, oWA163 p, oWA164 p, oWA165 p, oWA166 p, oWA167 p, oWA168 p, oWA169 p, oWA1610 p, oWA1611 p, oWA1612 p, oWA1613 p, oWA1614 p, oWA1615 p, oWA1616 p, oWA1617 p, oWA1618 p, oWA1619 p, oWA1620 p, oWA1621 p, oWA1622 p, oWA1623 p, oWA1624 p, oWA1625 p, oWA1626 p, oWA1627 p, oWA1628 p, oWA1629 p, oWA1630 p, oWA1631 p, oWA1632 p, oWA1633 p, oWA1634 p, oWA1635 p, oWA1636 p, oWA1637 p, oWA1638 p, oWA1639 p, oWA1640 p, oWA1641 p, oWA1642 p, oWA1643 p, oWA1644 p, oWA1645 p, oWA1646 p, oWA1647 p, oWA1648 p, oWA1649 p, oWA1650 p, oWA1651 p, oWA1652 p, oWA1653 p, oWA1654 p, oWA1655 p, oWA1656 p, oWA1657 p, oWA1658 p, oWA1659 p, oWA1660 p, oWA1661 p, oWA1662 p, oWA1663 p, oWA1664 p, oWA1665 p, oWA1666 p, oWA1667 p, oWA1668 p, oWA1669 p]
theorem opsWA16_back (p : String) : backwards (opsWA16 p) = true := by kernel_rfl
theorem opsWA16_slots (p : String) : slotsOk 174 (opsWA16 p) = true := by kernel_rfl
def psiWA16 (x xo xc y yo yc g gc L lc q cd _wv t : Nat) (A : Option Addr) (tx : ByteArray) (fr : Bool) : Nat → Value → World → Prop
  | 0, v, _ => v = .slice (some ⟨x, xo, none⟩) L xc
  | 1, v, _ => v = .int .i64 (q : Int)
  | 2, v, _ => v = .pointer (some ⟨x, xo + q * 5, none⟩)
  | 3, v, _ => v = .pointer (some ⟨x, xo + q * 5 + 0, none⟩)
  | 4, v, _ => v = .agg #[.int .u8 (cd : Int), .string tx]
  | 5, v, _ => v = .slice (some ⟨y, yo, none⟩) L yc
  | 6, v, _ => v = .int .i64 (q : Int)
  | 7, v, _ => v = .pointer (some ⟨y, yo + q * 5, none⟩)
  | 8, v, _ => v = .pointer (some ⟨y, yo + q * 5 + 0, none⟩)
  | 9, v, _ => v = .agg #[.int .u8 (cd : Int), .string tx]
  | 10, v, _ => v = .bool false
  | 11, v, _ => v = .bool false
  | 12, v, _ => v = .slice (some ⟨x, xo, none⟩) L xc
  | 13, v, _ => v = .int .i64 (q : Int)
  | 14, v, _ => v = .pointer (some ⟨x, xo + q * 5, none⟩)
  | 15, v, _ => v = .pointer (some ⟨x, xo + q * 5 + 2, none⟩)
  | 16, v, _ => v = .bool fr
  | 17, v, _ => v = .slice (some ⟨y, yo, none⟩) L yc
  | 18, v, _ => v = .int .i64 (q : Int)
  | 19, v, _ => v = .pointer (some ⟨y, yo + q * 5, none⟩)
  | 20, v, _ => v = .pointer (some ⟨y, yo + q * 5 + 2, none⟩)
  | 21, v, _ => v = .bool fr
  | 22, v, _ => v = .bool false
  | 23, v, _ => v = .bool false
  | 24, v, _ => v = .bool false
  | 25, v, _ => v = .slice (some ⟨y, yo, none⟩) L yc
  | 26, v, _ => v = .int .i64 (q : Int)
  | 27, v, _ => v = .pointer (some ⟨y, yo + q * 5, none⟩)
  | 28, v, _ => v = .pointer (some ⟨y, yo + q * 5 + 4, none⟩)
  | 29, v, _ => v = .int .i64 (q : Int)
  | 30, v, _ => v = .int .i64 (q : Int)
  | 31, v, _ => v = .bool false
  | 32, v, _ => v = .bool false
  | 33, v, _ => v = .bool false
  | 34, v, _ => v = .slice (some ⟨y, yo, none⟩) L yc
  | 35, v, _ => v = .int .i64 (q : Int)
  | 36, v, _ => v = .pointer (some ⟨y, yo + q * 5, none⟩)
  | 37, v, _ => v = .pointer (some ⟨y, yo + q * 5 + 3, none⟩)
  | 38, v, _ => v = .int .i64 ((0 : Nat) : Int)
  | 39, v, _ => v = .bool false
  | 40, v, _ => v = .bool false
  | 41, v, _ => v = .bool false
  | 42, v, _ => v = .slice (some ⟨x, xo, none⟩) L xc
  | 43, v, _ => v = .int .i64 (q : Int)
  | 44, v, _ => v = .pointer (some ⟨x, xo + q * 5, none⟩)
  | 45, v, _ => v = .pointer (some ⟨x, xo + q * 5 + 4, none⟩)
  | 46, v, _ => v = .int .i64 (t : Int)
  | 47, v, _ => v = .bool false
  | 48, v, _ => v = .bool false
  | 49, v, _ => v = .bool false
  | 50, v, _ => v = .slice (some ⟨x, xo, none⟩) L xc
  | 51, v, _ => v = .int .i64 (q : Int)
  | 52, v, _ => v = .pointer (some ⟨x, xo + q * 5, none⟩)
  | 53, v, _ => v = .pointer (some ⟨x, xo + q * 5 + 4, none⟩)
  | 54, v, _ => v = .int .i64 (t : Int)
  | 55, v, _ => v = .slice A L lc
  | 56, v, _ => v = .int .i64 (L : Int)
  | 57, v, _ => v = .bool false
  | 58, v, _ => v = .bool false
  | 59, v, _ => v = .bool false
  | 60, v, _ => v = .slice (some ⟨g, 0, none⟩) L gc
  | 61, v, _ => v = .slice (some ⟨x, xo, none⟩) L xc
  | 62, v, _ => v = .int .i64 (q : Int)
  | 63, v, _ => v = .pointer (some ⟨x, xo + q * 5, none⟩)
  | 64, v, _ => v = .pointer (some ⟨x, xo + q * 5 + 4, none⟩)
  | 65, v, _ => v = .int .i64 (t : Int)
  | 66, v, _ => v = .pointer (some ⟨g, 0 + t, none⟩)
  | 67, v, _ => v = .int .i64 (-1)
  | 68, v, _ => v = .bool false
  | 69, v, _ => v = .bool false
  | _, _, _ => True
theorem psiWA16_grew (x xo xc y yo yc g gc L lc q cd wv t : Nat) (A : Option Addr) (tx : ByteArray) (fr : Bool) : ∀ i v w w', psiWA16 x xo xc y yo yc g gc L lc q cd wv t A tx fr i v w → Grew w w' → psiWA16 x xo xc y yo yc g gc L lc q cd wv t A tx fr i v w' := by
  intro i v w w' h hg
  rcases i with _ | _ | _ | _ | _ | _ | _ | _ | _ | _ | _ | _ | _ | _ | _ | _ | _ | _ | _ | _ | _ | _ | _ | _ | _ | _ | _ | _ | _ | _ | _ | _ | _ | _ | _ | _ | _ | _ | _ | _ | _ | _ | _ | _ | _ | _ | _ | _ | _ | _ | _ | _ | _ | _ | _ | _ | _ | _ | _ | _ | _ | _ | _ | _ | _ | _ | _ | _ | _ | _ | i
  · exact h
  · exact h
  · exact h
  · exact h
  · exact h
  · exact h
  · exact h
  · exact h
  · exact h
  · exact h
  · exact h
  · exact h
  · exact h
  · exact h
  · exact h
  · exact h
  · exact h
  · exact h
  · exact h
  · exact h
  · exact h
  · exact h
  · exact h
  · exact h
  · exact h
  · exact h
  · exact h
  · exact h
  · exact h
  · exact h
  · exact h
  · exact h
  · exact h
  · exact h
  · exact h
  · exact h
  · exact h
  · exact h
  · exact h
  · exact h
  · exact h
  · exact h
  · exact h
  · exact h
  · exact h
  · exact h
  · exact h
  · exact h
  · exact h
  · exact h
  · exact h
  · exact h
  · exact h
  · exact h
  · exact h
  · exact h
  · exact h
  · exact h
  · exact h
  · exact h
  · exact h
  · exact h
  · exact h
  · exact h
  · exact h
  · exact h
  · exact h
  · exact h
  · exact h
  · exact h
  · trivial
set_option maxRecDepth 100000 in
set_option maxHeartbeats 4000000 in
theorem wahold {p : String} (x xo xc y yo yc g gc L lc q cd wv t : Nat) (A : Option Addr) (tx : ByteArray) (fr : Bool) (hq : q < L) (ht : t < L) (a : Act) (w : World) (Q : Exit → Act → World → Prop) (hN : a.tmps.size = 174) (h1 : a.tmps.getD 1 undef = .slice A L lc) (h9 : a.tmps.getD 9 undef = .slice (some ⟨x, xo, none⟩) L xc) (h10 : a.tmps.getD 10 undef = .slice (some ⟨y, yo, none⟩) L yc) (h11 : a.tmps.getD 11 undef = .slice (some ⟨g, 0, none⟩) L gc) (h13 : a.tmps.getD 13 undef = .int .i64 (q : Int)) (hxl : x < w.heap.size) (hyl : y < w.heap.size) (hxc : ∀ i u, (⟨cd, tx, fr, wv, t⟩ : DV).cells[i]? = some u → w.cell? ⟨x, xo + q * 5 + i, none⟩ = some u) (hyc : ∀ i u, (⟨cd, tx, fr, 0, q⟩ : DV).cells[i]? = some u → w.cell? ⟨y, yo + q * 5 + i, none⟩ = some u) (hgl : g < w.heap.size) (hgc : w.cell? ⟨g, t, none⟩ = some (.int .i64 (-1))) (hQ : ∀ (w' : World), Grew w w' → Q .normal (puts [(75, .slice (some ⟨x, xo, none⟩) L xc), (76, .int .i64 (q : Int)), (77, .pointer (some ⟨x, xo + q * 5, none⟩)), (78, .pointer (some ⟨x, xo + q * 5 + 0, none⟩)), (79, .agg #[.int .u8 (cd : Int), .string tx]), (80, .slice (some ⟨y, yo, none⟩) L yc), (81, .int .i64 (q : Int)), (82, .pointer (some ⟨y, yo + q * 5, none⟩)), (83, .pointer (some ⟨y, yo + q * 5 + 0, none⟩)), (84, .agg #[.int .u8 (cd : Int), .string tx]), (85, .bool false), (86, .bool false), (87, .slice (some ⟨x, xo, none⟩) L xc), (88, .int .i64 (q : Int)), (89, .pointer (some ⟨x, xo + q * 5, none⟩)), (90, .pointer (some ⟨x, xo + q * 5 + 2, none⟩)), (91, .bool fr), (92, .slice (some ⟨y, yo, none⟩) L yc), (93, .int .i64 (q : Int)), (94, .pointer (some ⟨y, yo + q * 5, none⟩)), (95, .pointer (some ⟨y, yo + q * 5 + 2, none⟩)), (96, .bool fr), (97, .bool false), (98, .bool false), (99, .bool false), (100, .slice (some ⟨y, yo, none⟩) L yc), (101, .int .i64 (q : Int)), (102, .pointer (some ⟨y, yo + q * 5, none⟩)), (103, .pointer (some ⟨y, yo + q * 5 + 4, none⟩)), (104, .int .i64 (q : Int)), (105, .int .i64 (q : Int)), (106, .bool false), (107, .bool false), (108, .bool false), (109, .slice (some ⟨y, yo, none⟩) L yc), (110, .int .i64 (q : Int)), (111, .pointer (some ⟨y, yo + q * 5, none⟩)), (112, .pointer (some ⟨y, yo + q * 5 + 3, none⟩)), (113, .int .i64 ((0 : Nat) : Int)), (114, .bool false), (115, .bool false), (116, .bool false), (117, .slice (some ⟨x, xo, none⟩) L xc), (118, .int .i64 (q : Int)), (119, .pointer (some ⟨x, xo + q * 5, none⟩)), (120, .pointer (some ⟨x, xo + q * 5 + 4, none⟩)), (121, .int .i64 (t : Int)), (122, .bool false), (123, .bool false), (124, .bool false), (125, .slice (some ⟨x, xo, none⟩) L xc), (126, .int .i64 (q : Int)), (127, .pointer (some ⟨x, xo + q * 5, none⟩)), (128, .pointer (some ⟨x, xo + q * 5 + 4, none⟩)), (129, .int .i64 (t : Int)), (130, .slice A L lc), (131, .int .i64 (L : Int)), (132, .bool false), (133, .bool false), (134, .bool false), (135, .slice (some ⟨g, 0, none⟩) L gc), (136, .slice (some ⟨x, xo, none⟩) L xc), (137, .int .i64 (q : Int)), (138, .pointer (some ⟨x, xo + q * 5, none⟩)), (139, .pointer (some ⟨x, xo + q * 5 + 4, none⟩)), (140, .int .i64 (t : Int)), (141, .pointer (some ⟨g, 0 + t, none⟩)), (142, .int .i64 (-1)), (143, .bool false), (144, .bool false)] a) w')
    : (Code.region 16 (opsWA16 p).toArray true).wp Tryz.prog Q a w := by
  refine (wpIn_wide (n := 1)).1 (wpIn_region_vals 174 hN follows (opsWA16_back p) (opsWA16_slots p) Grew Grew.refl Grew.trans (psiWA16 x xo xc y yo yc g gc L lc q cd wv t A tx fr) (psiWA16_grew x xo xc y yo yc g gc L lc q cd wv t A tx fr) ?_ ?_)
  · intro i o d ho hd a' w' hF hR hp
    rcases i with _ | _ | _ | _ | _ | _ | _ | _ | _ | _ | _ | _ | _ | _ | _ | _ | _ | _ | _ | _ | _ | _ | _ | _ | _ | _ | _ | _ | _ | _ | _ | _ | _ | _ | _ | _ | _ | _ | _ | _ | _ | _ | _ | _ | _ | _ | _ | _ | _ | _ | _ | _ | _ | _ | _ | _ | _ | _ | _ | _ | _ | _ | _ | _ | _ | _ | _ | _ | _ | _ | i
    · obtain rfl : oWA160 p = o := Option.some.inj ho
      obtain rfl : 75 = d := Option.some.inj hd
      exact step_move rfl rfl rfl (hF.at 9 rfl h9) ⟨_, rfl, rfl, Grew.refl _⟩
    · obtain rfl : oWA161 p = o := Option.some.inj ho
      obtain rfl : 76 = d := Option.some.inj hd
      exact step_move rfl rfl rfl (hF.at 13 rfl h13) ⟨_, rfl, rfl, Grew.refl _⟩
    · obtain rfl : oWA162 p = o := Option.some.inj ho
      obtain rfl : 77 = d := Option.some.inj hd
      have q0 : a'.tmps.getD 75 undef = .slice (some ⟨x, xo, none⟩) L xc := hp 0 (oWA160 p) 75 rfl rfl rfl
      have q1 : a'.tmps.getD 76 undef = .int .i64 (q : Int) := hp 1 (oWA161 p) 76 rfl rfl rfl
      exact step_index rfl rfl rfl q0 q1 (run_ixD _ _ _ _ _ _ hq) ⟨_, rfl, rfl, Grew.refl _⟩
    · obtain rfl : oWA163 p = o := Option.some.inj ho
      obtain rfl : 78 = d := Option.some.inj hd
      have q2 : a'.tmps.getD 77 undef = .pointer (some ⟨x, xo + q * 5, none⟩) := hp 2 (oWA162 p) 77 rfl rfl rfl
      exact step_fieldF rfl rfl rfl q2 (run_fdD0 _ _ _) ⟨_, rfl, rfl, Grew.refl _⟩
    · obtain rfl : oWA164 p = o := Option.some.inj ho
      obtain rfl : 79 = d := Option.some.inj hd
      have q3 : a'.tmps.getD 78 undef = .pointer (some ⟨x, xo + q * 5 + 0, none⟩) := hp 3 (oWA163 p) 78 rfl rfl rfl
      exact step_load rfl rfl rfl q3 (run_ldRepD _ _ _ (⟨cd, tx, fr, wv, t⟩ : DV) (fun i u hu => (Below.cell hR.undraw (p := ⟨x, xo + q * 5 + i, none⟩) hxl).trans (hxc i u hu))) ⟨_, rfl, rfl, Grew.refl _⟩
    · obtain rfl : oWA165 p = o := Option.some.inj ho
      obtain rfl : 80 = d := Option.some.inj hd
      exact step_move rfl rfl rfl (hF.at 10 rfl h10) ⟨_, rfl, rfl, Grew.refl _⟩
    · obtain rfl : oWA166 p = o := Option.some.inj ho
      obtain rfl : 81 = d := Option.some.inj hd
      exact step_move rfl rfl rfl (hF.at 13 rfl h13) ⟨_, rfl, rfl, Grew.refl _⟩
    · obtain rfl : oWA167 p = o := Option.some.inj ho
      obtain rfl : 82 = d := Option.some.inj hd
      have q5 : a'.tmps.getD 80 undef = .slice (some ⟨y, yo, none⟩) L yc := hp 5 (oWA165 p) 80 rfl rfl rfl
      have q6 : a'.tmps.getD 81 undef = .int .i64 (q : Int) := hp 6 (oWA166 p) 81 rfl rfl rfl
      exact step_index rfl rfl rfl q5 q6 (run_ixD _ _ _ _ _ _ hq) ⟨_, rfl, rfl, Grew.refl _⟩
    · obtain rfl : oWA168 p = o := Option.some.inj ho
      obtain rfl : 83 = d := Option.some.inj hd
      have q7 : a'.tmps.getD 82 undef = .pointer (some ⟨y, yo + q * 5, none⟩) := hp 7 (oWA167 p) 82 rfl rfl rfl
      exact step_fieldF rfl rfl rfl q7 (run_fdD0 _ _ _) ⟨_, rfl, rfl, Grew.refl _⟩
    · obtain rfl : oWA169 p = o := Option.some.inj ho
      obtain rfl : 84 = d := Option.some.inj hd
      have q8 : a'.tmps.getD 83 undef = .pointer (some ⟨y, yo + q * 5 + 0, none⟩) := hp 8 (oWA168 p) 83 rfl rfl rfl
      exact step_load rfl rfl rfl q8 (run_ldRepD _ _ _ (⟨cd, tx, fr, 0, q⟩ : DV) (fun i u hu => (Below.cell hR.undraw (p := ⟨y, yo + q * 5 + i, none⟩) hyl).trans (hyc i u hu))) ⟨_, rfl, rfl, Grew.refl _⟩
    · obtain rfl : oWA1610 p = o := Option.some.inj ho
      obtain rfl : 85 = d := Option.some.inj hd
      have q4 : a'.tmps.getD 79 undef = .agg #[.int .u8 (cd : Int), .string tx] := hp 4 (oWA164 p) 79 rfl rfl rfl
      have q9 : a'.tmps.getD 84 undef = .agg #[.int .u8 (cd : Int), .string tx] := hp 9 (oWA169 p) 84 rfl rfl rfl
      exact step_bin rfl rfl rfl q4 q9 (guard_repD _ _ _ _ _ _ _ _) (run_neRepD _ _ _) ⟨_, rfl, rfl, Grew.refl _⟩
    · obtain rfl : oWA1611 p = o := Option.some.inj ho
      obtain rfl : 86 = d := Option.some.inj hd
      have q10 : a'.tmps.getD 85 undef = .bool false := hp 10 (oWA1610 p) 85 rfl rfl rfl
      exact step_move rfl rfl rfl q10 ⟨_, rfl, rfl, Grew.refl _⟩
    · obtain rfl : oWA1612 p = o := Option.some.inj ho
      obtain rfl : 87 = d := Option.some.inj hd
      have q11 : a'.tmps.getD 86 undef = .bool false := hp 11 (oWA1611 p) 86 rfl rfl rfl
      exact step_move rfl (wanted_on rfl (show (opsWA16 p).toArray[11]? = some (oWA1611 p) from rfl) rfl q11) rfl (hF.at 9 rfl h9) ⟨_, rfl, rfl, Grew.refl _⟩
    · obtain rfl : oWA1613 p = o := Option.some.inj ho
      obtain rfl : 88 = d := Option.some.inj hd
      have q11 : a'.tmps.getD 86 undef = .bool false := hp 11 (oWA1611 p) 86 rfl rfl rfl
      exact step_move rfl (wanted_on rfl (show (opsWA16 p).toArray[11]? = some (oWA1611 p) from rfl) rfl q11) rfl (hF.at 13 rfl h13) ⟨_, rfl, rfl, Grew.refl _⟩
    · obtain rfl : oWA1614 p = o := Option.some.inj ho
      obtain rfl : 89 = d := Option.some.inj hd
      have q11 : a'.tmps.getD 86 undef = .bool false := hp 11 (oWA1611 p) 86 rfl rfl rfl
      have q12 : a'.tmps.getD 87 undef = .slice (some ⟨x, xo, none⟩) L xc := hp 12 (oWA1612 p) 87 rfl rfl rfl
      have q13 : a'.tmps.getD 88 undef = .int .i64 (q : Int) := hp 13 (oWA1613 p) 88 rfl rfl rfl
      exact step_index rfl (wanted_on rfl (show (opsWA16 p).toArray[11]? = some (oWA1611 p) from rfl) rfl q11) rfl q12 q13 (run_ixD _ _ _ _ _ _ hq) ⟨_, rfl, rfl, Grew.refl _⟩
    · obtain rfl : oWA1615 p = o := Option.some.inj ho
      obtain rfl : 90 = d := Option.some.inj hd
      have q11 : a'.tmps.getD 86 undef = .bool false := hp 11 (oWA1611 p) 86 rfl rfl rfl
      have q14 : a'.tmps.getD 89 undef = .pointer (some ⟨x, xo + q * 5, none⟩) := hp 14 (oWA1614 p) 89 rfl rfl rfl
      exact step_fieldF rfl (wanted_on rfl (show (opsWA16 p).toArray[11]? = some (oWA1611 p) from rfl) rfl q11) rfl q14 (run_fdD1 _ _ _) ⟨_, rfl, rfl, Grew.refl _⟩
    · obtain rfl : oWA1616 p = o := Option.some.inj ho
      obtain rfl : 91 = d := Option.some.inj hd
      have q11 : a'.tmps.getD 86 undef = .bool false := hp 11 (oWA1611 p) 86 rfl rfl rfl
      have q15 : a'.tmps.getD 90 undef = .pointer (some ⟨x, xo + q * 5 + 2, none⟩) := hp 15 (oWA1615 p) 90 rfl rfl rfl
      exact step_load rfl (wanted_on rfl (show (opsWA16 p).toArray[11]? = some (oWA1611 p) from rfl) rfl q11) rfl q15 (run_ldFrD _ _ _ (⟨cd, tx, fr, wv, t⟩ : DV) (fun i u hu => (Below.cell hR.undraw (p := ⟨x, xo + q * 5 + i, none⟩) hxl).trans (hxc i u hu))) ⟨_, rfl, rfl, Grew.refl _⟩
    · obtain rfl : oWA1617 p = o := Option.some.inj ho
      obtain rfl : 92 = d := Option.some.inj hd
      have q11 : a'.tmps.getD 86 undef = .bool false := hp 11 (oWA1611 p) 86 rfl rfl rfl
      exact step_move rfl (wanted_on rfl (show (opsWA16 p).toArray[11]? = some (oWA1611 p) from rfl) rfl q11) rfl (hF.at 10 rfl h10) ⟨_, rfl, rfl, Grew.refl _⟩
    · obtain rfl : oWA1618 p = o := Option.some.inj ho
      obtain rfl : 93 = d := Option.some.inj hd
      have q11 : a'.tmps.getD 86 undef = .bool false := hp 11 (oWA1611 p) 86 rfl rfl rfl
      exact step_move rfl (wanted_on rfl (show (opsWA16 p).toArray[11]? = some (oWA1611 p) from rfl) rfl q11) rfl (hF.at 13 rfl h13) ⟨_, rfl, rfl, Grew.refl _⟩
    · obtain rfl : oWA1619 p = o := Option.some.inj ho
      obtain rfl : 94 = d := Option.some.inj hd
      have q11 : a'.tmps.getD 86 undef = .bool false := hp 11 (oWA1611 p) 86 rfl rfl rfl
      have q17 : a'.tmps.getD 92 undef = .slice (some ⟨y, yo, none⟩) L yc := hp 17 (oWA1617 p) 92 rfl rfl rfl
      have q18 : a'.tmps.getD 93 undef = .int .i64 (q : Int) := hp 18 (oWA1618 p) 93 rfl rfl rfl
      exact step_index rfl (wanted_on rfl (show (opsWA16 p).toArray[11]? = some (oWA1611 p) from rfl) rfl q11) rfl q17 q18 (run_ixD _ _ _ _ _ _ hq) ⟨_, rfl, rfl, Grew.refl _⟩
    · obtain rfl : oWA1620 p = o := Option.some.inj ho
      obtain rfl : 95 = d := Option.some.inj hd
      have q11 : a'.tmps.getD 86 undef = .bool false := hp 11 (oWA1611 p) 86 rfl rfl rfl
      have q19 : a'.tmps.getD 94 undef = .pointer (some ⟨y, yo + q * 5, none⟩) := hp 19 (oWA1619 p) 94 rfl rfl rfl
      exact step_fieldF rfl (wanted_on rfl (show (opsWA16 p).toArray[11]? = some (oWA1611 p) from rfl) rfl q11) rfl q19 (run_fdD1 _ _ _) ⟨_, rfl, rfl, Grew.refl _⟩
    · obtain rfl : oWA1621 p = o := Option.some.inj ho
      obtain rfl : 96 = d := Option.some.inj hd
      have q11 : a'.tmps.getD 86 undef = .bool false := hp 11 (oWA1611 p) 86 rfl rfl rfl
      have q20 : a'.tmps.getD 95 undef = .pointer (some ⟨y, yo + q * 5 + 2, none⟩) := hp 20 (oWA1620 p) 95 rfl rfl rfl
      exact step_load rfl (wanted_on rfl (show (opsWA16 p).toArray[11]? = some (oWA1611 p) from rfl) rfl q11) rfl q20 (run_ldFrD _ _ _ (⟨cd, tx, fr, 0, q⟩ : DV) (fun i u hu => (Below.cell hR.undraw (p := ⟨y, yo + q * 5 + i, none⟩) hyl).trans (hyc i u hu))) ⟨_, rfl, rfl, Grew.refl _⟩
    · obtain rfl : oWA1622 p = o := Option.some.inj ho
      obtain rfl : 97 = d := Option.some.inj hd
      have q11 : a'.tmps.getD 86 undef = .bool false := hp 11 (oWA1611 p) 86 rfl rfl rfl
      have q16 : a'.tmps.getD 91 undef = .bool fr := hp 16 (oWA1616 p) 91 rfl rfl rfl
      have q21 : a'.tmps.getD 96 undef = .bool fr := hp 21 (oWA1621 p) 96 rfl rfl rfl
      exact step_bin rfl (wanted_on rfl (show (opsWA16 p).toArray[11]? = some (oWA1611 p) from rfl) rfl q11) rfl q16 q21 (guard_bool _ _ _ _ _ _ _) (run_neBD _ _) ⟨_, rfl, rfl, Grew.refl _⟩
    · obtain rfl : oWA1623 p = o := Option.some.inj ho
      obtain rfl : 98 = d := Option.some.inj hd
      have q11 : a'.tmps.getD 86 undef = .bool false := hp 11 (oWA1611 p) 86 rfl rfl rfl
      have q22 : a'.tmps.getD 97 undef = .bool false := hp 22 (oWA1622 p) 97 rfl rfl rfl
      exact step_pick rfl rfl rfl q11 (show (if false = true then _ else a'.tmps.getD 97 undef) = _ from q22) ⟨_, rfl, rfl, Grew.refl _⟩
    · obtain rfl : oWA1624 p = o := Option.some.inj ho
      obtain rfl : 99 = d := Option.some.inj hd
      have q23 : a'.tmps.getD 98 undef = .bool false := hp 23 (oWA1623 p) 98 rfl rfl rfl
      exact step_move rfl rfl rfl q23 ⟨_, rfl, rfl, Grew.refl _⟩
    · obtain rfl : oWA1625 p = o := Option.some.inj ho
      obtain rfl : 100 = d := Option.some.inj hd
      have q24 : a'.tmps.getD 99 undef = .bool false := hp 24 (oWA1624 p) 99 rfl rfl rfl
      exact step_move rfl (wanted_on rfl (show (opsWA16 p).toArray[24]? = some (oWA1624 p) from rfl) rfl q24) rfl (hF.at 10 rfl h10) ⟨_, rfl, rfl, Grew.refl _⟩
    · obtain rfl : oWA1626 p = o := Option.some.inj ho
      obtain rfl : 101 = d := Option.some.inj hd
      have q24 : a'.tmps.getD 99 undef = .bool false := hp 24 (oWA1624 p) 99 rfl rfl rfl
      exact step_move rfl (wanted_on rfl (show (opsWA16 p).toArray[24]? = some (oWA1624 p) from rfl) rfl q24) rfl (hF.at 13 rfl h13) ⟨_, rfl, rfl, Grew.refl _⟩
    · obtain rfl : oWA1627 p = o := Option.some.inj ho
      obtain rfl : 102 = d := Option.some.inj hd
      have q24 : a'.tmps.getD 99 undef = .bool false := hp 24 (oWA1624 p) 99 rfl rfl rfl
      have q25 : a'.tmps.getD 100 undef = .slice (some ⟨y, yo, none⟩) L yc := hp 25 (oWA1625 p) 100 rfl rfl rfl
      have q26 : a'.tmps.getD 101 undef = .int .i64 (q : Int) := hp 26 (oWA1626 p) 101 rfl rfl rfl
      exact step_index rfl (wanted_on rfl (show (opsWA16 p).toArray[24]? = some (oWA1624 p) from rfl) rfl q24) rfl q25 q26 (run_ixD _ _ _ _ _ _ hq) ⟨_, rfl, rfl, Grew.refl _⟩
    · obtain rfl : oWA1628 p = o := Option.some.inj ho
      obtain rfl : 103 = d := Option.some.inj hd
      have q24 : a'.tmps.getD 99 undef = .bool false := hp 24 (oWA1624 p) 99 rfl rfl rfl
      have q27 : a'.tmps.getD 102 undef = .pointer (some ⟨y, yo + q * 5, none⟩) := hp 27 (oWA1627 p) 102 rfl rfl rfl
      exact step_fieldF rfl (wanted_on rfl (show (opsWA16 p).toArray[24]? = some (oWA1624 p) from rfl) rfl q24) rfl q27 (run_fdD3 _ _ _) ⟨_, rfl, rfl, Grew.refl _⟩
    · obtain rfl : oWA1629 p = o := Option.some.inj ho
      obtain rfl : 104 = d := Option.some.inj hd
      have q24 : a'.tmps.getD 99 undef = .bool false := hp 24 (oWA1624 p) 99 rfl rfl rfl
      have q28 : a'.tmps.getD 103 undef = .pointer (some ⟨y, yo + q * 5 + 4, none⟩) := hp 28 (oWA1628 p) 103 rfl rfl rfl
      exact step_load rfl (wanted_on rfl (show (opsWA16 p).toArray[24]? = some (oWA1624 p) from rfl) rfl q24) rfl q28 (run_ldTnD _ _ _ (⟨cd, tx, fr, 0, q⟩ : DV) (fun i u hu => (Below.cell hR.undraw (p := ⟨y, yo + q * 5 + i, none⟩) hyl).trans (hyc i u hu))) ⟨_, rfl, rfl, Grew.refl _⟩
    · obtain rfl : oWA1630 p = o := Option.some.inj ho
      obtain rfl : 105 = d := Option.some.inj hd
      have q24 : a'.tmps.getD 99 undef = .bool false := hp 24 (oWA1624 p) 99 rfl rfl rfl
      exact step_move rfl (wanted_on rfl (show (opsWA16 p).toArray[24]? = some (oWA1624 p) from rfl) rfl q24) rfl (hF.at 13 rfl h13) ⟨_, rfl, rfl, Grew.refl _⟩
    · obtain rfl : oWA1631 p = o := Option.some.inj ho
      obtain rfl : 106 = d := Option.some.inj hd
      have q24 : a'.tmps.getD 99 undef = .bool false := hp 24 (oWA1624 p) 99 rfl rfl rfl
      have q29 : a'.tmps.getD 104 undef = .int .i64 (q : Int) := hp 29 (oWA1629 p) 104 rfl rfl rfl
      have q30 : a'.tmps.getD 105 undef = .int .i64 (q : Int) := hp 30 (oWA1630 p) 105 rfl rfl rfl
      exact step_bin rfl (wanted_on rfl (show (opsWA16 p).toArray[24]? = some (oWA1624 p) from rfl) rfl q24) rfl q29 q30 (guard_int _ _ _ _ _ _ _ _ _) (run_neND _ _) ⟨_, rfl, rfl, Grew.refl _⟩
    · obtain rfl : oWA1632 p = o := Option.some.inj ho
      obtain rfl : 107 = d := Option.some.inj hd
      have q24 : a'.tmps.getD 99 undef = .bool false := hp 24 (oWA1624 p) 99 rfl rfl rfl
      have q31 : a'.tmps.getD 106 undef = .bool false := hp 31 (oWA1631 p) 106 rfl rfl rfl
      exact step_pick rfl rfl rfl q24 (show (if false = true then _ else a'.tmps.getD 106 undef) = _ from q31) ⟨_, rfl, rfl, Grew.refl _⟩
    · obtain rfl : oWA1633 p = o := Option.some.inj ho
      obtain rfl : 108 = d := Option.some.inj hd
      have q32 : a'.tmps.getD 107 undef = .bool false := hp 32 (oWA1632 p) 107 rfl rfl rfl
      exact step_move rfl rfl rfl q32 ⟨_, rfl, rfl, Grew.refl _⟩
    · obtain rfl : oWA1634 p = o := Option.some.inj ho
      obtain rfl : 109 = d := Option.some.inj hd
      have q33 : a'.tmps.getD 108 undef = .bool false := hp 33 (oWA1633 p) 108 rfl rfl rfl
      exact step_move rfl (wanted_on rfl (show (opsWA16 p).toArray[33]? = some (oWA1633 p) from rfl) rfl q33) rfl (hF.at 10 rfl h10) ⟨_, rfl, rfl, Grew.refl _⟩
    · obtain rfl : oWA1635 p = o := Option.some.inj ho
      obtain rfl : 110 = d := Option.some.inj hd
      have q33 : a'.tmps.getD 108 undef = .bool false := hp 33 (oWA1633 p) 108 rfl rfl rfl
      exact step_move rfl (wanted_on rfl (show (opsWA16 p).toArray[33]? = some (oWA1633 p) from rfl) rfl q33) rfl (hF.at 13 rfl h13) ⟨_, rfl, rfl, Grew.refl _⟩
    · obtain rfl : oWA1636 p = o := Option.some.inj ho
      obtain rfl : 111 = d := Option.some.inj hd
      have q33 : a'.tmps.getD 108 undef = .bool false := hp 33 (oWA1633 p) 108 rfl rfl rfl
      have q34 : a'.tmps.getD 109 undef = .slice (some ⟨y, yo, none⟩) L yc := hp 34 (oWA1634 p) 109 rfl rfl rfl
      have q35 : a'.tmps.getD 110 undef = .int .i64 (q : Int) := hp 35 (oWA1635 p) 110 rfl rfl rfl
      exact step_index rfl (wanted_on rfl (show (opsWA16 p).toArray[33]? = some (oWA1633 p) from rfl) rfl q33) rfl q34 q35 (run_ixD _ _ _ _ _ _ hq) ⟨_, rfl, rfl, Grew.refl _⟩
    · obtain rfl : oWA1637 p = o := Option.some.inj ho
      obtain rfl : 112 = d := Option.some.inj hd
      have q33 : a'.tmps.getD 108 undef = .bool false := hp 33 (oWA1633 p) 108 rfl rfl rfl
      have q36 : a'.tmps.getD 111 undef = .pointer (some ⟨y, yo + q * 5, none⟩) := hp 36 (oWA1636 p) 111 rfl rfl rfl
      exact step_fieldF rfl (wanted_on rfl (show (opsWA16 p).toArray[33]? = some (oWA1633 p) from rfl) rfl q33) rfl q36 (run_fdD2 _ _ _) ⟨_, rfl, rfl, Grew.refl _⟩
    · obtain rfl : oWA1638 p = o := Option.some.inj ho
      obtain rfl : 113 = d := Option.some.inj hd
      have q33 : a'.tmps.getD 108 undef = .bool false := hp 33 (oWA1633 p) 108 rfl rfl rfl
      have q37 : a'.tmps.getD 112 undef = .pointer (some ⟨y, yo + q * 5 + 3, none⟩) := hp 37 (oWA1637 p) 112 rfl rfl rfl
      exact step_load rfl (wanted_on rfl (show (opsWA16 p).toArray[33]? = some (oWA1633 p) from rfl) rfl q33) rfl q37 (run_ldWvD _ _ _ (⟨cd, tx, fr, 0, q⟩ : DV) (fun i u hu => (Below.cell hR.undraw (p := ⟨y, yo + q * 5 + i, none⟩) hyl).trans (hyc i u hu))) ⟨_, rfl, rfl, Grew.refl _⟩
    · obtain rfl : oWA1639 p = o := Option.some.inj ho
      obtain rfl : 114 = d := Option.some.inj hd
      have q33 : a'.tmps.getD 108 undef = .bool false := hp 33 (oWA1633 p) 108 rfl rfl rfl
      have q38 : a'.tmps.getD 113 undef = .int .i64 ((0 : Nat) : Int) := hp 38 (oWA1638 p) 113 rfl rfl rfl
      exact step_bin rfl (wanted_on rfl (show (opsWA16 p).toArray[33]? = some (oWA1633 p) from rfl) rfl q33) rfl q38 rfl (guard_int _ _ _ _ _ _ _ _ _) (run_neND _ _) ⟨_, rfl, rfl, Grew.refl _⟩
    · obtain rfl : oWA1640 p = o := Option.some.inj ho
      obtain rfl : 115 = d := Option.some.inj hd
      have q33 : a'.tmps.getD 108 undef = .bool false := hp 33 (oWA1633 p) 108 rfl rfl rfl
      have q39 : a'.tmps.getD 114 undef = .bool false := hp 39 (oWA1639 p) 114 rfl rfl rfl
      exact step_pick rfl rfl rfl q33 (show (if false = true then _ else a'.tmps.getD 114 undef) = _ from q39) ⟨_, rfl, rfl, Grew.refl _⟩
    · obtain rfl : oWA1641 p = o := Option.some.inj ho
      obtain rfl : 116 = d := Option.some.inj hd
      have q40 : a'.tmps.getD 115 undef = .bool false := hp 40 (oWA1640 p) 115 rfl rfl rfl
      exact step_move rfl rfl rfl q40 ⟨_, rfl, rfl, Grew.refl _⟩
    · obtain rfl : oWA1642 p = o := Option.some.inj ho
      obtain rfl : 117 = d := Option.some.inj hd
      have q41 : a'.tmps.getD 116 undef = .bool false := hp 41 (oWA1641 p) 116 rfl rfl rfl
      exact step_move rfl (wanted_on rfl (show (opsWA16 p).toArray[41]? = some (oWA1641 p) from rfl) rfl q41) rfl (hF.at 9 rfl h9) ⟨_, rfl, rfl, Grew.refl _⟩
    · obtain rfl : oWA1643 p = o := Option.some.inj ho
      obtain rfl : 118 = d := Option.some.inj hd
      have q41 : a'.tmps.getD 116 undef = .bool false := hp 41 (oWA1641 p) 116 rfl rfl rfl
      exact step_move rfl (wanted_on rfl (show (opsWA16 p).toArray[41]? = some (oWA1641 p) from rfl) rfl q41) rfl (hF.at 13 rfl h13) ⟨_, rfl, rfl, Grew.refl _⟩
    · obtain rfl : oWA1644 p = o := Option.some.inj ho
      obtain rfl : 119 = d := Option.some.inj hd
      have q41 : a'.tmps.getD 116 undef = .bool false := hp 41 (oWA1641 p) 116 rfl rfl rfl
      have q42 : a'.tmps.getD 117 undef = .slice (some ⟨x, xo, none⟩) L xc := hp 42 (oWA1642 p) 117 rfl rfl rfl
      have q43 : a'.tmps.getD 118 undef = .int .i64 (q : Int) := hp 43 (oWA1643 p) 118 rfl rfl rfl
      exact step_index rfl (wanted_on rfl (show (opsWA16 p).toArray[41]? = some (oWA1641 p) from rfl) rfl q41) rfl q42 q43 (run_ixD _ _ _ _ _ _ hq) ⟨_, rfl, rfl, Grew.refl _⟩
    · obtain rfl : oWA1645 p = o := Option.some.inj ho
      obtain rfl : 120 = d := Option.some.inj hd
      have q41 : a'.tmps.getD 116 undef = .bool false := hp 41 (oWA1641 p) 116 rfl rfl rfl
      have q44 : a'.tmps.getD 119 undef = .pointer (some ⟨x, xo + q * 5, none⟩) := hp 44 (oWA1644 p) 119 rfl rfl rfl
      exact step_fieldF rfl (wanted_on rfl (show (opsWA16 p).toArray[41]? = some (oWA1641 p) from rfl) rfl q41) rfl q44 (run_fdD3 _ _ _) ⟨_, rfl, rfl, Grew.refl _⟩
    · obtain rfl : oWA1646 p = o := Option.some.inj ho
      obtain rfl : 121 = d := Option.some.inj hd
      have q41 : a'.tmps.getD 116 undef = .bool false := hp 41 (oWA1641 p) 116 rfl rfl rfl
      have q45 : a'.tmps.getD 120 undef = .pointer (some ⟨x, xo + q * 5 + 4, none⟩) := hp 45 (oWA1645 p) 120 rfl rfl rfl
      exact step_load rfl (wanted_on rfl (show (opsWA16 p).toArray[41]? = some (oWA1641 p) from rfl) rfl q41) rfl q45 (run_ldTnD _ _ _ (⟨cd, tx, fr, wv, t⟩ : DV) (fun i u hu => (Below.cell hR.undraw (p := ⟨x, xo + q * 5 + i, none⟩) hxl).trans (hxc i u hu))) ⟨_, rfl, rfl, Grew.refl _⟩
    · obtain rfl : oWA1647 p = o := Option.some.inj ho
      obtain rfl : 122 = d := Option.some.inj hd
      have q41 : a'.tmps.getD 116 undef = .bool false := hp 41 (oWA1641 p) 116 rfl rfl rfl
      have q46 : a'.tmps.getD 121 undef = .int .i64 (t : Int) := hp 46 (oWA1646 p) 121 rfl rfl rfl
      exact step_bin rfl (wanted_on rfl (show (opsWA16 p).toArray[41]? = some (oWA1641 p) from rfl) rfl q41) rfl q46 rfl (guard_int _ _ _ _ _ _ _ _ _) (run_ltND _ _ _ (by omega)) ⟨_, rfl, rfl, Grew.refl _⟩
    · obtain rfl : oWA1648 p = o := Option.some.inj ho
      obtain rfl : 123 = d := Option.some.inj hd
      have q41 : a'.tmps.getD 116 undef = .bool false := hp 41 (oWA1641 p) 116 rfl rfl rfl
      have q47 : a'.tmps.getD 122 undef = .bool false := hp 47 (oWA1647 p) 122 rfl rfl rfl
      exact step_pick rfl rfl rfl q41 (show (if false = true then _ else a'.tmps.getD 122 undef) = _ from q47) ⟨_, rfl, rfl, Grew.refl _⟩
    · obtain rfl : oWA1649 p = o := Option.some.inj ho
      obtain rfl : 124 = d := Option.some.inj hd
      have q48 : a'.tmps.getD 123 undef = .bool false := hp 48 (oWA1648 p) 123 rfl rfl rfl
      exact step_move rfl rfl rfl q48 ⟨_, rfl, rfl, Grew.refl _⟩
    · obtain rfl : oWA1650 p = o := Option.some.inj ho
      obtain rfl : 125 = d := Option.some.inj hd
      have q49 : a'.tmps.getD 124 undef = .bool false := hp 49 (oWA1649 p) 124 rfl rfl rfl
      exact step_move rfl (wanted_on rfl (show (opsWA16 p).toArray[49]? = some (oWA1649 p) from rfl) rfl q49) rfl (hF.at 9 rfl h9) ⟨_, rfl, rfl, Grew.refl _⟩
    · obtain rfl : oWA1651 p = o := Option.some.inj ho
      obtain rfl : 126 = d := Option.some.inj hd
      have q49 : a'.tmps.getD 124 undef = .bool false := hp 49 (oWA1649 p) 124 rfl rfl rfl
      exact step_move rfl (wanted_on rfl (show (opsWA16 p).toArray[49]? = some (oWA1649 p) from rfl) rfl q49) rfl (hF.at 13 rfl h13) ⟨_, rfl, rfl, Grew.refl _⟩
    · obtain rfl : oWA1652 p = o := Option.some.inj ho
      obtain rfl : 127 = d := Option.some.inj hd
      have q49 : a'.tmps.getD 124 undef = .bool false := hp 49 (oWA1649 p) 124 rfl rfl rfl
      have q50 : a'.tmps.getD 125 undef = .slice (some ⟨x, xo, none⟩) L xc := hp 50 (oWA1650 p) 125 rfl rfl rfl
      have q51 : a'.tmps.getD 126 undef = .int .i64 (q : Int) := hp 51 (oWA1651 p) 126 rfl rfl rfl
      exact step_index rfl (wanted_on rfl (show (opsWA16 p).toArray[49]? = some (oWA1649 p) from rfl) rfl q49) rfl q50 q51 (run_ixD _ _ _ _ _ _ hq) ⟨_, rfl, rfl, Grew.refl _⟩
    · obtain rfl : oWA1653 p = o := Option.some.inj ho
      obtain rfl : 128 = d := Option.some.inj hd
      have q49 : a'.tmps.getD 124 undef = .bool false := hp 49 (oWA1649 p) 124 rfl rfl rfl
      have q52 : a'.tmps.getD 127 undef = .pointer (some ⟨x, xo + q * 5, none⟩) := hp 52 (oWA1652 p) 127 rfl rfl rfl
      exact step_fieldF rfl (wanted_on rfl (show (opsWA16 p).toArray[49]? = some (oWA1649 p) from rfl) rfl q49) rfl q52 (run_fdD3 _ _ _) ⟨_, rfl, rfl, Grew.refl _⟩
    · obtain rfl : oWA1654 p = o := Option.some.inj ho
      obtain rfl : 129 = d := Option.some.inj hd
      have q49 : a'.tmps.getD 124 undef = .bool false := hp 49 (oWA1649 p) 124 rfl rfl rfl
      have q53 : a'.tmps.getD 128 undef = .pointer (some ⟨x, xo + q * 5 + 4, none⟩) := hp 53 (oWA1653 p) 128 rfl rfl rfl
      exact step_load rfl (wanted_on rfl (show (opsWA16 p).toArray[49]? = some (oWA1649 p) from rfl) rfl q49) rfl q53 (run_ldTnD _ _ _ (⟨cd, tx, fr, wv, t⟩ : DV) (fun i u hu => (Below.cell hR.undraw (p := ⟨x, xo + q * 5 + i, none⟩) hxl).trans (hxc i u hu))) ⟨_, rfl, rfl, Grew.refl _⟩
    · obtain rfl : oWA1655 p = o := Option.some.inj ho
      obtain rfl : 130 = d := Option.some.inj hd
      have q49 : a'.tmps.getD 124 undef = .bool false := hp 49 (oWA1649 p) 124 rfl rfl rfl
      exact step_move rfl (wanted_on rfl (show (opsWA16 p).toArray[49]? = some (oWA1649 p) from rfl) rfl q49) rfl (hF.at 1 rfl h1) ⟨_, rfl, rfl, Grew.refl _⟩
    · obtain rfl : oWA1656 p = o := Option.some.inj ho
      obtain rfl : 131 = d := Option.some.inj hd
      have q49 : a'.tmps.getD 124 undef = .bool false := hp 49 (oWA1649 p) 124 rfl rfl rfl
      have q55 : a'.tmps.getD 130 undef = .slice A L lc := hp 55 (oWA1655 p) 130 rfl rfl rfl
      exact step_len Tryz.underlying22 rfl (wanted_on rfl (show (opsWA16 p).toArray[49]? = some (oWA1649 p) from rfl) rfl q49) rfl q55 ⟨_, rfl, rfl, Grew.refl _⟩
    · obtain rfl : oWA1657 p = o := Option.some.inj ho
      obtain rfl : 132 = d := Option.some.inj hd
      have q49 : a'.tmps.getD 124 undef = .bool false := hp 49 (oWA1649 p) 124 rfl rfl rfl
      have q54 : a'.tmps.getD 129 undef = .int .i64 (t : Int) := hp 54 (oWA1654 p) 129 rfl rfl rfl
      have q56 : a'.tmps.getD 131 undef = .int .i64 (L : Int) := hp 56 (oWA1656 p) 131 rfl rfl rfl
      exact step_bin rfl (wanted_on rfl (show (opsWA16 p).toArray[49]? = some (oWA1649 p) from rfl) rfl q49) rfl q54 q56 (guard_int _ _ _ _ _ _ _ _ _) (run_geND _ _ _ (by omega)) ⟨_, rfl, rfl, Grew.refl _⟩
    · obtain rfl : oWA1658 p = o := Option.some.inj ho
      obtain rfl : 133 = d := Option.some.inj hd
      have q49 : a'.tmps.getD 124 undef = .bool false := hp 49 (oWA1649 p) 124 rfl rfl rfl
      have q57 : a'.tmps.getD 132 undef = .bool false := hp 57 (oWA1657 p) 132 rfl rfl rfl
      exact step_pick rfl rfl rfl q49 (show (if false = true then _ else a'.tmps.getD 132 undef) = _ from q57) ⟨_, rfl, rfl, Grew.refl _⟩
    · obtain rfl : oWA1659 p = o := Option.some.inj ho
      obtain rfl : 134 = d := Option.some.inj hd
      have q58 : a'.tmps.getD 133 undef = .bool false := hp 58 (oWA1658 p) 133 rfl rfl rfl
      exact step_move rfl rfl rfl q58 ⟨_, rfl, rfl, Grew.refl _⟩
    · obtain rfl : oWA1660 p = o := Option.some.inj ho
      obtain rfl : 135 = d := Option.some.inj hd
      have q59 : a'.tmps.getD 134 undef = .bool false := hp 59 (oWA1659 p) 134 rfl rfl rfl
      exact step_move rfl (wanted_on rfl (show (opsWA16 p).toArray[59]? = some (oWA1659 p) from rfl) rfl q59) rfl (hF.at 11 rfl h11) ⟨_, rfl, rfl, Grew.refl _⟩
    · obtain rfl : oWA1661 p = o := Option.some.inj ho
      obtain rfl : 136 = d := Option.some.inj hd
      have q59 : a'.tmps.getD 134 undef = .bool false := hp 59 (oWA1659 p) 134 rfl rfl rfl
      exact step_move rfl (wanted_on rfl (show (opsWA16 p).toArray[59]? = some (oWA1659 p) from rfl) rfl q59) rfl (hF.at 9 rfl h9) ⟨_, rfl, rfl, Grew.refl _⟩
    · obtain rfl : oWA1662 p = o := Option.some.inj ho
      obtain rfl : 137 = d := Option.some.inj hd
      have q59 : a'.tmps.getD 134 undef = .bool false := hp 59 (oWA1659 p) 134 rfl rfl rfl
      exact step_move rfl (wanted_on rfl (show (opsWA16 p).toArray[59]? = some (oWA1659 p) from rfl) rfl q59) rfl (hF.at 13 rfl h13) ⟨_, rfl, rfl, Grew.refl _⟩
    · obtain rfl : oWA1663 p = o := Option.some.inj ho
      obtain rfl : 138 = d := Option.some.inj hd
      have q59 : a'.tmps.getD 134 undef = .bool false := hp 59 (oWA1659 p) 134 rfl rfl rfl
      have q61 : a'.tmps.getD 136 undef = .slice (some ⟨x, xo, none⟩) L xc := hp 61 (oWA1661 p) 136 rfl rfl rfl
      have q62 : a'.tmps.getD 137 undef = .int .i64 (q : Int) := hp 62 (oWA1662 p) 137 rfl rfl rfl
      exact step_index rfl (wanted_on rfl (show (opsWA16 p).toArray[59]? = some (oWA1659 p) from rfl) rfl q59) rfl q61 q62 (run_ixD _ _ _ _ _ _ hq) ⟨_, rfl, rfl, Grew.refl _⟩
    · obtain rfl : oWA1664 p = o := Option.some.inj ho
      obtain rfl : 139 = d := Option.some.inj hd
      have q59 : a'.tmps.getD 134 undef = .bool false := hp 59 (oWA1659 p) 134 rfl rfl rfl
      have q63 : a'.tmps.getD 138 undef = .pointer (some ⟨x, xo + q * 5, none⟩) := hp 63 (oWA1663 p) 138 rfl rfl rfl
      exact step_fieldF rfl (wanted_on rfl (show (opsWA16 p).toArray[59]? = some (oWA1659 p) from rfl) rfl q59) rfl q63 (run_fdD3 _ _ _) ⟨_, rfl, rfl, Grew.refl _⟩
    · obtain rfl : oWA1665 p = o := Option.some.inj ho
      obtain rfl : 140 = d := Option.some.inj hd
      have q59 : a'.tmps.getD 134 undef = .bool false := hp 59 (oWA1659 p) 134 rfl rfl rfl
      have q64 : a'.tmps.getD 139 undef = .pointer (some ⟨x, xo + q * 5 + 4, none⟩) := hp 64 (oWA1664 p) 139 rfl rfl rfl
      exact step_load rfl (wanted_on rfl (show (opsWA16 p).toArray[59]? = some (oWA1659 p) from rfl) rfl q59) rfl q64 (run_ldTnD _ _ _ (⟨cd, tx, fr, wv, t⟩ : DV) (fun i u hu => (Below.cell hR.undraw (p := ⟨x, xo + q * 5 + i, none⟩) hxl).trans (hxc i u hu))) ⟨_, rfl, rfl, Grew.refl _⟩
    · obtain rfl : oWA1666 p = o := Option.some.inj ho
      obtain rfl : 141 = d := Option.some.inj hd
      have q59 : a'.tmps.getD 134 undef = .bool false := hp 59 (oWA1659 p) 134 rfl rfl rfl
      have q60 : a'.tmps.getD 135 undef = .slice (some ⟨g, 0, none⟩) L gc := hp 60 (oWA1660 p) 135 rfl rfl rfl
      have q65 : a'.tmps.getD 140 undef = .int .i64 (t : Int) := hp 65 (oWA1665 p) 140 rfl rfl rfl
      exact step_index rfl (wanted_on rfl (show (opsWA16 p).toArray[59]? = some (oWA1659 p) from rfl) rfl q59) rfl q60 q65 (run_ixN _ _ _ _ _ _ ht) ⟨_, rfl, rfl, Grew.refl _⟩
    · obtain rfl : oWA1667 p = o := Option.some.inj ho
      obtain rfl : 142 = d := Option.some.inj hd
      have q59 : a'.tmps.getD 134 undef = .bool false := hp 59 (oWA1659 p) 134 rfl rfl rfl
      have q66 : a'.tmps.getD 141 undef = .pointer (some ⟨g, 0 + t, none⟩) := hp 66 (oWA1666 p) 141 rfl rfl rfl
      exact step_load rfl (wanted_on rfl (show (opsWA16 p).toArray[59]? = some (oWA1659 p) from rfl) rfl q59) rfl q66 (run_ldN _ _ _ ((Below.cell hR.undraw (p := ⟨g, 0 + t, none⟩) hgl).trans (by simpa using hgc))) ⟨_, rfl, rfl, Grew.refl _⟩
    · obtain rfl : oWA1668 p = o := Option.some.inj ho
      obtain rfl : 143 = d := Option.some.inj hd
      have q59 : a'.tmps.getD 134 undef = .bool false := hp 59 (oWA1659 p) 134 rfl rfl rfl
      have q67 : a'.tmps.getD 142 undef = .int .i64 (-1) := hp 67 (oWA1667 p) 142 rfl rfl rfl
      exact step_bin rfl (wanted_on rfl (show (opsWA16 p).toArray[59]? = some (oWA1659 p) from rfl) rfl q59) rfl q67 rfl (guard_int _ _ _ _ _ _ _ _ _) (run_geND _ _ _ (by decide)) ⟨_, rfl, rfl, Grew.refl _⟩
    · obtain rfl : oWA1669 p = o := Option.some.inj ho
      obtain rfl : 144 = d := Option.some.inj hd
      have q59 : a'.tmps.getD 134 undef = .bool false := hp 59 (oWA1659 p) 134 rfl rfl rfl
      have q68 : a'.tmps.getD 143 undef = .bool false := hp 68 (oWA1668 p) 143 rfl rfl rfl
      exact step_pick rfl rfl rfl q59 (show (if false = true then _ else a'.tmps.getD 143 undef) = _ from q68) ⟨_, rfl, rfl, Grew.refl _⟩
    · exact absurd ((Array.getElem?_eq_some_iff.1 ho).1) (by simp [opsWA16])
  · intro a' w' hF hR hp
    have e0 : psiWA16 x xo xc y yo yc g gc L lc q cd wv t A tx fr 0 (a'.tmps.getD 75 undef) w' := hp 0 (oWA160 p) 75 rfl rfl
    have e1 : psiWA16 x xo xc y yo yc g gc L lc q cd wv t A tx fr 1 (a'.tmps.getD 76 undef) w' := hp 1 (oWA161 p) 76 rfl rfl
    have e2 : psiWA16 x xo xc y yo yc g gc L lc q cd wv t A tx fr 2 (a'.tmps.getD 77 undef) w' := hp 2 (oWA162 p) 77 rfl rfl
    have e3 : psiWA16 x xo xc y yo yc g gc L lc q cd wv t A tx fr 3 (a'.tmps.getD 78 undef) w' := hp 3 (oWA163 p) 78 rfl rfl
    have e4 : psiWA16 x xo xc y yo yc g gc L lc q cd wv t A tx fr 4 (a'.tmps.getD 79 undef) w' := hp 4 (oWA164 p) 79 rfl rfl
    have e5 : psiWA16 x xo xc y yo yc g gc L lc q cd wv t A tx fr 5 (a'.tmps.getD 80 undef) w' := hp 5 (oWA165 p) 80 rfl rfl
    have e6 : psiWA16 x xo xc y yo yc g gc L lc q cd wv t A tx fr 6 (a'.tmps.getD 81 undef) w' := hp 6 (oWA166 p) 81 rfl rfl
    have e7 : psiWA16 x xo xc y yo yc g gc L lc q cd wv t A tx fr 7 (a'.tmps.getD 82 undef) w' := hp 7 (oWA167 p) 82 rfl rfl
    have e8 : psiWA16 x xo xc y yo yc g gc L lc q cd wv t A tx fr 8 (a'.tmps.getD 83 undef) w' := hp 8 (oWA168 p) 83 rfl rfl
    have e9 : psiWA16 x xo xc y yo yc g gc L lc q cd wv t A tx fr 9 (a'.tmps.getD 84 undef) w' := hp 9 (oWA169 p) 84 rfl rfl
    have e10 : psiWA16 x xo xc y yo yc g gc L lc q cd wv t A tx fr 10 (a'.tmps.getD 85 undef) w' := hp 10 (oWA1610 p) 85 rfl rfl
    have e11 : psiWA16 x xo xc y yo yc g gc L lc q cd wv t A tx fr 11 (a'.tmps.getD 86 undef) w' := hp 11 (oWA1611 p) 86 rfl rfl
    have e12 : psiWA16 x xo xc y yo yc g gc L lc q cd wv t A tx fr 12 (a'.tmps.getD 87 undef) w' := hp 12 (oWA1612 p) 87 rfl rfl
    have e13 : psiWA16 x xo xc y yo yc g gc L lc q cd wv t A tx fr 13 (a'.tmps.getD 88 undef) w' := hp 13 (oWA1613 p) 88 rfl rfl
    have e14 : psiWA16 x xo xc y yo yc g gc L lc q cd wv t A tx fr 14 (a'.tmps.getD 89 undef) w' := hp 14 (oWA1614 p) 89 rfl rfl
    have e15 : psiWA16 x xo xc y yo yc g gc L lc q cd wv t A tx fr 15 (a'.tmps.getD 90 undef) w' := hp 15 (oWA1615 p) 90 rfl rfl
    have e16 : psiWA16 x xo xc y yo yc g gc L lc q cd wv t A tx fr 16 (a'.tmps.getD 91 undef) w' := hp 16 (oWA1616 p) 91 rfl rfl
    have e17 : psiWA16 x xo xc y yo yc g gc L lc q cd wv t A tx fr 17 (a'.tmps.getD 92 undef) w' := hp 17 (oWA1617 p) 92 rfl rfl
    have e18 : psiWA16 x xo xc y yo yc g gc L lc q cd wv t A tx fr 18 (a'.tmps.getD 93 undef) w' := hp 18 (oWA1618 p) 93 rfl rfl
    have e19 : psiWA16 x xo xc y yo yc g gc L lc q cd wv t A tx fr 19 (a'.tmps.getD 94 undef) w' := hp 19 (oWA1619 p) 94 rfl rfl
    have e20 : psiWA16 x xo xc y yo yc g gc L lc q cd wv t A tx fr 20 (a'.tmps.getD 95 undef) w' := hp 20 (oWA1620 p) 95 rfl rfl
    have e21 : psiWA16 x xo xc y yo yc g gc L lc q cd wv t A tx fr 21 (a'.tmps.getD 96 undef) w' := hp 21 (oWA1621 p) 96 rfl rfl
    have e22 : psiWA16 x xo xc y yo yc g gc L lc q cd wv t A tx fr 22 (a'.tmps.getD 97 undef) w' := hp 22 (oWA1622 p) 97 rfl rfl
    have e23 : psiWA16 x xo xc y yo yc g gc L lc q cd wv t A tx fr 23 (a'.tmps.getD 98 undef) w' := hp 23 (oWA1623 p) 98 rfl rfl
    have e24 : psiWA16 x xo xc y yo yc g gc L lc q cd wv t A tx fr 24 (a'.tmps.getD 99 undef) w' := hp 24 (oWA1624 p) 99 rfl rfl
    have e25 : psiWA16 x xo xc y yo yc g gc L lc q cd wv t A tx fr 25 (a'.tmps.getD 100 undef) w' := hp 25 (oWA1625 p) 100 rfl rfl
    have e26 : psiWA16 x xo xc y yo yc g gc L lc q cd wv t A tx fr 26 (a'.tmps.getD 101 undef) w' := hp 26 (oWA1626 p) 101 rfl rfl
    have e27 : psiWA16 x xo xc y yo yc g gc L lc q cd wv t A tx fr 27 (a'.tmps.getD 102 undef) w' := hp 27 (oWA1627 p) 102 rfl rfl
    have e28 : psiWA16 x xo xc y yo yc g gc L lc q cd wv t A tx fr 28 (a'.tmps.getD 103 undef) w' := hp 28 (oWA1628 p) 103 rfl rfl
    have e29 : psiWA16 x xo xc y yo yc g gc L lc q cd wv t A tx fr 29 (a'.tmps.getD 104 undef) w' := hp 29 (oWA1629 p) 104 rfl rfl
    have e30 : psiWA16 x xo xc y yo yc g gc L lc q cd wv t A tx fr 30 (a'.tmps.getD 105 undef) w' := hp 30 (oWA1630 p) 105 rfl rfl
    have e31 : psiWA16 x xo xc y yo yc g gc L lc q cd wv t A tx fr 31 (a'.tmps.getD 106 undef) w' := hp 31 (oWA1631 p) 106 rfl rfl
    have e32 : psiWA16 x xo xc y yo yc g gc L lc q cd wv t A tx fr 32 (a'.tmps.getD 107 undef) w' := hp 32 (oWA1632 p) 107 rfl rfl
    have e33 : psiWA16 x xo xc y yo yc g gc L lc q cd wv t A tx fr 33 (a'.tmps.getD 108 undef) w' := hp 33 (oWA1633 p) 108 rfl rfl
    have e34 : psiWA16 x xo xc y yo yc g gc L lc q cd wv t A tx fr 34 (a'.tmps.getD 109 undef) w' := hp 34 (oWA1634 p) 109 rfl rfl
    have e35 : psiWA16 x xo xc y yo yc g gc L lc q cd wv t A tx fr 35 (a'.tmps.getD 110 undef) w' := hp 35 (oWA1635 p) 110 rfl rfl
    have e36 : psiWA16 x xo xc y yo yc g gc L lc q cd wv t A tx fr 36 (a'.tmps.getD 111 undef) w' := hp 36 (oWA1636 p) 111 rfl rfl
    have e37 : psiWA16 x xo xc y yo yc g gc L lc q cd wv t A tx fr 37 (a'.tmps.getD 112 undef) w' := hp 37 (oWA1637 p) 112 rfl rfl
    have e38 : psiWA16 x xo xc y yo yc g gc L lc q cd wv t A tx fr 38 (a'.tmps.getD 113 undef) w' := hp 38 (oWA1638 p) 113 rfl rfl
    have e39 : psiWA16 x xo xc y yo yc g gc L lc q cd wv t A tx fr 39 (a'.tmps.getD 114 undef) w' := hp 39 (oWA1639 p) 114 rfl rfl
    have e40 : psiWA16 x xo xc y yo yc g gc L lc q cd wv t A tx fr 40 (a'.tmps.getD 115 undef) w' := hp 40 (oWA1640 p) 115 rfl rfl
    have e41 : psiWA16 x xo xc y yo yc g gc L lc q cd wv t A tx fr 41 (a'.tmps.getD 116 undef) w' := hp 41 (oWA1641 p) 116 rfl rfl
    have e42 : psiWA16 x xo xc y yo yc g gc L lc q cd wv t A tx fr 42 (a'.tmps.getD 117 undef) w' := hp 42 (oWA1642 p) 117 rfl rfl
    have e43 : psiWA16 x xo xc y yo yc g gc L lc q cd wv t A tx fr 43 (a'.tmps.getD 118 undef) w' := hp 43 (oWA1643 p) 118 rfl rfl
    have e44 : psiWA16 x xo xc y yo yc g gc L lc q cd wv t A tx fr 44 (a'.tmps.getD 119 undef) w' := hp 44 (oWA1644 p) 119 rfl rfl
    have e45 : psiWA16 x xo xc y yo yc g gc L lc q cd wv t A tx fr 45 (a'.tmps.getD 120 undef) w' := hp 45 (oWA1645 p) 120 rfl rfl
    have e46 : psiWA16 x xo xc y yo yc g gc L lc q cd wv t A tx fr 46 (a'.tmps.getD 121 undef) w' := hp 46 (oWA1646 p) 121 rfl rfl
    have e47 : psiWA16 x xo xc y yo yc g gc L lc q cd wv t A tx fr 47 (a'.tmps.getD 122 undef) w' := hp 47 (oWA1647 p) 122 rfl rfl
    have e48 : psiWA16 x xo xc y yo yc g gc L lc q cd wv t A tx fr 48 (a'.tmps.getD 123 undef) w' := hp 48 (oWA1648 p) 123 rfl rfl
    have e49 : psiWA16 x xo xc y yo yc g gc L lc q cd wv t A tx fr 49 (a'.tmps.getD 124 undef) w' := hp 49 (oWA1649 p) 124 rfl rfl
    have e50 : psiWA16 x xo xc y yo yc g gc L lc q cd wv t A tx fr 50 (a'.tmps.getD 125 undef) w' := hp 50 (oWA1650 p) 125 rfl rfl
    have e51 : psiWA16 x xo xc y yo yc g gc L lc q cd wv t A tx fr 51 (a'.tmps.getD 126 undef) w' := hp 51 (oWA1651 p) 126 rfl rfl
    have e52 : psiWA16 x xo xc y yo yc g gc L lc q cd wv t A tx fr 52 (a'.tmps.getD 127 undef) w' := hp 52 (oWA1652 p) 127 rfl rfl
    have e53 : psiWA16 x xo xc y yo yc g gc L lc q cd wv t A tx fr 53 (a'.tmps.getD 128 undef) w' := hp 53 (oWA1653 p) 128 rfl rfl
    have e54 : psiWA16 x xo xc y yo yc g gc L lc q cd wv t A tx fr 54 (a'.tmps.getD 129 undef) w' := hp 54 (oWA1654 p) 129 rfl rfl
    have e55 : psiWA16 x xo xc y yo yc g gc L lc q cd wv t A tx fr 55 (a'.tmps.getD 130 undef) w' := hp 55 (oWA1655 p) 130 rfl rfl
    have e56 : psiWA16 x xo xc y yo yc g gc L lc q cd wv t A tx fr 56 (a'.tmps.getD 131 undef) w' := hp 56 (oWA1656 p) 131 rfl rfl
    have e57 : psiWA16 x xo xc y yo yc g gc L lc q cd wv t A tx fr 57 (a'.tmps.getD 132 undef) w' := hp 57 (oWA1657 p) 132 rfl rfl
    have e58 : psiWA16 x xo xc y yo yc g gc L lc q cd wv t A tx fr 58 (a'.tmps.getD 133 undef) w' := hp 58 (oWA1658 p) 133 rfl rfl
    have e59 : psiWA16 x xo xc y yo yc g gc L lc q cd wv t A tx fr 59 (a'.tmps.getD 134 undef) w' := hp 59 (oWA1659 p) 134 rfl rfl
    have e60 : psiWA16 x xo xc y yo yc g gc L lc q cd wv t A tx fr 60 (a'.tmps.getD 135 undef) w' := hp 60 (oWA1660 p) 135 rfl rfl
    have e61 : psiWA16 x xo xc y yo yc g gc L lc q cd wv t A tx fr 61 (a'.tmps.getD 136 undef) w' := hp 61 (oWA1661 p) 136 rfl rfl
    have e62 : psiWA16 x xo xc y yo yc g gc L lc q cd wv t A tx fr 62 (a'.tmps.getD 137 undef) w' := hp 62 (oWA1662 p) 137 rfl rfl
    have e63 : psiWA16 x xo xc y yo yc g gc L lc q cd wv t A tx fr 63 (a'.tmps.getD 138 undef) w' := hp 63 (oWA1663 p) 138 rfl rfl
    have e64 : psiWA16 x xo xc y yo yc g gc L lc q cd wv t A tx fr 64 (a'.tmps.getD 139 undef) w' := hp 64 (oWA1664 p) 139 rfl rfl
    have e65 : psiWA16 x xo xc y yo yc g gc L lc q cd wv t A tx fr 65 (a'.tmps.getD 140 undef) w' := hp 65 (oWA1665 p) 140 rfl rfl
    have e66 : psiWA16 x xo xc y yo yc g gc L lc q cd wv t A tx fr 66 (a'.tmps.getD 141 undef) w' := hp 66 (oWA1666 p) 141 rfl rfl
    have e67 : psiWA16 x xo xc y yo yc g gc L lc q cd wv t A tx fr 67 (a'.tmps.getD 142 undef) w' := hp 67 (oWA1667 p) 142 rfl rfl
    have e68 : psiWA16 x xo xc y yo yc g gc L lc q cd wv t A tx fr 68 (a'.tmps.getD 143 undef) w' := hp 68 (oWA1668 p) 143 rfl rfl
    have e69 : psiWA16 x xo xc y yo yc g gc L lc q cd wv t A tx fr 69 (a'.tmps.getD 144 undef) w' := hp 69 (oWA1669 p) 144 rfl rfl
    rw [hF.puts [(75, .slice (some ⟨x, xo, none⟩) L xc), (76, .int .i64 (q : Int)), (77, .pointer (some ⟨x, xo + q * 5, none⟩)), (78, .pointer (some ⟨x, xo + q * 5 + 0, none⟩)), (79, .agg #[.int .u8 (cd : Int), .string tx]), (80, .slice (some ⟨y, yo, none⟩) L yc), (81, .int .i64 (q : Int)), (82, .pointer (some ⟨y, yo + q * 5, none⟩)), (83, .pointer (some ⟨y, yo + q * 5 + 0, none⟩)), (84, .agg #[.int .u8 (cd : Int), .string tx]), (85, .bool false), (86, .bool false), (87, .slice (some ⟨x, xo, none⟩) L xc), (88, .int .i64 (q : Int)), (89, .pointer (some ⟨x, xo + q * 5, none⟩)), (90, .pointer (some ⟨x, xo + q * 5 + 2, none⟩)), (91, .bool fr), (92, .slice (some ⟨y, yo, none⟩) L yc), (93, .int .i64 (q : Int)), (94, .pointer (some ⟨y, yo + q * 5, none⟩)), (95, .pointer (some ⟨y, yo + q * 5 + 2, none⟩)), (96, .bool fr), (97, .bool false), (98, .bool false), (99, .bool false), (100, .slice (some ⟨y, yo, none⟩) L yc), (101, .int .i64 (q : Int)), (102, .pointer (some ⟨y, yo + q * 5, none⟩)), (103, .pointer (some ⟨y, yo + q * 5 + 4, none⟩)), (104, .int .i64 (q : Int)), (105, .int .i64 (q : Int)), (106, .bool false), (107, .bool false), (108, .bool false), (109, .slice (some ⟨y, yo, none⟩) L yc), (110, .int .i64 (q : Int)), (111, .pointer (some ⟨y, yo + q * 5, none⟩)), (112, .pointer (some ⟨y, yo + q * 5 + 3, none⟩)), (113, .int .i64 ((0 : Nat) : Int)), (114, .bool false), (115, .bool false), (116, .bool false), (117, .slice (some ⟨x, xo, none⟩) L xc), (118, .int .i64 (q : Int)), (119, .pointer (some ⟨x, xo + q * 5, none⟩)), (120, .pointer (some ⟨x, xo + q * 5 + 4, none⟩)), (121, .int .i64 (t : Int)), (122, .bool false), (123, .bool false), (124, .bool false), (125, .slice (some ⟨x, xo, none⟩) L xc), (126, .int .i64 (q : Int)), (127, .pointer (some ⟨x, xo + q * 5, none⟩)), (128, .pointer (some ⟨x, xo + q * 5 + 4, none⟩)), (129, .int .i64 (t : Int)), (130, .slice A L lc), (131, .int .i64 (L : Int)), (132, .bool false), (133, .bool false), (134, .bool false), (135, .slice (some ⟨g, 0, none⟩) L gc), (136, .slice (some ⟨x, xo, none⟩) L xc), (137, .int .i64 (q : Int)), (138, .pointer (some ⟨x, xo + q * 5, none⟩)), (139, .pointer (some ⟨x, xo + q * 5 + 4, none⟩)), (140, .int .i64 (t : Int)), (141, .pointer (some ⟨g, 0 + t, none⟩)), (142, .int .i64 (-1)), (143, .bool false), (144, .bool false)] ?_ rfl (by rw [hN]; rfl)]
    · exact hQ  w'  hR.undraw
    · intro x hx
      simp only [List.mem_cons, List.not_mem_nil, or_false] at hx
      rcases hx with rfl | rfl | rfl | rfl | rfl | rfl | rfl | rfl | rfl | rfl | rfl | rfl | rfl | rfl | rfl | rfl | rfl | rfl | rfl | rfl | rfl | rfl | rfl | rfl | rfl | rfl | rfl | rfl | rfl | rfl | rfl | rfl | rfl | rfl | rfl | rfl | rfl | rfl | rfl | rfl | rfl | rfl | rfl | rfl | rfl | rfl | rfl | rfl | rfl | rfl | rfl | rfl | rfl | rfl | rfl | rfl | rfl | rfl | rfl | rfl | rfl | rfl | rfl | rfl | rfl | rfl | rfl | rfl | rfl | rfl
      · exact e0
      · exact e1
      · exact e2
      · exact e3
      · exact e4
      · exact e5
      · exact e6
      · exact e7
      · exact e8
      · exact e9
      · exact e10
      · exact e11
      · exact e12
      · exact e13
      · exact e14
      · exact e15
      · exact e16
      · exact e17
      · exact e18
      · exact e19
      · exact e20
      · exact e21
      · exact e22
      · exact e23
      · exact e24
      · exact e25
      · exact e26
      · exact e27
      · exact e28
      · exact e29
      · exact e30
      · exact e31
      · exact e32
      · exact e33
      · exact e34
      · exact e35
      · exact e36
      · exact e37
      · exact e38
      · exact e39
      · exact e40
      · exact e41
      · exact e42
      · exact e43
      · exact e44
      · exact e45
      · exact e46
      · exact e47
      · exact e48
      · exact e49
      · exact e50
      · exact e51
      · exact e52
      · exact e53
      · exact e54
      · exact e55
      · exact e56
      · exact e57
      · exact e58
      · exact e59
      · exact e60
      · exact e61
      · exact e62
      · exact e63
      · exact e64
      · exact e65
      · exact e66
      · exact e67
      · exact e68
      · exact e69
def oWA180 (p : String) : Oper := { dst := some 145, op := Op.move (Operand.tmp 11), type := 23, pos := p, after := #[], guard := none }
def oWA181 (p : String) : Oper := { dst := some 146, op := Op.move (Operand.tmp 9), type := 40, pos := p, after := #[], guard := none }
def oWA182 (p : String) : Oper := { dst := some 147, op := Op.move (Operand.tmp 13), type := 3, pos := p, after := #[], guard := none }
def oWA183 (p : String) : Oper := { dst := some 148, op := Op.indexAddr 40 (Operand.tmp 146) (Operand.tmp 147), type := 0, pos := p, after := #[{ on := 1, ground := Ground.data }, { on := 2, ground := Ground.data }], guard := none }
def oWA184 (p : String) : Oper := { dst := some 149, op := Op.fieldAddr 47 (Operand.tmp 148) 3, type := 0, pos := p, after := #[{ on := 3, ground := Ground.data }], guard := none }
def oWA185 (p : String) : Oper := { dst := some 150, op := Op.load 3 (Operand.tmp 149), type := 3, pos := p, after := #[{ on := 4, ground := Ground.data }], guard := none }
def oWA186 (p : String) : Oper := { dst := some 151, op := Op.move (Operand.tmp 9), type := 40, pos := p, after := #[], guard := none }
def oWA187 (p : String) : Oper := { dst := some 152, op := Op.move (Operand.tmp 13), type := 3, pos := p, after := #[], guard := none }
def oWA188 (p : String) : Oper := { dst := some 153, op := Op.indexAddr 40 (Operand.tmp 151) (Operand.tmp 152), type := 0, pos := p, after := #[{ on := 6, ground := Ground.data }, { on := 7, ground := Ground.data }], guard := none }
def oWA189 (p : String) : Oper := { dst := some 154, op := Op.fieldAddr 47 (Operand.tmp 153) 2, type := 0, pos := p, after := #[{ on := 8, ground := Ground.data }], guard := none }
def oWA1810 (p : String) : Oper := { dst := some 155, op := Op.load 3 (Operand.tmp 154), type := 3, pos := p, after := #[{ on := 9, ground := Ground.data }], guard := none }
def oWA1811 (p : String) : Oper := { dst := some 156, op := Op.indexAddr 23 (Operand.tmp 145) (Operand.tmp 150), type := 0, pos := p, after := #[{ on := 0, ground := Ground.data }, { on := 5, ground := Ground.data }, { on := 0, ground := Ground.phase }, { on := 1, ground := Ground.phase }, { on := 2, ground := Ground.phase }, { on := 3, ground := Ground.phase }, { on := 4, ground := Ground.phase }, { on := 5, ground := Ground.phase }, { on := 6, ground := Ground.phase }, { on := 7, ground := Ground.phase }, { on := 8, ground := Ground.phase }, { on := 9, ground := Ground.phase }, { on := 10, ground := Ground.phase }], guard := none }
def opsWA18 (p : String) : List Oper := [oWA180 p, oWA181 p, oWA182 p, oWA183 p, oWA184 p, oWA185 p, oWA186 p, oWA187 p, oWA188 p, oWA189 p, oWA1810 p, oWA1811 p]
def oWA18L (p : String) : Oper := { dst := none, op := Op.store 3 (Operand.tmp 156) (Operand.tmp 155), type := 0, pos := p, after := #[{ on := 11, ground := Ground.data }, { on := 10, ground := Ground.data }, { on := 0, ground := Ground.phase }, { on := 1, ground := Ground.phase }, { on := 2, ground := Ground.phase }, { on := 3, ground := Ground.phase }, { on := 4, ground := Ground.phase }, { on := 5, ground := Ground.phase }, { on := 6, ground := Ground.phase }, { on := 7, ground := Ground.phase }, { on := 8, ground := Ground.phase }, { on := 9, ground := Ground.phase }, { on := 10, ground := Ground.phase }], guard := none }
theorem opsWA18_back (p : String) : backwards (opsWA18 p ++ [oWA18L p]) = true := by kernel_rfl
theorem opsWA18_all (p : String) : ((List.range (opsWA18 p).length).all (hasEdge (oWA18L p))) = true := by kernel_rfl
theorem opsWA18_slots (p : String) : slotsOk 174 (opsWA18 p) = true := by kernel_rfl
def psiWA18 (x xo xc _y _yo _yc g gc L _lc q _cd wv t : Nat) (_A : Option Addr) (_tx : ByteArray) (_fr : Bool) : Nat → Value → World → Prop
  | 0, v, _ => v = .slice (some ⟨g, 0, none⟩) L gc
  | 1, v, _ => v = .slice (some ⟨x, xo, none⟩) L xc
  | 2, v, _ => v = .int .i64 (q : Int)
  | 3, v, _ => v = .pointer (some ⟨x, xo + q * 5, none⟩)
  | 4, v, _ => v = .pointer (some ⟨x, xo + q * 5 + 4, none⟩)
  | 5, v, _ => v = .int .i64 (t : Int)
  | 6, v, _ => v = .slice (some ⟨x, xo, none⟩) L xc
  | 7, v, _ => v = .int .i64 (q : Int)
  | 8, v, _ => v = .pointer (some ⟨x, xo + q * 5, none⟩)
  | 9, v, _ => v = .pointer (some ⟨x, xo + q * 5 + 3, none⟩)
  | 10, v, _ => v = .int .i64 (wv : Int)
  | 11, v, _ => v = .pointer (some ⟨g, 0 + t, none⟩)
  | _, _, _ => True
theorem psiWA18_grew (x xo xc y yo yc g gc L lc q cd wv t : Nat) (A : Option Addr) (tx : ByteArray) (fr : Bool) : ∀ i v w w', psiWA18 x xo xc y yo yc g gc L lc q cd wv t A tx fr i v w → Grew w w' → psiWA18 x xo xc y yo yc g gc L lc q cd wv t A tx fr i v w' := by
  intro i v w w' h hg
  rcases i with _ | _ | _ | _ | _ | _ | _ | _ | _ | _ | _ | _ | i
  · exact h
  · exact h
  · exact h
  · exact h
  · exact h
  · exact h
  · exact h
  · exact h
  · exact h
  · exact h
  · exact h
  · exact h
  · trivial
set_option maxRecDepth 100000 in
set_option maxHeartbeats 4000000 in
theorem wastore {p : String} (x xo xc y yo yc g gc L lc q cd wv t : Nat) (A : Option Addr) (tx : ByteArray) (fr : Bool) (hq : q < L) (ht : t < L) (a : Act) (w : World) (Q : Exit → Act → World → Prop) (hN : a.tmps.size = 174) (h9 : a.tmps.getD 9 undef = .slice (some ⟨x, xo, none⟩) L xc) (h11 : a.tmps.getD 11 undef = .slice (some ⟨g, 0, none⟩) L gc) (h13 : a.tmps.getD 13 undef = .int .i64 (q : Int)) (hxl : x < w.heap.size) (hxc : ∀ i u, (⟨cd, tx, fr, wv, t⟩ : DV).cells[i]? = some u → w.cell? ⟨x, xo + q * 5 + i, none⟩ = some u) (hgl : g < w.heap.size) (hgc : w.cell? ⟨g, t, none⟩ = some (.int .i64 (-1))) (hgf : w.frozen? ⟨g, t, none⟩ = false) (hQ : ∀ (w' : World), Grew w w' → Q .normal (puts [(145, .slice (some ⟨g, 0, none⟩) L gc), (146, .slice (some ⟨x, xo, none⟩) L xc), (147, .int .i64 (q : Int)), (148, .pointer (some ⟨x, xo + q * 5, none⟩)), (149, .pointer (some ⟨x, xo + q * 5 + 4, none⟩)), (150, .int .i64 (t : Int)), (151, .slice (some ⟨x, xo, none⟩) L xc), (152, .int .i64 (q : Int)), (153, .pointer (some ⟨x, xo + q * 5, none⟩)), (154, .pointer (some ⟨x, xo + q * 5 + 3, none⟩)), (155, .int .i64 (wv : Int)), (156, .pointer (some ⟨g, 0 + t, none⟩))] a) (w'.setCell ⟨g, 0 + t, none⟩ (.int .i64 (wv : Int))))
    : (Code.region 18 (opsWA18 p ++ [oWA18L p]).toArray true).wp Tryz.prog Q a w := by
  refine (wpIn_wide (n := 1)).1 (wpIn_region_store 174 hN follows (opsWA18_back p) (opsWA18_slots p) (opsWA18_all p) Grew Grew.refl Grew.trans (psiWA18 x xo xc y yo yc g gc L lc q cd wv t A tx fr) (psiWA18_grew x xo xc y yo yc g gc L lc q cd wv t A tx fr) ?_ ?_)
  · intro i o d ho hd a' w' hF hR hp
    rcases i with _ | _ | _ | _ | _ | _ | _ | _ | _ | _ | _ | _ | i
    · obtain rfl : oWA180 p = o := Option.some.inj ho
      obtain rfl : 145 = d := Option.some.inj hd
      exact step_move rfl rfl rfl (hF.at 11 rfl h11) ⟨_, rfl, rfl, Grew.refl _⟩
    · obtain rfl : oWA181 p = o := Option.some.inj ho
      obtain rfl : 146 = d := Option.some.inj hd
      exact step_move rfl rfl rfl (hF.at 9 rfl h9) ⟨_, rfl, rfl, Grew.refl _⟩
    · obtain rfl : oWA182 p = o := Option.some.inj ho
      obtain rfl : 147 = d := Option.some.inj hd
      exact step_move rfl rfl rfl (hF.at 13 rfl h13) ⟨_, rfl, rfl, Grew.refl _⟩
    · obtain rfl : oWA183 p = o := Option.some.inj ho
      obtain rfl : 148 = d := Option.some.inj hd
      have q1 : a'.tmps.getD 146 undef = .slice (some ⟨x, xo, none⟩) L xc := hp 1 (oWA181 p) 146 rfl rfl rfl
      have q2 : a'.tmps.getD 147 undef = .int .i64 (q : Int) := hp 2 (oWA182 p) 147 rfl rfl rfl
      exact step_index rfl rfl rfl q1 q2 (run_ixD _ _ _ _ _ _ hq) ⟨_, rfl, rfl, Grew.refl _⟩
    · obtain rfl : oWA184 p = o := Option.some.inj ho
      obtain rfl : 149 = d := Option.some.inj hd
      have q3 : a'.tmps.getD 148 undef = .pointer (some ⟨x, xo + q * 5, none⟩) := hp 3 (oWA183 p) 148 rfl rfl rfl
      exact step_fieldF rfl rfl rfl q3 (run_fdD3 _ _ _) ⟨_, rfl, rfl, Grew.refl _⟩
    · obtain rfl : oWA185 p = o := Option.some.inj ho
      obtain rfl : 150 = d := Option.some.inj hd
      have q4 : a'.tmps.getD 149 undef = .pointer (some ⟨x, xo + q * 5 + 4, none⟩) := hp 4 (oWA184 p) 149 rfl rfl rfl
      exact step_load rfl rfl rfl q4 (run_ldTnD _ _ _ (⟨cd, tx, fr, wv, t⟩ : DV) (fun i u hu => (Below.cell hR.undraw (p := ⟨x, xo + q * 5 + i, none⟩) hxl).trans (hxc i u hu))) ⟨_, rfl, rfl, Grew.refl _⟩
    · obtain rfl : oWA186 p = o := Option.some.inj ho
      obtain rfl : 151 = d := Option.some.inj hd
      exact step_move rfl rfl rfl (hF.at 9 rfl h9) ⟨_, rfl, rfl, Grew.refl _⟩
    · obtain rfl : oWA187 p = o := Option.some.inj ho
      obtain rfl : 152 = d := Option.some.inj hd
      exact step_move rfl rfl rfl (hF.at 13 rfl h13) ⟨_, rfl, rfl, Grew.refl _⟩
    · obtain rfl : oWA188 p = o := Option.some.inj ho
      obtain rfl : 153 = d := Option.some.inj hd
      have q6 : a'.tmps.getD 151 undef = .slice (some ⟨x, xo, none⟩) L xc := hp 6 (oWA186 p) 151 rfl rfl rfl
      have q7 : a'.tmps.getD 152 undef = .int .i64 (q : Int) := hp 7 (oWA187 p) 152 rfl rfl rfl
      exact step_index rfl rfl rfl q6 q7 (run_ixD _ _ _ _ _ _ hq) ⟨_, rfl, rfl, Grew.refl _⟩
    · obtain rfl : oWA189 p = o := Option.some.inj ho
      obtain rfl : 154 = d := Option.some.inj hd
      have q8 : a'.tmps.getD 153 undef = .pointer (some ⟨x, xo + q * 5, none⟩) := hp 8 (oWA188 p) 153 rfl rfl rfl
      exact step_fieldF rfl rfl rfl q8 (run_fdD2 _ _ _) ⟨_, rfl, rfl, Grew.refl _⟩
    · obtain rfl : oWA1810 p = o := Option.some.inj ho
      obtain rfl : 155 = d := Option.some.inj hd
      have q9 : a'.tmps.getD 154 undef = .pointer (some ⟨x, xo + q * 5 + 3, none⟩) := hp 9 (oWA189 p) 154 rfl rfl rfl
      exact step_load rfl rfl rfl q9 (run_ldWvD _ _ _ (⟨cd, tx, fr, wv, t⟩ : DV) (fun i u hu => (Below.cell hR.undraw (p := ⟨x, xo + q * 5 + i, none⟩) hxl).trans (hxc i u hu))) ⟨_, rfl, rfl, Grew.refl _⟩
    · obtain rfl : oWA1811 p = o := Option.some.inj ho
      obtain rfl : 156 = d := Option.some.inj hd
      have q0 : a'.tmps.getD 145 undef = .slice (some ⟨g, 0, none⟩) L gc := hp 0 (oWA180 p) 145 rfl rfl rfl
      have q5 : a'.tmps.getD 150 undef = .int .i64 (t : Int) := hp 5 (oWA185 p) 150 rfl rfl rfl
      exact step_index rfl rfl rfl q0 q5 (run_ixN _ _ _ _ _ _ ht) ⟨_, rfl, rfl, Grew.refl _⟩
    · exact absurd ((Array.getElem?_eq_some_iff.1 ho).1) (by simp [opsWA18])
  · intro a' w' hF hR hp
    have e0 : psiWA18 x xo xc y yo yc g gc L lc q cd wv t A tx fr 0 (a'.tmps.getD 145 undef) w' := hp 0 (oWA180 p) 145 rfl rfl
    have e1 : psiWA18 x xo xc y yo yc g gc L lc q cd wv t A tx fr 1 (a'.tmps.getD 146 undef) w' := hp 1 (oWA181 p) 146 rfl rfl
    have e2 : psiWA18 x xo xc y yo yc g gc L lc q cd wv t A tx fr 2 (a'.tmps.getD 147 undef) w' := hp 2 (oWA182 p) 147 rfl rfl
    have e3 : psiWA18 x xo xc y yo yc g gc L lc q cd wv t A tx fr 3 (a'.tmps.getD 148 undef) w' := hp 3 (oWA183 p) 148 rfl rfl
    have e4 : psiWA18 x xo xc y yo yc g gc L lc q cd wv t A tx fr 4 (a'.tmps.getD 149 undef) w' := hp 4 (oWA184 p) 149 rfl rfl
    have e5 : psiWA18 x xo xc y yo yc g gc L lc q cd wv t A tx fr 5 (a'.tmps.getD 150 undef) w' := hp 5 (oWA185 p) 150 rfl rfl
    have e6 : psiWA18 x xo xc y yo yc g gc L lc q cd wv t A tx fr 6 (a'.tmps.getD 151 undef) w' := hp 6 (oWA186 p) 151 rfl rfl
    have e7 : psiWA18 x xo xc y yo yc g gc L lc q cd wv t A tx fr 7 (a'.tmps.getD 152 undef) w' := hp 7 (oWA187 p) 152 rfl rfl
    have e8 : psiWA18 x xo xc y yo yc g gc L lc q cd wv t A tx fr 8 (a'.tmps.getD 153 undef) w' := hp 8 (oWA188 p) 153 rfl rfl
    have e9 : psiWA18 x xo xc y yo yc g gc L lc q cd wv t A tx fr 9 (a'.tmps.getD 154 undef) w' := hp 9 (oWA189 p) 154 rfl rfl
    have e10 : psiWA18 x xo xc y yo yc g gc L lc q cd wv t A tx fr 10 (a'.tmps.getD 155 undef) w' := hp 10 (oWA1810 p) 155 rfl rfl
    have e11 : psiWA18 x xo xc y yo yc g gc L lc q cd wv t A tx fr 11 (a'.tmps.getD 156 undef) w' := hp 11 (oWA1811 p) 156 rfl rfl
    have hput : a' = puts [(145, .slice (some ⟨g, 0, none⟩) L gc), (146, .slice (some ⟨x, xo, none⟩) L xc), (147, .int .i64 (q : Int)), (148, .pointer (some ⟨x, xo + q * 5, none⟩)), (149, .pointer (some ⟨x, xo + q * 5 + 4, none⟩)), (150, .int .i64 (t : Int)), (151, .slice (some ⟨x, xo, none⟩) L xc), (152, .int .i64 (q : Int)), (153, .pointer (some ⟨x, xo + q * 5, none⟩)), (154, .pointer (some ⟨x, xo + q * 5 + 3, none⟩)), (155, .int .i64 (wv : Int)), (156, .pointer (some ⟨g, 0 + t, none⟩))] a := hF.puts [(145, .slice (some ⟨g, 0, none⟩) L gc), (146, .slice (some ⟨x, xo, none⟩) L xc), (147, .int .i64 (q : Int)), (148, .pointer (some ⟨x, xo + q * 5, none⟩)), (149, .pointer (some ⟨x, xo + q * 5 + 4, none⟩)), (150, .int .i64 (t : Int)), (151, .slice (some ⟨x, xo, none⟩) L xc), (152, .int .i64 (q : Int)), (153, .pointer (some ⟨x, xo + q * 5, none⟩)), (154, .pointer (some ⟨x, xo + q * 5 + 3, none⟩)), (155, .int .i64 (wv : Int)), (156, .pointer (some ⟨g, 0 + t, none⟩))] (by
      intro x hx
      simp only [List.mem_cons, List.not_mem_nil, or_false] at hx
      rcases hx with rfl | rfl | rfl | rfl | rfl | rfl | rfl | rfl | rfl | rfl | rfl | rfl
      · exact e0
      · exact e1
      · exact e2
      · exact e3
      · exact e4
      · exact e5
      · exact e6
      · exact e7
      · exact e8
      · exact e9
      · exact e10
      · exact e11) rfl (by rw [hN]; rfl)
    have hst := run_stN w' g (0 + t) (.int .i64 (-1)) (wv : Int) ((Below.cell hR.undraw (p := ⟨g, 0 + t, none⟩) hgl).trans (by simpa using hgc)) ((Below.frozen hR.undraw (p := ⟨g, 0 + t, none⟩) hgl).trans (by simpa using hgf))
    have hx1 : a'.eval (.tmp 156) = .pointer (some ⟨g, 0 + t, none⟩) := e11
    have hx2 : a'.eval (.tmp 155) = .int .i64 (wv : Int) := e10
    refine step_skip (o := oWA18L p) (w' := w'.setCell ⟨g, 0 + t, none⟩ (.int .i64 (wv : Int))) rfl rfl (by intro c h; cases h) (by simp [Oper.about, oWA18L]) (by
      unfold execOp
      simp only [oWA18L, hx1, hx2, Sem.run_bind, hst, Result.andThen_ok]
      rfl) ?_
    show Q .normal a' _
    rw [hput]
    exact hQ  w'  hR.undraw
def oWA220 (p : String) : Oper := { dst := some 163, op := Op.move (Operand.tmp 11), type := 23, pos := p, after := #[], guard := none }
def oWA221 (p : String) : Oper := { dst := some 164, op := Op.move (Operand.tmp 14), type := 3, pos := p, after := #[], guard := none }
def oWA222 (p : String) : Oper := { dst := some 165, op := Op.indexAddr 23 (Operand.tmp 163) (Operand.tmp 164), type := 0, pos := p, after := #[{ on := 0, ground := Ground.data }, { on := 1, ground := Ground.data }], guard := none }
def oWA223 (p : String) : Oper := { dst := some 166, op := Op.load 3 (Operand.tmp 165), type := 3, pos := p, after := #[{ on := 2, ground := Ground.data }], guard := none }
def oWA224 (p : String) : Oper := { dst := some 167, op := Op.move (Operand.tmp 11), type := 23, pos := p, after := #[], guard := none }
def oWA225 (p : String) : Oper := { dst := some 168, op := Op.move (Operand.tmp 14), type := 3, pos := p, after := #[], guard := none }
def oWA226 (p : String) : Oper := { dst := some 169, op := Op.binOp BinOp.sub 3 (Operand.tmp 168) (Operand.const (Value.int IntKind.i64 1)) 3, type := 3, pos := p, after := #[{ on := 5, ground := Ground.data }], guard := none }
def oWA227 (p : String) : Oper := { dst := some 170, op := Op.indexAddr 23 (Operand.tmp 167) (Operand.tmp 169), type := 0, pos := p, after := #[{ on := 4, ground := Ground.data }, { on := 6, ground := Ground.data }], guard := none }
def oWA228 (p : String) : Oper := { dst := some 171, op := Op.load 3 (Operand.tmp 170), type := 3, pos := p, after := #[{ on := 7, ground := Ground.data }], guard := none }
def oWA229 (p : String) : Oper := { dst := some 172, op := Op.binOp BinOp.lss 3 (Operand.tmp 166) (Operand.tmp 171) 3, type := 4, pos := p, after := #[{ on := 3, ground := Ground.data }, { on := 8, ground := Ground.data }], guard := none }
def opsWA22 (p : String) : List Oper := [oWA220 p, oWA221 p, oWA222 p, oWA223 p, oWA224 p, oWA225 p, oWA226 p, oWA227 p, oWA228 p, oWA229 p]
theorem opsWA22_back (p : String) : backwards (opsWA22 p) = true := by kernel_rfl
theorem opsWA22_slots (p : String) : slotsOk 174 (opsWA22 p) = true := by kernel_rfl
def psiWA22 (g gc L q : Nat) (vu vn : Nat) : Nat → Value → World → Prop
  | 0, v, _ => v = .slice (some ⟨g, 0, none⟩) L gc
  | 1, v, _ => v = .int .i64 ((q + 1 : Nat) : Int)
  | 2, v, _ => v = .pointer (some ⟨g, 0 + (q + 1), none⟩)
  | 3, v, _ => v = .int .i64 (vn : Int)
  | 4, v, _ => v = .slice (some ⟨g, 0, none⟩) L gc
  | 5, v, _ => v = .int .i64 ((q + 1 : Nat) : Int)
  | 6, v, _ => v = .int .i64 (q : Int)
  | 7, v, _ => v = .pointer (some ⟨g, 0 + q, none⟩)
  | 8, v, _ => v = .int .i64 (vu : Int)
  | 9, v, _ => v = .bool false
  | _, _, _ => True
theorem psiWA22_grew (g gc L q : Nat) (vu vn : Nat) : ∀ i v w w', psiWA22 g gc L q vu vn i v w → Grew w w' → psiWA22 g gc L q vu vn i v w' := by
  intro i v w w' h hg
  rcases i with _ | _ | _ | _ | _ | _ | _ | _ | _ | _ | i
  · exact h
  · exact h
  · exact h
  · exact h
  · exact h
  · exact h
  · exact h
  · exact h
  · exact h
  · exact h
  · trivial
set_option maxRecDepth 100000 in
set_option maxHeartbeats 4000000 in
theorem waless {p : String} (g gc L q : Nat) (vu vn : Nat) (hq : q + 1 < L) (hL : L ≤ 1000) (huv : vu ≤ vn) (a : Act) (w : World) (Q : Exit → Act → World → Prop) (hN : a.tmps.size = 174) (h11 : a.tmps.getD 11 undef = .slice (some ⟨g, 0, none⟩) L gc) (h14 : a.tmps.getD 14 undef = .int .i64 ((q + 1 : Nat) : Int)) (hgl : g < w.heap.size) (hu : w.cell? ⟨g, q, none⟩ = some (.int .i64 (vu : Int))) (hv : w.cell? ⟨g, q + 1, none⟩ = some (.int .i64 (vn : Int))) (hQ : ∀ (w' : World), Grew w w' → Q .normal (puts [(163, .slice (some ⟨g, 0, none⟩) L gc), (164, .int .i64 ((q + 1 : Nat) : Int)), (165, .pointer (some ⟨g, 0 + (q + 1), none⟩)), (166, .int .i64 (vn : Int)), (167, .slice (some ⟨g, 0, none⟩) L gc), (168, .int .i64 ((q + 1 : Nat) : Int)), (169, .int .i64 (q : Int)), (170, .pointer (some ⟨g, 0 + q, none⟩)), (171, .int .i64 (vu : Int)), (172, .bool false)] a) w')
    : (Code.region 22 (opsWA22 p).toArray true).wp Tryz.prog Q a w := by
  refine (wpIn_wide (n := 1)).1 (wpIn_region_vals 174 hN follows (opsWA22_back p) (opsWA22_slots p) Grew Grew.refl Grew.trans (psiWA22 g gc L q vu vn) (psiWA22_grew g gc L q vu vn) ?_ ?_)
  · intro i o d ho hd a' w' hF hR hp
    rcases i with _ | _ | _ | _ | _ | _ | _ | _ | _ | _ | i
    · obtain rfl : oWA220 p = o := Option.some.inj ho
      obtain rfl : 163 = d := Option.some.inj hd
      exact step_move rfl rfl rfl (hF.at 11 rfl h11) ⟨_, rfl, rfl, Grew.refl _⟩
    · obtain rfl : oWA221 p = o := Option.some.inj ho
      obtain rfl : 164 = d := Option.some.inj hd
      exact step_move rfl rfl rfl (hF.at 14 rfl h14) ⟨_, rfl, rfl, Grew.refl _⟩
    · obtain rfl : oWA222 p = o := Option.some.inj ho
      obtain rfl : 165 = d := Option.some.inj hd
      have q0 : a'.tmps.getD 163 undef = .slice (some ⟨g, 0, none⟩) L gc := hp 0 (oWA220 p) 163 rfl rfl rfl
      have q1 : a'.tmps.getD 164 undef = .int .i64 ((q + 1 : Nat) : Int) := hp 1 (oWA221 p) 164 rfl rfl rfl
      exact step_index rfl rfl rfl q0 q1 (run_ixN _ _ _ _ _ _ hq) ⟨_, rfl, rfl, Grew.refl _⟩
    · obtain rfl : oWA223 p = o := Option.some.inj ho
      obtain rfl : 166 = d := Option.some.inj hd
      have q2 : a'.tmps.getD 165 undef = .pointer (some ⟨g, 0 + (q + 1), none⟩) := hp 2 (oWA222 p) 165 rfl rfl rfl
      exact step_load rfl rfl rfl q2 (run_ldN _ _ _ ((Below.cell hR.undraw (p := ⟨g, 0 + (q + 1), none⟩) hgl).trans (by simpa using hv))) ⟨_, rfl, rfl, Grew.refl _⟩
    · obtain rfl : oWA224 p = o := Option.some.inj ho
      obtain rfl : 167 = d := Option.some.inj hd
      exact step_move rfl rfl rfl (hF.at 11 rfl h11) ⟨_, rfl, rfl, Grew.refl _⟩
    · obtain rfl : oWA225 p = o := Option.some.inj ho
      obtain rfl : 168 = d := Option.some.inj hd
      exact step_move rfl rfl rfl (hF.at 14 rfl h14) ⟨_, rfl, rfl, Grew.refl _⟩
    · obtain rfl : oWA226 p = o := Option.some.inj ho
      obtain rfl : 169 = d := Option.some.inj hd
      have q5 : a'.tmps.getD 168 undef = .int .i64 ((q + 1 : Nat) : Int) := hp 5 (oWA225 p) 168 rfl rfl rfl
      exact step_bin rfl rfl rfl q5 rfl (guard_int _ _ _ _ _ _ _ _ _) (run_sub1 _ _ (by omega)) ⟨_, rfl, rfl, Grew.refl _⟩
    · obtain rfl : oWA227 p = o := Option.some.inj ho
      obtain rfl : 170 = d := Option.some.inj hd
      have q4 : a'.tmps.getD 167 undef = .slice (some ⟨g, 0, none⟩) L gc := hp 4 (oWA224 p) 167 rfl rfl rfl
      have q6 : a'.tmps.getD 169 undef = .int .i64 (q : Int) := hp 6 (oWA226 p) 169 rfl rfl rfl
      exact step_index rfl rfl rfl q4 q6 (run_ixN _ _ _ _ _ _ (by omega)) ⟨_, rfl, rfl, Grew.refl _⟩
    · obtain rfl : oWA228 p = o := Option.some.inj ho
      obtain rfl : 171 = d := Option.some.inj hd
      have q7 : a'.tmps.getD 170 undef = .pointer (some ⟨g, 0 + q, none⟩) := hp 7 (oWA227 p) 170 rfl rfl rfl
      exact step_load rfl rfl rfl q7 (run_ldN _ _ _ ((Below.cell hR.undraw (p := ⟨g, 0 + q, none⟩) hgl).trans (by simpa using hu))) ⟨_, rfl, rfl, Grew.refl _⟩
    · obtain rfl : oWA229 p = o := Option.some.inj ho
      obtain rfl : 172 = d := Option.some.inj hd
      have q3 : a'.tmps.getD 166 undef = .int .i64 (vn : Int) := hp 3 (oWA223 p) 166 rfl rfl rfl
      have q8 : a'.tmps.getD 171 undef = .int .i64 (vu : Int) := hp 8 (oWA228 p) 171 rfl rfl rfl
      exact step_bin rfl rfl rfl q3 q8 (guard_int _ _ _ _ _ _ _ _ _) (run_ltND _ _ _ (by omega)) ⟨_, rfl, rfl, Grew.refl _⟩
    · exact absurd ((Array.getElem?_eq_some_iff.1 ho).1) (by simp [opsWA22])
  · intro a' w' hF hR hp
    have e0 : psiWA22 g gc L q vu vn 0 (a'.tmps.getD 163 undef) w' := hp 0 (oWA220 p) 163 rfl rfl
    have e1 : psiWA22 g gc L q vu vn 1 (a'.tmps.getD 164 undef) w' := hp 1 (oWA221 p) 164 rfl rfl
    have e2 : psiWA22 g gc L q vu vn 2 (a'.tmps.getD 165 undef) w' := hp 2 (oWA222 p) 165 rfl rfl
    have e3 : psiWA22 g gc L q vu vn 3 (a'.tmps.getD 166 undef) w' := hp 3 (oWA223 p) 166 rfl rfl
    have e4 : psiWA22 g gc L q vu vn 4 (a'.tmps.getD 167 undef) w' := hp 4 (oWA224 p) 167 rfl rfl
    have e5 : psiWA22 g gc L q vu vn 5 (a'.tmps.getD 168 undef) w' := hp 5 (oWA225 p) 168 rfl rfl
    have e6 : psiWA22 g gc L q vu vn 6 (a'.tmps.getD 169 undef) w' := hp 6 (oWA226 p) 169 rfl rfl
    have e7 : psiWA22 g gc L q vu vn 7 (a'.tmps.getD 170 undef) w' := hp 7 (oWA227 p) 170 rfl rfl
    have e8 : psiWA22 g gc L q vu vn 8 (a'.tmps.getD 171 undef) w' := hp 8 (oWA228 p) 171 rfl rfl
    have e9 : psiWA22 g gc L q vu vn 9 (a'.tmps.getD 172 undef) w' := hp 9 (oWA229 p) 172 rfl rfl
    rw [hF.puts [(163, .slice (some ⟨g, 0, none⟩) L gc), (164, .int .i64 ((q + 1 : Nat) : Int)), (165, .pointer (some ⟨g, 0 + (q + 1), none⟩)), (166, .int .i64 (vn : Int)), (167, .slice (some ⟨g, 0, none⟩) L gc), (168, .int .i64 ((q + 1 : Nat) : Int)), (169, .int .i64 (q : Int)), (170, .pointer (some ⟨g, 0 + q, none⟩)), (171, .int .i64 (vu : Int)), (172, .bool false)] ?_ rfl (by rw [hN]; rfl)]
    · exact hQ  w'  hR.undraw
    · intro x hx
      simp only [List.mem_cons, List.not_mem_nil, or_false] at hx
      rcases hx with rfl | rfl | rfl | rfl | rfl | rfl | rfl | rfl | rfl | rfl
      · exact e0
      · exact e1
      · exact e2
      · exact e3
      · exact e4
      · exact e5
      · exact e6
      · exact e7
      · exact e8
      · exact e9
end Go.Proofs.YtfjmdkhemnmkpaaGreatDoor
