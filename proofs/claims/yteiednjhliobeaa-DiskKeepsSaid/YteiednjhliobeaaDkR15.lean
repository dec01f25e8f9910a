/- The statement of the law that what is synced stays that holds an append against what there is, whatever its order of evaluation. -/
import Derived.Test.YteiednjhliobeaaDkR
namespace Go.Proofs.Yteiednjhliobeaa
open Go.RowKit

theorem wanted_undef {ops : Array Oper} {o og : Oper} {a : Act} {g d : Nat} {b : Bool} (hg : o.guard = some (g, b)) (hog : ops[g]? = some og) (hd : og.dst = some d) (h : a.tmps.getD d undef = undef) : Region.wanted o (yielded ops a.tmps) = false := by
  have hn : yielded ops a.tmps g = none := by
    simp only [yielded, hog, hd, Option.bind_some]
    rw [Array.getD_eq_getD_getElem?] at h
    cases hx : a.tmps[d]? with
    | none => rfl
    | some x => rw [hx] at h; simp at h; subst h; rfl
  simp [Region.wanted, hg, hn]
section
variable {n : Nat} {Q : Exit → Act → World → Prop} {ops : Array Oper} {i : Nat} {o : Oper} {a : Act} {w : World} {K : Act → World → Prop}
theorem step_field {t : TypeId} {x : Operand} {j : Nat} {vx v : Value} (hi : ops[i]? = some o) (hw : Region.wanted o (yielded ops a.tmps) = true) (ho : o.op = .fieldAddr t x j) (hx : a.eval x = vx) (hr : (Instr.fieldAt t vx j).run Try.prog w = .ok v w) (h : K (a.put o.dst v) w) : wpOpIn Fence.wide n Try.prog ops Q i K a w :=
  step_run hi hw (by rw [ho]; intro c h; cases h) (by simp [Oper.about, ho]) (by simp [execOp, ho, hx, hr]) h
theorem step_slen {x : Operand} {s : List UInt8} (hi : ops[i]? = some o) (hw : Region.wanted o (yielded ops a.tmps) = true) (ho : o.op = .call { callee := .builtin .len, args := #[x], argTypes := #[9] }) (hx : a.eval x = .string (str s)) (h : K (a.put o.dst (.int .i64 (s.length : Int))) w) : wpOpIn Fence.wide n Try.prog ops Q i K a w := by
  refine step_run hi hw (by rw [ho]; intro c h; cases h) (by simp [Oper.about, ho, resolve, Target.leads, Sem.run_pure]) (v := .int .i64 (s.length : Int)) (w' := w) ?_ h
  have hl : (Builtin.len_ #[9] o.type #[.string (str s)]).run Try.prog w = .ok (.int .i64 (s.length : Int)) w := by
    simp [Builtin.len_, run_underlying Try.underlying9, str_size, goInt]
  unfold execOp
  simp only [ho, resolve, invoke, builtin, Sem.run_bind, Sem.run_pure, Result.andThen_ok, List.map_toArray, List.map_cons, List.map_nil, hx, hl]
end
theorem run_nei (w : World) (t : TypeId) (x y : Int) : (binOp .neq t (.int .i64 x) (.int .i64 y)).run Try.prog w = .ok (.bool (x != y)) w := by
  simp [go_sem]
theorem run_subi (t : TypeId) (w : World) (x y : Int) (h1 : -9223372036854775808 ≤ x - y) (h2 : x - y ≤ 9223372036854775807) : (binOp .sub t (.int .i64 x) (.int .i64 y)).run Try.prog w = .ok (.int .i64 (x - y)) w := by
  simp [go_sem, IntKind.wrap_i64]; omega
theorem run_rem7 (w : World) (d q : Nat) (hd : d < 256) (hq : d % 7 = q) : (binOp .rem 5 (.int .u8 (d : Int)) (.int .u8 7)).run Try.prog w = .ok (.int .u8 (q : Int)) w := by
  have h : (d : Int).tmod 7 = (q : Int) := by rw [Int.tmod_eq_emod_of_nonneg (by omega)]; omega
  simp [go_sem, h]
theorem run_ixD (w : World) (b o L c q : Nat) (h : q < L) : (Instr.indexAt 22 (.slice (some ⟨b, o, none⟩) L c) (.int .i64 (q : Int))).run Try.prog w = .ok (.pointer (some ⟨b, o + q * 3, none⟩)) w := by
  have h1 : (0 : Int) ≤ q := by omega
  have h2 : (q : Int) < L := by omega
  simp [go_sem, h1, h2, h]
theorem run_fd0 (w : World) (b o : Nat) : (Instr.fieldAt 29 (.pointer (some ⟨b, o, none⟩)) 0).run Try.prog w = .ok (.pointer (some ⟨b, o, none⟩)) w := by
  simp [go_sem]
theorem run_fd2 (w : World) (b o : Nat) : (Instr.fieldAt 29 (.pointer (some ⟨b, o, none⟩)) 2).run Try.prog w = .ok (.pointer (some ⟨b, o + 2, none⟩)) w := by
  simp [go_sem]
theorem run_ldU8 (w : World) (p : Addr) (d : Int) (h : w.cell? p = some (.int .u8 d)) : (Instr.loadAt 5 (.pointer (some p))).run Try.prog w = .ok (.int .u8 d) w := by
  simp [go_sem, h]
theorem run_ldSl (w : World) (p : Addr) (A : Option Addr) (L c : Nat) (h : w.cell? p = some (.slice A L c)) : (Instr.loadAt 27 (.pointer (some p))).run Try.prog w = .ok (.slice A L c) w := by
  simp [go_sem, h]
theorem str_extract (x : List UInt8) (i j : Nat) : (str x).extract i j = str ((x.drop i).take (j - i)) := by
  apply ByteArray.ext
  apply Array.ext'
  simp [str]
/-- s[n:] of a text. -/
theorem run_sfrom (w : World) (x : List UInt8) (n : Nat) (h : n ≤ x.length) (hl : x.length ≤ 1000000) : (Instr.sliceAt 9 (.string (str x)) (some (.int .i64 (n : Int))) none none).run Try.prog w = .ok (.string (str (x.drop n))) w := by
  have h1 : (0 : Int) ≤ n := by omega
  have h2 : (n : Int) ≤ x.length := by omega
  have hz := str_size x
  have he : (str x).extract n x.length = str (x.drop n) := by
    rw [str_extract, List.take_of_length_le (by simp)]
  simp [go_sem, hz, h1, h2, he]
def oKN0 (p : String) : Oper := { dst := some 97, op := Op.move (Operand.tmp 0), type := 22, pos := p, after := #[], guard := none }
def oKN1 (p : String) : Oper := { dst := some 98, op := Op.move (Operand.tmp 5), type := 3, pos := p, after := #[], guard := none }
def oKN2 (p : String) : Oper := { dst := some 99, op := Op.indexAddr 22 (Operand.tmp 97) (Operand.tmp 98), type := 0, pos := p, after := #[{ on := 0, ground := Ground.data }, { on := 1, ground := Ground.data }], guard := none }
def oKN3 (p : String) : Oper := { dst := some 100, op := Op.fieldAddr 29 (Operand.tmp 99) 0, type := 0, pos := p, after := #[{ on := 2, ground := Ground.data }], guard := none }
def oKN4 (p : String) : Oper := { dst := some 101, op := Op.load 5 (Operand.tmp 100), type := 5, pos := p, after := #[{ on := 3, ground := Ground.data }], guard := none }
def oKN5 (p : String) : Oper := { dst := some 102, op := Op.binOp BinOp.rem 5 (Operand.tmp 101) (Operand.const (Value.int IntKind.u8 7)) 5, type := 5, pos := p, after := #[{ on := 4, ground := Ground.data }], guard := none }
def oKN6 (p : String) : Oper := { dst := some 103, op := Op.binOp BinOp.eql 5 (Operand.tmp 102) (Operand.const (Value.int IntKind.u8 0)) 5, type := 4, pos := p, after := #[{ on := 5, ground := Ground.data }], guard := none }
def oKN7 (p : String) : Oper := { dst := some 104, op := Op.move (Operand.tmp 103), type := 4, pos := p, after := #[{ on := 6, ground := Ground.data }], guard := none }
def oKN8 (p : String) : Oper := { dst := some 105, op := Op.move (Operand.tmp 10), type := 4, pos := p, after := #[{ on := 7, ground := Ground.guard }], guard := some (7, true) }
def oKN9 (p : String) : Oper := { dst := some 106, op := Op.unOp UnOp.not 4 (Operand.tmp 105), type := 4, pos := p, after := #[{ on := 8, ground := Ground.data }, { on := 7, ground := Ground.guard }], guard := some (7, true) }
def oKN10 (p : String) : Oper := { dst := some 107, op := Op.move (Operand.tmp 106), type := 4, pos := p, after := #[{ on := 9, ground := Ground.data }, { on := 7, ground := Ground.chain }, { on := 7, ground := Ground.guard }], guard := some (7, true) }
def oKN11 (p : String) : Oper := { dst := some 108, op := Op.move (Operand.tmp 8), type := 31, pos := p, after := #[{ on := 10, ground := Ground.guard }], guard := some (10, false) }
def oKN12 (p : String) : Oper := { dst := some 109, op := Op.binOp BinOp.neq 31 (Operand.tmp 108) (Operand.const (Value.int IntKind.i64 20)) 31, type := 4, pos := p, after := #[{ on := 11, ground := Ground.data }, { on := 10, ground := Ground.guard }], guard := some (10, false) }
def oKN13 (p : String) : Oper := { dst := some 110, op := Op.move (Operand.tmp 109), type := 4, pos := p, after := #[{ on := 12, ground := Ground.data }, { on := 10, ground := Ground.chain }, { on := 10, ground := Ground.guard }], guard := some (10, false) }
def oKN14 (p : String) : Oper := { dst := some 111, op := Op.move (Operand.tmp 9), type := 9, pos := p, after := #[{ on := 13, ground := Ground.guard }], guard := some (13, true) }
def oKN15 (p : String) : Oper := { dst := some 112, op := Op.move (Operand.tmp 6), type := 9, pos := p, after := #[{ on := 13, ground := Ground.guard }], guard := some (13, true) }
def oKN16 (p : String) : Oper := { dst := some 113, op := Op.call { callee := Callee.builtin Builtin.len, args := #[Operand.tmp 112], argTypes := #[9] }, type := 3, pos := p, after := #[{ on := 15, ground := Ground.data }, { on := 13, ground := Ground.guard }], guard := some (13, true) }
def oKN17 (p : String) : Oper := { dst := some 114, op := Op.slice 9 (Operand.tmp 111) (some (Operand.tmp 113)) none none, type := 9, pos := p, after := #[{ on := 14, ground := Ground.data }, { on := 16, ground := Ground.data }, { on := 13, ground := Ground.guard }], guard := some (13, true) }
def oKN18 (p : String) : Oper := { dst := some 115, op := Op.move (Operand.tmp 0), type := 22, pos := p, after := #[{ on := 13, ground := Ground.guard }], guard := some (13, true) }
def oKN19 (p : String) : Oper := { dst := some 116, op := Op.move (Operand.tmp 5), type := 3, pos := p, after := #[{ on := 13, ground := Ground.guard }], guard := some (13, true) }
def oKN20 (p : String) : Oper := { dst := some 117, op := Op.indexAddr 22 (Operand.tmp 115) (Operand.tmp 116), type := 0, pos := p, after := #[{ on := 18, ground := Ground.data }, { on := 19, ground := Ground.data }, { on := 13, ground := Ground.guard }], guard := some (13, true) }
def oKN21 (p : String) : Oper := { dst := some 118, op := Op.fieldAddr 29 (Operand.tmp 117) 2, type := 0, pos := p, after := #[{ on := 20, ground := Ground.data }, { on := 13, ground := Ground.guard }], guard := some (13, true) }
def oKN22 (p : String) : Oper := { dst := some 119, op := Op.load 27 (Operand.tmp 118), type := 27, pos := p, after := #[{ on := 21, ground := Ground.data }, { on := 13, ground := Ground.guard }], guard := some (13, true) }
def oKN23 (p : String) : Oper := { dst := some 120, op := Op.move (Operand.tmp 9), type := 9, pos := p, after := #[{ on := 13, ground := Ground.guard }], guard := some (13, true) }
def oKN24 (p : String) : Oper := { dst := some 121, op := Op.call { callee := Callee.builtin Builtin.len, args := #[Operand.tmp 120], argTypes := #[9] }, type := 3, pos := p, after := #[{ on := 23, ground := Ground.data }, { on := 13, ground := Ground.guard }], guard := some (13, true) }
def oKN25 (p : String) : Oper := { dst := some 122, op := Op.move (Operand.tmp 6), type := 9, pos := p, after := #[{ on := 13, ground := Ground.guard }], guard := some (13, true) }
def oKN26 (p : String) : Oper := { dst := some 123, op := Op.call { callee := Callee.builtin Builtin.len, args := #[Operand.tmp 122], argTypes := #[9] }, type := 3, pos := p, after := #[{ on := 25, ground := Ground.data }, { on := 13, ground := Ground.guard }], guard := some (13, true) }
def oKN27 (p : String) : Oper := { dst := some 124, op := Op.binOp BinOp.sub 3 (Operand.tmp 121) (Operand.tmp 123) 3, type := 3, pos := p, after := #[{ on := 24, ground := Ground.data }, { on := 26, ground := Ground.data }, { on := 13, ground := Ground.guard }], guard := some (13, true) }
def oKN28 (p : String) : Oper := { dst := some 125, op := Op.slice 27 (Operand.tmp 119) none (some (Operand.tmp 124)) none, type := 27, pos := p, after := #[{ on := 22, ground := Ground.data }, { on := 27, ground := Ground.data }, { on := 13, ground := Ground.guard }], guard := some (13, true) }
def oKN29 (p : String) : Oper := { dst := some 126, op := Op.convert 27 9 (Operand.tmp 125), type := 9, pos := p, after := #[{ on := 28, ground := Ground.data }, { on := 13, ground := Ground.guard }], guard := some (13, true) }
def oKN30 (p : String) : Oper := { dst := some 127, op := Op.binOp BinOp.neq 9 (Operand.tmp 114) (Operand.tmp 126) 9, type := 4, pos := p, after := #[{ on := 17, ground := Ground.data }, { on := 29, ground := Ground.data }, { on := 13, ground := Ground.guard }], guard := some (13, true) }
def oKN31 (p : String) : Oper := { dst := some 128, op := Op.pick (Operand.tmp 110) (Operand.tmp 127) (Operand.const (Value.bool false)), type := 4, pos := p, after := #[{ on := 13, ground := Ground.data }, { on := 30, ground := Ground.data }, { on := 10, ground := Ground.guard }], guard := some (10, false) }
def oKN32 (p : String) : Oper := { dst := some 129, op := Op.pick (Operand.tmp 107) (Operand.const (Value.bool true)) (Operand.tmp 128), type := 4, pos := p, after := #[{ on := 10, ground := Ground.data }, { on := 31, ground := Ground.data }, { on := 7, ground := Ground.guard }], guard := some (7, true) }
def oKN33 (p : String) : Oper := { dst := some 130, op := Op.move (Operand.tmp 129), type := 4, pos := p, after := #[{ on := 32, ground := Ground.data }, { on := 13, ground := Ground.chain }, { on := 7, ground := Ground.guard }], guard := some (7, true) }
def oKN34 (p : String) : Oper := { dst := some 131, op := Op.move (Operand.tmp 8), type := 31, pos := p, after := #[{ on := 33, ground := Ground.guard }], guard := some (33, false) }
def oKN35 (p : String) : Oper := { dst := some 132, op := Op.binOp BinOp.eql 31 (Operand.tmp 131) (Operand.const (Value.int IntKind.i64 0)) 31, type := 4, pos := p, after := #[{ on := 34, ground := Ground.data }, { on := 33, ground := Ground.guard }], guard := some (33, false) }
def oKN36 (p : String) : Oper := { dst := some 133, op := Op.move (Operand.tmp 132), type := 4, pos := p, after := #[{ on := 35, ground := Ground.data }, { on := 33, ground := Ground.chain }, { on := 33, ground := Ground.guard }], guard := some (33, false) }
def oKN37 (p : String) : Oper := { dst := some 134, op := Op.move (Operand.tmp 9), type := 9, pos := p, after := #[{ on := 36, ground := Ground.guard }], guard := some (36, true) }
def oKN38 (p : String) : Oper := { dst := some 135, op := Op.call { callee := Callee.builtin Builtin.len, args := #[Operand.tmp 134], argTypes := #[9] }, type := 3, pos := p, after := #[{ on := 37, ground := Ground.data }, { on := 36, ground := Ground.guard }], guard := some (36, true) }
def oKN39 (p : String) : Oper := { dst := some 136, op := Op.move (Operand.tmp 6), type := 9, pos := p, after := #[{ on := 36, ground := Ground.guard }], guard := some (36, true) }
def oKN40 (p : String) : Oper := { dst := some 137, op := Op.call { callee := Callee.builtin Builtin.len, args := #[Operand.tmp 136], argTypes := #[9] }, type := 3, pos := p, after := #[{ on := 39, ground := Ground.data }, { on := 36, ground := Ground.guard }], guard := some (36, true) }
def oKN41 (p : String) : Oper := { dst := some 138, op := Op.move (Operand.tmp 0), type := 22, pos := p, after := #[{ on := 36, ground := Ground.guard }], guard := some (36, true) }
def oKN42 (p : String) : Oper := { dst := some 139, op := Op.move (Operand.tmp 5), type := 3, pos := p, after := #[{ on := 36, ground := Ground.guard }], guard := some (36, true) }
def oKN43 (p : String) : Oper := { dst := some 140, op := Op.indexAddr 22 (Operand.tmp 138) (Operand.tmp 139), type := 0, pos := p, after := #[{ on := 41, ground := Ground.data }, { on := 42, ground := Ground.data }, { on := 36, ground := Ground.guard }], guard := some (36, true) }
def oKN44 (p : String) : Oper := { dst := some 141, op := Op.fieldAddr 29 (Operand.tmp 140) 2, type := 0, pos := p, after := #[{ on := 43, ground := Ground.data }, { on := 36, ground := Ground.guard }], guard := some (36, true) }
def oKN45 (p : String) : Oper := { dst := some 142, op := Op.load 27 (Operand.tmp 141), type := 27, pos := p, after := #[{ on := 44, ground := Ground.data }, { on := 36, ground := Ground.guard }], guard := some (36, true) }
def oKN46 (p : String) : Oper := { dst := some 143, op := Op.call { callee := Callee.builtin Builtin.len, args := #[Operand.tmp 142], argTypes := #[27] }, type := 3, pos := p, after := #[{ on := 45, ground := Ground.data }, { on := 36, ground := Ground.guard }], guard := some (36, true) }
def oKN47 (p : String) : Oper := { dst := some 144, op := Op.binOp BinOp.add 3 (Operand.tmp 137) (Operand.tmp 143) 3, type := 3, pos := p, after := #[{ on := 40, ground := Ground.data }, { on := 46, ground := Ground.data }, { on := 36, ground := Ground.guard }], guard := some (36, true) }
def oKN48 (p : String) : Oper := { dst := some 145, op := Op.binOp BinOp.neq 3 (Operand.tmp 135) (Operand.tmp 144) 3, type := 4, pos := p, after := #[{ on := 38, ground := Ground.data }, { on := 47, ground := Ground.data }, { on := 36, ground := Ground.guard }], guard := some (36, true) }
def oKN49 (p : String) : Oper := { dst := some 146, op := Op.pick (Operand.tmp 133) (Operand.tmp 145) (Operand.const (Value.bool false)), type := 4, pos := p, after := #[{ on := 36, ground := Ground.data }, { on := 48, ground := Ground.data }, { on := 33, ground := Ground.guard }], guard := some (33, false) }
def oKN50 (p : String) : Oper := { dst := some 147, op := Op.pick (Operand.tmp 130) (Operand.const (Value.bool true)) (Operand.tmp 146), type := 4, pos := p, after := #[{ on := 33, ground := Ground.data }, { on := 49, ground := Ground.data }, { on := 7, ground := Ground.guard }], guard := some (7, true) }
def oKN51 (p : String) : Oper := { dst := some 148, op := Op.move (Operand.tmp 147), type := 4, pos := p, after := #[{ on := 50, ground := Ground.data }, { on := 36, ground := Ground.chain }, { on := 7, ground := Ground.guard }], guard := some (7, true) }
def oKN52 (p : String) : Oper := { dst := some 149, op := Op.move (Operand.tmp 8), type := 31, pos := p, after := #[{ on := 51, ground := Ground.guard }], guard := some (51, false) }
def oKN53 (p : String) : Oper := { dst := some 150, op := Op.binOp BinOp.eql 31 (Operand.tmp 149) (Operand.const (Value.int IntKind.i64 21)) 31, type := 4, pos := p, after := #[{ on := 52, ground := Ground.data }, { on := 51, ground := Ground.guard }], guard := some (51, false) }
def oKN54 (p : String) : Oper := { dst := some 151, op := Op.move (Operand.tmp 150), type := 4, pos := p, after := #[{ on := 53, ground := Ground.data }, { on := 51, ground := Ground.chain }, { on := 51, ground := Ground.guard }], guard := some (51, false) }
def oKN55 (p : String) : Oper := { dst := some 152, op := Op.move (Operand.tmp 3), type := 25, pos := p, after := #[{ on := 54, ground := Ground.guard }], guard := some (54, true) }
def oKN56 (p : String) : Oper := { dst := some 153, op := Op.call { callee := Callee.value (Operand.func 8), args := #[Operand.tmp 152], argTypes := #[25] }, type := 4, pos := p, after := #[{ on := 55, ground := Ground.data }, { on := 54, ground := Ground.chain }, { on := 54, ground := Ground.guard }], guard := some (54, true) }
def oKN57 (p : String) : Oper := { dst := some 154, op := Op.unOp UnOp.not 4 (Operand.tmp 153), type := 4, pos := p, after := #[{ on := 56, ground := Ground.data }, { on := 54, ground := Ground.guard }], guard := some (54, true) }
def oKN58 (p : String) : Oper := { dst := some 155, op := Op.pick (Operand.tmp 151) (Operand.tmp 154) (Operand.const (Value.bool false)), type := 4, pos := p, after := #[{ on := 54, ground := Ground.data }, { on := 57, ground := Ground.data }, { on := 51, ground := Ground.guard }], guard := some (51, false) }
def oKN59 (p : String) : Oper := { dst := some 156, op := Op.pick (Operand.tmp 148) (Operand.const (Value.bool true)) (Operand.tmp 155), type := 4, pos := p, after := #[{ on := 51, ground := Ground.data }, { on := 58, ground := Ground.data }, { on := 7, ground := Ground.guard }], guard := some (7, true) }
def oKN60 (p : String) : Oper := { dst := some 157, op := Op.pick (Operand.tmp 104) (Operand.tmp 156) (Operand.const (Value.bool false)), type := 4, pos := p, after := #[{ on := 7, ground := Ground.data }, { on := 59, ground := Ground.data }], guard := none }
def opsKN (p : String) : List Oper := [oKN0 p, oKN1 p, oKN2 p, oKN3 p, oKN4 p, oKN5 p, oKN6 p, oKN7 p, oKN8 p, oKN9 p, oKN10 p, oKN11 p, oKN12 p, oKN13 p, oKN14 p, oKN15 p, oKN16 p, oKN17 p, oKN18 p, oKN19 p, oKN20 p, oKN21 p, oKN22 p, oKN23 p, oKN24 p, oKN25 p, oKN26 p, oKN27 p, oKN28 p, oKN29 p, oKN30 p, oKN31 p, oKN32 p, oKN33 p, oKN34 p, oKN35 p, oKN36 p, oKN37 p, oKN38 p, oKN39 p, oKN40 p, oKN41 p, oKN42 p, oKN43 p, oKN44 p, oKN45 p, oKN46 p, oKN47 p, oKN48 p, oKN49 p, oKN50 p, oKN51 p, oKN52 p, oKN53 p, oKN54 p, oKN55 p, oKN56 p, oKN57 p, oKN58 p, oKN59 p, oKN60 p]
theorem opsKN_back (p : String) : backwards (opsKN p) = true := by kernel_rfl
theorem opsKN_slots (p : String) : slotsOk 176 (opsKN p) = true := by kernel_rfl
/-- What each slot comes to. -/
def psiKN (P : DiskK) (w0 : World) (R : Nat) (t : DS) (lb lo Ln lc k d q : Nat) (Nn Bb x : List UInt8) (AB : Option Addr) (LB cB m : Nat) (b : Bool) (eR : Int) : Nat → Value → World → Prop
  | 0, v, _ => v = .slice (some ⟨lb, lo, none⟩) Ln lc
  | 1, v, _ => v = .int .i64 (k : Int)
  | 2, v, _ => v = .pointer (some ⟨lb, lo + k * 3, none⟩)
  | 3, v, _ => v = .pointer (some ⟨lb, lo + k * 3, none⟩)
  | 4, v, _ => v = .int .u8 (d : Int)
  | 5, v, _ => v = .int .u8 (q : Int)
  | 6, v, _ => v = .bool false
  | 7, v, _ => v = .bool false
  | 8, v, _ => v = undef
  | 9, v, _ => v = undef
  | 10, v, _ => v = undef
  | 11, v, _ => v = undef
  | 12, v, _ => v = undef
  | 13, v, _ => v = undef
  | 14, v, _ => v = undef
  | 15, v, _ => v = undef
  | 16, v, _ => v = undef
  | 17, v, _ => v = undef
  | 18, v, _ => v = undef
  | 19, v, _ => v = undef
  | 20, v, _ => v = undef
  | 21, v, _ => v = undef
  | 22, v, _ => v = undef
  | 23, v, _ => v = undef
  | 24, v, _ => v = undef
  | 25, v, _ => v = undef
  | 26, v, _ => v = undef
  | 27, v, _ => v = undef
  | 28, v, _ => v = undef
  | 29, v, _ => v = undef
  | 30, v, _ => v = undef
  | 31, v, _ => v = undef
  | 32, v, _ => v = undef
  | 33, v, _ => v = undef
  | 34, v, _ => v = undef
  | 35, v, _ => v = undef
  | 36, v, _ => v = undef
  | 37, v, _ => v = undef
  | 38, v, _ => v = undef
  | 39, v, _ => v = undef
  | 40, v, _ => v = undef
  | 41, v, _ => v = undef
  | 42, v, _ => v = undef
  | 43, v, _ => v = undef
  | 44, v, _ => v = undef
  | 45, v, _ => v = undef
  | 46, v, _ => v = undef
  | 47, v, _ => v = undef
  | 48, v, _ => v = undef
  | 49, v, _ => v = undef
  | 50, v, _ => v = undef
  | 51, v, _ => v = undef
  | 52, v, _ => v = undef
  | 53, v, _ => v = undef
  | 54, v, _ => v = undef
  | 55, v, _ => v = undef
  | 56, v, _ => v = undef
  | 57, v, _ => v = undef
  | 58, v, _ => v = undef
  | 59, v, _ => v = undef
  | 60, v, _ => v = .bool false
  | _, _, _ => True
theorem psiKN_grew (P : DiskK) (w0 : World) (R : Nat) (t : DS) (lb lo Ln lc k d q : Nat) (Nn Bb x : List UInt8) (AB : Option Addr) (LB cB m : Nat) (b : Bool) (eR : Int) : ∀ i v w w', psiKN P w0 R t lb lo Ln lc k d q Nn Bb x AB LB cB m b eR i v w → Grew w w' → psiKN P w0 R t lb lo Ln lc k d q Nn Bb x AB LB cB m b eR i v w' := by
  intro i v w w' h hg
  rcases i with _ | _ | _ | _ | _ | _ | _ | _ | _ | _ | _ | _ | _ | _ | _ | _ | _ | _ | _ | _ | _ | _ | _ | _ | _ | _ | _ | _ | _ | _ | _ | _ | _ | _ | _ | _ | _ | _ | _ | _ | _ | _ | _ | _ | _ | _ | _ | _ | _ | _ | _ | _ | _ | _ | _ | _ | _ | _ | _ | _ | _ | i
  · exact h
  · exact h
  · exact h
  · exact h
  · exact h
  · exact h
  · exact h
  · exact h
  · exact h
  · exact h
  · exact h
  · exact h
  · exact h
  · exact h
  · exact h
  · exact h
  · exact h
  · exact h
  · exact h
  · exact h
  · exact h
  · exact h
  · exact h
  · exact h
  · exact h
  · exact h
  · exact h
  · exact h
  · exact h
  · exact h
  · exact h
  · exact h
  · exact h
  · exact h
  · exact h
  · exact h
  · exact h
  · exact h
  · exact h
  · exact h
  · exact h
  · exact h
  · exact h
  · exact h
  · exact h
  · exact h
  · exact h
  · exact h
  · exact h
  · exact h
  · exact h
  · exact h
  · exact h
  · exact h
  · exact h
  · exact h
  · exact h
  · exact h
  · exact h
  · exact h
  · exact h
  · trivial
set_option maxRecDepth 100000 in
set_option maxHeartbeats 4000000 in
theorem keeps_other {p : String} (P : DiskK) (w0 : World) (R : Nat) (t : DS) (lb lo Ln lc k d q : Nat) (Nn Bb x : List UInt8) (AB : Option Addr) (LB cB m : Nat) (b : Bool) (eR : Int) (hk : k < Ln) (hd8 : d < 256) (hq : d % 7 = q) (hq0 : q ≠ 0) (a : Act) (w : World) (Q : Exit → Act → World → Prop) (hN : a.tmps.size = 176) (h0 : a.tmps.getD 0 undef = .slice (some ⟨lb, lo, none⟩) Ln lc) (h3 : a.tmps.getD 3 undef = .pointer (some ⟨R, 0, none⟩)) (h5 : a.tmps.getD 5 undef = .int .i64 (k : Int)) (h6 : a.tmps.getD 6 undef = .string (str Bb)) (h8 : a.tmps.getD 8 undef = .int .i64 eR) (h9 : a.tmps.getD 9 undef = .string (str Nn)) (h10 : a.tmps.getD 10 undef = .bool b) (hlb : lb < w.heap.size) (hk0 : w.cell? ⟨lb, lo + k * 3, none⟩ = some (.int .u8 (d : Int))) (hk2 : w.cell? ⟨lb, lo + k * 3 + 2, none⟩ = some (.slice AB LB cB)) (hA : HasA w w.heap.size AB x) (hl : LiveD P w0 R t w) (hQ : ∀ (w' : World), Grew w w' → Q .normal (puts [(97, .slice (some ⟨lb, lo, none⟩) Ln lc), (98, .int .i64 (k : Int)), (99, .pointer (some ⟨lb, lo + k * 3, none⟩)), (100, .pointer (some ⟨lb, lo + k * 3, none⟩)), (101, .int .u8 (d : Int)), (102, .int .u8 (q : Int)), (103, .bool false), (104, .bool false), (105, undef), (106, undef), (107, undef), (108, undef), (109, undef), (110, undef), (111, undef), (112, undef), (113, undef), (114, undef), (115, undef), (116, undef), (117, undef), (118, undef), (119, undef), (120, undef), (121, undef), (122, undef), (123, undef), (124, undef), (125, undef), (126, undef), (127, undef), (128, undef), (129, undef), (130, undef), (131, undef), (132, undef), (133, undef), (134, undef), (135, undef), (136, undef), (137, undef), (138, undef), (139, undef), (140, undef), (141, undef), (142, undef), (143, undef), (144, undef), (145, undef), (146, undef), (147, undef), (148, undef), (149, undef), (150, undef), (151, undef), (152, undef), (153, undef), (154, undef), (155, undef), (156, undef), (157, .bool false)] a) w')
    : (Code.region 15 (opsKN p).toArray true).wp Try.prog Q a w := by
  refine (wpIn_wide (n := 1)).1 (wpIn_region_vals 176 hN follows (opsKN_back p) (opsKN_slots p) Grew Grew.refl Grew.trans (psiKN P w0 R t lb lo Ln lc k d q Nn Bb x AB LB cB m b eR) (psiKN_grew P w0 R t lb lo Ln lc k d q Nn Bb x AB LB cB m b eR) ?_ ?_)
  · intro i o d ho hd a' w' hF hR hp
    rcases i with _ | _ | _ | _ | _ | _ | _ | _ | _ | _ | _ | _ | _ | _ | _ | _ | _ | _ | _ | _ | _ | _ | _ | _ | _ | _ | _ | _ | _ | _ | _ | _ | _ | _ | _ | _ | _ | _ | _ | _ | _ | _ | _ | _ | _ | _ | _ | _ | _ | _ | _ | _ | _ | _ | _ | _ | _ | _ | _ | _ | _ | i
    · obtain rfl : oKN0 p = o := Option.some.inj ho
      obtain rfl : 97 = d := Option.some.inj hd
      exact step_move rfl rfl rfl (hF.at 0 rfl h0) ⟨_, rfl, rfl, Grew.refl _⟩
    · obtain rfl : oKN1 p = o := Option.some.inj ho
      obtain rfl : 98 = d := Option.some.inj hd
      exact step_move rfl rfl rfl (hF.at 5 rfl h5) ⟨_, rfl, rfl, Grew.refl _⟩
    · obtain rfl : oKN2 p = o := Option.some.inj ho
      obtain rfl : 99 = d := Option.some.inj hd
      have q0 : a'.tmps.getD 97 undef = .slice (some ⟨lb, lo, none⟩) Ln lc := hp 0 (oKN0 p) 97 rfl rfl rfl
      have q1 : a'.tmps.getD 98 undef = .int .i64 (k : Int) := hp 1 (oKN1 p) 98 rfl rfl rfl
      exact step_index rfl rfl rfl q0 q1 (run_ixD _ _ _ _ _ _ hk) ⟨_, rfl, rfl, Grew.refl _⟩
    · obtain rfl : oKN3 p = o := Option.some.inj ho
      obtain rfl : 100 = d := Option.some.inj hd
      have q2 : a'.tmps.getD 99 undef = .pointer (some ⟨lb, lo + k * 3, none⟩) := hp 2 (oKN2 p) 99 rfl rfl rfl
      exact step_field rfl rfl rfl q2 (run_fd0 _ _ _) ⟨_, rfl, rfl, Grew.refl _⟩
    · obtain rfl : oKN4 p = o := Option.some.inj ho
      obtain rfl : 101 = d := Option.some.inj hd
      have q3 : a'.tmps.getD 100 undef = .pointer (some ⟨lb, lo + k * 3, none⟩) := hp 3 (oKN3 p) 100 rfl rfl rfl
      exact step_load rfl rfl rfl q3 (run_ldU8 _ _ _ ((Below.cell hR.undraw (p := ⟨lb, lo + k * 3, none⟩) hlb).trans hk0)) ⟨_, rfl, rfl, Grew.refl _⟩
    · obtain rfl : oKN5 p = o := Option.some.inj ho
      obtain rfl : 102 = d := Option.some.inj hd
      have q4 : a'.tmps.getD 101 undef = .int .u8 (d : Int) := hp 4 (oKN4 p) 101 rfl rfl rfl
      exact step_bin rfl rfl rfl q4 rfl (guard_int _ _ _ _ _ _ _ _ _) (run_rem7 _ _ _ hd8 hq) ⟨_, rfl, rfl, Grew.refl _⟩
    · obtain rfl : oKN6 p = o := Option.some.inj ho
      obtain rfl : 103 = d := Option.some.inj hd
      have q5 : a'.tmps.getD 102 undef = .int .u8 (q : Int) := hp 5 (oKN5 p) 102 rfl rfl rfl
      exact step_bin rfl rfl rfl q5 rfl (guard_int _ _ _ _ _ _ _ _ _) ((run_eqi _ _ _ _ _).trans (by simp; omega)) ⟨_, rfl, rfl, Grew.refl _⟩
    · obtain rfl : oKN7 p = o := Option.some.inj ho
      obtain rfl : 104 = d := Option.some.inj hd
      have q6 : a'.tmps.getD 103 undef = .bool false := hp 6 (oKN6 p) 103 rfl rfl rfl
      exact step_move rfl rfl rfl q6 ⟨_, rfl, rfl, Grew.refl _⟩
    · obtain rfl : oKN8 p = o := Option.some.inj ho
      obtain rfl : 105 = d := Option.some.inj hd
      have q7 : a'.tmps.getD 104 undef = .bool false := hp 7 (oKN7 p) 104 rfl rfl rfl
      exact step_off rfl (wanted_off rfl (show (opsKN p).toArray[7]? = some (oKN7 p) from rfl) rfl q7) ⟨_, rfl, rfl, Grew.refl _⟩
    · obtain rfl : oKN9 p = o := Option.some.inj ho
      obtain rfl : 106 = d := Option.some.inj hd
      have q7 : a'.tmps.getD 104 undef = .bool false := hp 7 (oKN7 p) 104 rfl rfl rfl
      exact step_off rfl (wanted_off rfl (show (opsKN p).toArray[7]? = some (oKN7 p) from rfl) rfl q7) ⟨_, rfl, rfl, Grew.refl _⟩
    · obtain rfl : oKN10 p = o := Option.some.inj ho
      obtain rfl : 107 = d := Option.some.inj hd
      have q7 : a'.tmps.getD 104 undef = .bool false := hp 7 (oKN7 p) 104 rfl rfl rfl
      exact step_off rfl (wanted_off rfl (show (opsKN p).toArray[7]? = some (oKN7 p) from rfl) rfl q7) ⟨_, rfl, rfl, Grew.refl _⟩
    · obtain rfl : oKN11 p = o := Option.some.inj ho
      obtain rfl : 108 = d := Option.some.inj hd
      have q10 : a'.tmps.getD 107 undef = undef := hp 10 (oKN10 p) 107 rfl rfl rfl
      exact step_off rfl (wanted_undef rfl (show (opsKN p).toArray[10]? = some (oKN10 p) from rfl) rfl q10) ⟨_, rfl, rfl, Grew.refl _⟩
    · obtain rfl : oKN12 p = o := Option.some.inj ho
      obtain rfl : 109 = d := Option.some.inj hd
      have q10 : a'.tmps.getD 107 undef = undef := hp 10 (oKN10 p) 107 rfl rfl rfl
      exact step_off rfl (wanted_undef rfl (show (opsKN p).toArray[10]? = some (oKN10 p) from rfl) rfl q10) ⟨_, rfl, rfl, Grew.refl _⟩
    · obtain rfl : oKN13 p = o := Option.some.inj ho
      obtain rfl : 110 = d := Option.some.inj hd
      have q10 : a'.tmps.getD 107 undef = undef := hp 10 (oKN10 p) 107 rfl rfl rfl
      exact step_off rfl (wanted_undef rfl (show (opsKN p).toArray[10]? = some (oKN10 p) from rfl) rfl q10) ⟨_, rfl, rfl, Grew.refl _⟩
    · obtain rfl : oKN14 p = o := Option.some.inj ho
      obtain rfl : 111 = d := Option.some.inj hd
      have q13 : a'.tmps.getD 110 undef = undef := hp 13 (oKN13 p) 110 rfl rfl rfl
      exact step_off rfl (wanted_undef rfl (show (opsKN p).toArray[13]? = some (oKN13 p) from rfl) rfl q13) ⟨_, rfl, rfl, Grew.refl _⟩
    · obtain rfl : oKN15 p = o := Option.some.inj ho
      obtain rfl : 112 = d := Option.some.inj hd
      have q13 : a'.tmps.getD 110 undef = undef := hp 13 (oKN13 p) 110 rfl rfl rfl
      exact step_off rfl (wanted_undef rfl (show (opsKN p).toArray[13]? = some (oKN13 p) from rfl) rfl q13) ⟨_, rfl, rfl, Grew.refl _⟩
    · obtain rfl : oKN16 p = o := Option.some.inj ho
      obtain rfl : 113 = d := Option.some.inj hd
      have q13 : a'.tmps.getD 110 undef = undef := hp 13 (oKN13 p) 110 rfl rfl rfl
      exact step_off rfl (wanted_undef rfl (show (opsKN p).toArray[13]? = some (oKN13 p) from rfl) rfl q13) ⟨_, rfl, rfl, Grew.refl _⟩
    · obtain rfl : oKN17 p = o := Option.some.inj ho
      obtain rfl : 114 = d := Option.some.inj hd
      have q13 : a'.tmps.getD 110 undef = undef := hp 13 (oKN13 p) 110 rfl rfl rfl
      exact step_off rfl (wanted_undef rfl (show (opsKN p).toArray[13]? = some (oKN13 p) from rfl) rfl q13) ⟨_, rfl, rfl, Grew.refl _⟩
    · obtain rfl : oKN18 p = o := Option.some.inj ho
      obtain rfl : 115 = d := Option.some.inj hd
      have q13 : a'.tmps.getD 110 undef = undef := hp 13 (oKN13 p) 110 rfl rfl rfl
      exact step_off rfl (wanted_undef rfl (show (opsKN p).toArray[13]? = some (oKN13 p) from rfl) rfl q13) ⟨_, rfl, rfl, Grew.refl _⟩
    · obtain rfl : oKN19 p = o := Option.some.inj ho
      obtain rfl : 116 = d := Option.some.inj hd
      have q13 : a'.tmps.getD 110 undef = undef := hp 13 (oKN13 p) 110 rfl rfl rfl
      exact step_off rfl (wanted_undef rfl (show (opsKN p).toArray[13]? = some (oKN13 p) from rfl) rfl q13) ⟨_, rfl, rfl, Grew.refl _⟩
    · obtain rfl : oKN20 p = o := Option.some.inj ho
      obtain rfl : 117 = d := Option.some.inj hd
      have q13 : a'.tmps.getD 110 undef = undef := hp 13 (oKN13 p) 110 rfl rfl rfl
      exact step_off rfl (wanted_undef rfl (show (opsKN p).toArray[13]? = some (oKN13 p) from rfl) rfl q13) ⟨_, rfl, rfl, Grew.refl _⟩
    · obtain rfl : oKN21 p = o := Option.some.inj ho
      obtain rfl : 118 = d := Option.some.inj hd
      have q13 : a'.tmps.getD 110 undef = undef := hp 13 (oKN13 p) 110 rfl rfl rfl
      exact step_off rfl (wanted_undef rfl (show (opsKN p).toArray[13]? = some (oKN13 p) from rfl) rfl q13) ⟨_, rfl, rfl, Grew.refl _⟩
    · obtain rfl : oKN22 p = o := Option.some.inj ho
      obtain rfl : 119 = d := Option.some.inj hd
      have q13 : a'.tmps.getD 110 undef = undef := hp 13 (oKN13 p) 110 rfl rfl rfl
      exact step_off rfl (wanted_undef rfl (show (opsKN p).toArray[13]? = some (oKN13 p) from rfl) rfl q13) ⟨_, rfl, rfl, Grew.refl _⟩
    · obtain rfl : oKN23 p = o := Option.some.inj ho
      obtain rfl : 120 = d := Option.some.inj hd
      have q13 : a'.tmps.getD 110 undef = undef := hp 13 (oKN13 p) 110 rfl rfl rfl
      exact step_off rfl (wanted_undef rfl (show (opsKN p).toArray[13]? = some (oKN13 p) from rfl) rfl q13) ⟨_, rfl, rfl, Grew.refl _⟩
    · obtain rfl : oKN24 p = o := Option.some.inj ho
      obtain rfl : 121 = d := Option.some.inj hd
      have q13 : a'.tmps.getD 110 undef = undef := hp 13 (oKN13 p) 110 rfl rfl rfl
      exact step_off rfl (wanted_undef rfl (show (opsKN p).toArray[13]? = some (oKN13 p) from rfl) rfl q13) ⟨_, rfl, rfl, Grew.refl _⟩
    · obtain rfl : oKN25 p = o := Option.some.inj ho
      obtain rfl : 122 = d := Option.some.inj hd
      have q13 : a'.tmps.getD 110 undef = undef := hp 13 (oKN13 p) 110 rfl rfl rfl
      exact step_off rfl (wanted_undef rfl (show (opsKN p).toArray[13]? = some (oKN13 p) from rfl) rfl q13) ⟨_, rfl, rfl, Grew.refl _⟩
    · obtain rfl : oKN26 p = o := Option.some.inj ho
      obtain rfl : 123 = d := Option.some.inj hd
      have q13 : a'.tmps.getD 110 undef = undef := hp 13 (oKN13 p) 110 rfl rfl rfl
      exact step_off rfl (wanted_undef rfl (show (opsKN p).toArray[13]? = some (oKN13 p) from rfl) rfl q13) ⟨_, rfl, rfl, Grew.refl _⟩
    · obtain rfl : oKN27 p = o := Option.some.inj ho
      obtain rfl : 124 = d := Option.some.inj hd
      have q13 : a'.tmps.getD 110 undef = undef := hp 13 (oKN13 p) 110 rfl rfl rfl
      exact step_off rfl (wanted_undef rfl (show (opsKN p).toArray[13]? = some (oKN13 p) from rfl) rfl q13) ⟨_, rfl, rfl, Grew.refl _⟩
    · obtain rfl : oKN28 p = o := Option.some.inj ho
      obtain rfl : 125 = d := Option.some.inj hd
      have q13 : a'.tmps.getD 110 undef = undef := hp 13 (oKN13 p) 110 rfl rfl rfl
      exact step_off rfl (wanted_undef rfl (show (opsKN p).toArray[13]? = some (oKN13 p) from rfl) rfl q13) ⟨_, rfl, rfl, Grew.refl _⟩
    · obtain rfl : oKN29 p = o := Option.some.inj ho
      obtain rfl : 126 = d := Option.some.inj hd
      have q13 : a'.tmps.getD 110 undef = undef := hp 13 (oKN13 p) 110 rfl rfl rfl
      exact step_off rfl (wanted_undef rfl (show (opsKN p).toArray[13]? = some (oKN13 p) from rfl) rfl q13) ⟨_, rfl, rfl, Grew.refl _⟩
    · obtain rfl : oKN30 p = o := Option.some.inj ho
      obtain rfl : 127 = d := Option.some.inj hd
      have q13 : a'.tmps.getD 110 undef = undef := hp 13 (oKN13 p) 110 rfl rfl rfl
      exact step_off rfl (wanted_undef rfl (show (opsKN p).toArray[13]? = some (oKN13 p) from rfl) rfl q13) ⟨_, rfl, rfl, Grew.refl _⟩
    · obtain rfl : oKN31 p = o := Option.some.inj ho
      obtain rfl : 128 = d := Option.some.inj hd
      have q10 : a'.tmps.getD 107 undef = undef := hp 10 (oKN10 p) 107 rfl rfl rfl
      exact step_off rfl (wanted_undef rfl (show (opsKN p).toArray[10]? = some (oKN10 p) from rfl) rfl q10) ⟨_, rfl, rfl, Grew.refl _⟩
    · obtain rfl : oKN32 p = o := Option.some.inj ho
      obtain rfl : 129 = d := Option.some.inj hd
      have q7 : a'.tmps.getD 104 undef = .bool false := hp 7 (oKN7 p) 104 rfl rfl rfl
      exact step_off rfl (wanted_off rfl (show (opsKN p).toArray[7]? = some (oKN7 p) from rfl) rfl q7) ⟨_, rfl, rfl, Grew.refl _⟩
    · obtain rfl : oKN33 p = o := Option.some.inj ho
      obtain rfl : 130 = d := Option.some.inj hd
      have q7 : a'.tmps.getD 104 undef = .bool false := hp 7 (oKN7 p) 104 rfl rfl rfl
      exact step_off rfl (wanted_off rfl (show (opsKN p).toArray[7]? = some (oKN7 p) from rfl) rfl q7) ⟨_, rfl, rfl, Grew.refl _⟩
    · obtain rfl : oKN34 p = o := Option.some.inj ho
      obtain rfl : 131 = d := Option.some.inj hd
      have q33 : a'.tmps.getD 130 undef = undef := hp 33 (oKN33 p) 130 rfl rfl rfl
      exact step_off rfl (wanted_undef rfl (show (opsKN p).toArray[33]? = some (oKN33 p) from rfl) rfl q33) ⟨_, rfl, rfl, Grew.refl _⟩
    · obtain rfl : oKN35 p = o := Option.some.inj ho
      obtain rfl : 132 = d := Option.some.inj hd
      have q33 : a'.tmps.getD 130 undef = undef := hp 33 (oKN33 p) 130 rfl rfl rfl
      exact step_off rfl (wanted_undef rfl (show (opsKN p).toArray[33]? = some (oKN33 p) from rfl) rfl q33) ⟨_, rfl, rfl, Grew.refl _⟩
    · obtain rfl : oKN36 p = o := Option.some.inj ho
      obtain rfl : 133 = d := Option.some.inj hd
      have q33 : a'.tmps.getD 130 undef = undef := hp 33 (oKN33 p) 130 rfl rfl rfl
      exact step_off rfl (wanted_undef rfl (show (opsKN p).toArray[33]? = some (oKN33 p) from rfl) rfl q33) ⟨_, rfl, rfl, Grew.refl _⟩
    · obtain rfl : oKN37 p = o := Option.some.inj ho
      obtain rfl : 134 = d := Option.some.inj hd
      have q36 : a'.tmps.getD 133 undef = undef := hp 36 (oKN36 p) 133 rfl rfl rfl
      exact step_off rfl (wanted_undef rfl (show (opsKN p).toArray[36]? = some (oKN36 p) from rfl) rfl q36) ⟨_, rfl, rfl, Grew.refl _⟩
    · obtain rfl : oKN38 p = o := Option.some.inj ho
      obtain rfl : 135 = d := Option.some.inj hd
      have q36 : a'.tmps.getD 133 undef = undef := hp 36 (oKN36 p) 133 rfl rfl rfl
      exact step_off rfl (wanted_undef rfl (show (opsKN p).toArray[36]? = some (oKN36 p) from rfl) rfl q36) ⟨_, rfl, rfl, Grew.refl _⟩
    · obtain rfl : oKN39 p = o := Option.some.inj ho
      obtain rfl : 136 = d := Option.some.inj hd
      have q36 : a'.tmps.getD 133 undef = undef := hp 36 (oKN36 p) 133 rfl rfl rfl
      exact step_off rfl (wanted_undef rfl (show (opsKN p).toArray[36]? = some (oKN36 p) from rfl) rfl q36) ⟨_, rfl, rfl, Grew.refl _⟩
    · obtain rfl : oKN40 p = o := Option.some.inj ho
      obtain rfl : 137 = d := Option.some.inj hd
      have q36 : a'.tmps.getD 133 undef = undef := hp 36 (oKN36 p) 133 rfl rfl rfl
      exact step_off rfl (wanted_undef rfl (show (opsKN p).toArray[36]? = some (oKN36 p) from rfl) rfl q36) ⟨_, rfl, rfl, Grew.refl _⟩
    · obtain rfl : oKN41 p = o := Option.some.inj ho
      obtain rfl : 138 = d := Option.some.inj hd
      have q36 : a'.tmps.getD 133 undef = undef := hp 36 (oKN36 p) 133 rfl rfl rfl
      exact step_off rfl (wanted_undef rfl (show (opsKN p).toArray[36]? = some (oKN36 p) from rfl) rfl q36) ⟨_, rfl, rfl, Grew.refl _⟩
    · obtain rfl : oKN42 p = o := Option.some.inj ho
      obtain rfl : 139 = d := Option.some.inj hd
      have q36 : a'.tmps.getD 133 undef = undef := hp 36 (oKN36 p) 133 rfl rfl rfl
      exact step_off rfl (wanted_undef rfl (show (opsKN p).toArray[36]? = some (oKN36 p) from rfl) rfl q36) ⟨_, rfl, rfl, Grew.refl _⟩
    · obtain rfl : oKN43 p = o := Option.some.inj ho
      obtain rfl : 140 = d := Option.some.inj hd
      have q36 : a'.tmps.getD 133 undef = undef := hp 36 (oKN36 p) 133 rfl rfl rfl
      exact step_off rfl (wanted_undef rfl (show (opsKN p).toArray[36]? = some (oKN36 p) from rfl) rfl q36) ⟨_, rfl, rfl, Grew.refl _⟩
    · obtain rfl : oKN44 p = o := Option.some.inj ho
      obtain rfl : 141 = d := Option.some.inj hd
      have q36 : a'.tmps.getD 133 undef = undef := hp 36 (oKN36 p) 133 rfl rfl rfl
      exact step_off rfl (wanted_undef rfl (show (opsKN p).toArray[36]? = some (oKN36 p) from rfl) rfl q36) ⟨_, rfl, rfl, Grew.refl _⟩
    · obtain rfl : oKN45 p = o := Option.some.inj ho
      obtain rfl : 142 = d := Option.some.inj hd
      have q36 : a'.tmps.getD 133 undef = undef := hp 36 (oKN36 p) 133 rfl rfl rfl
      exact step_off rfl (wanted_undef rfl (show (opsKN p).toArray[36]? = some (oKN36 p) from rfl) rfl q36) ⟨_, rfl, rfl, Grew.refl _⟩
    · obtain rfl : oKN46 p = o := Option.some.inj ho
      obtain rfl : 143 = d := Option.some.inj hd
      have q36 : a'.tmps.getD 133 undef = undef := hp 36 (oKN36 p) 133 rfl rfl rfl
      exact step_off rfl (wanted_undef rfl (show (opsKN p).toArray[36]? = some (oKN36 p) from rfl) rfl q36) ⟨_, rfl, rfl, Grew.refl _⟩
    · obtain rfl : oKN47 p = o := Option.some.inj ho
      obtain rfl : 144 = d := Option.some.inj hd
      have q36 : a'.tmps.getD 133 undef = undef := hp 36 (oKN36 p) 133 rfl rfl rfl
      exact step_off rfl (wanted_undef rfl (show (opsKN p).toArray[36]? = some (oKN36 p) from rfl) rfl q36) ⟨_, rfl, rfl, Grew.refl _⟩
    · obtain rfl : oKN48 p = o := Option.some.inj ho
      obtain rfl : 145 = d := Option.some.inj hd
      have q36 : a'.tmps.getD 133 undef = undef := hp 36 (oKN36 p) 133 rfl rfl rfl
      exact step_off rfl (wanted_undef rfl (show (opsKN p).toArray[36]? = some (oKN36 p) from rfl) rfl q36) ⟨_, rfl, rfl, Grew.refl _⟩
    · obtain rfl : oKN49 p = o := Option.some.inj ho
      obtain rfl : 146 = d := Option.some.inj hd
      have q33 : a'.tmps.getD 130 undef = undef := hp 33 (oKN33 p) 130 rfl rfl rfl
      exact step_off rfl (wanted_undef rfl (show (opsKN p).toArray[33]? = some (oKN33 p) from rfl) rfl q33) ⟨_, rfl, rfl, Grew.refl _⟩
    · obtain rfl : oKN50 p = o := Option.some.inj ho
      obtain rfl : 147 = d := Option.some.inj hd
      have q7 : a'.tmps.getD 104 undef = .bool false := hp 7 (oKN7 p) 104 rfl rfl rfl
      exact step_off rfl (wanted_off rfl (show (opsKN p).toArray[7]? = some (oKN7 p) from rfl) rfl q7) ⟨_, rfl, rfl, Grew.refl _⟩
    · obtain rfl : oKN51 p = o := Option.some.inj ho
      obtain rfl : 148 = d := Option.some.inj hd
      have q7 : a'.tmps.getD 104 undef = .bool false := hp 7 (oKN7 p) 104 rfl rfl rfl
      exact step_off rfl (wanted_off rfl (show (opsKN p).toArray[7]? = some (oKN7 p) from rfl) rfl q7) ⟨_, rfl, rfl, Grew.refl _⟩
    · obtain rfl : oKN52 p = o := Option.some.inj ho
      obtain rfl : 149 = d := Option.some.inj hd
      have q51 : a'.tmps.getD 148 undef = undef := hp 51 (oKN51 p) 148 rfl rfl rfl
      exact step_off rfl (wanted_undef rfl (show (opsKN p).toArray[51]? = some (oKN51 p) from rfl) rfl q51) ⟨_, rfl, rfl, Grew.refl _⟩
    · obtain rfl : oKN53 p = o := Option.some.inj ho
      obtain rfl : 150 = d := Option.some.inj hd
      have q51 : a'.tmps.getD 148 undef = undef := hp 51 (oKN51 p) 148 rfl rfl rfl
      exact step_off rfl (wanted_undef rfl (show (opsKN p).toArray[51]? = some (oKN51 p) from rfl) rfl q51) ⟨_, rfl, rfl, Grew.refl _⟩
    · obtain rfl : oKN54 p = o := Option.some.inj ho
      obtain rfl : 151 = d := Option.some.inj hd
      have q51 : a'.tmps.getD 148 undef = undef := hp 51 (oKN51 p) 148 rfl rfl rfl
      exact step_off rfl (wanted_undef rfl (show (opsKN p).toArray[51]? = some (oKN51 p) from rfl) rfl q51) ⟨_, rfl, rfl, Grew.refl _⟩
    · obtain rfl : oKN55 p = o := Option.some.inj ho
      obtain rfl : 152 = d := Option.some.inj hd
      have q54 : a'.tmps.getD 151 undef = undef := hp 54 (oKN54 p) 151 rfl rfl rfl
      exact step_off rfl (wanted_undef rfl (show (opsKN p).toArray[54]? = some (oKN54 p) from rfl) rfl q54) ⟨_, rfl, rfl, Grew.refl _⟩
    · obtain rfl : oKN56 p = o := Option.some.inj ho
      obtain rfl : 153 = d := Option.some.inj hd
      have q54 : a'.tmps.getD 151 undef = undef := hp 54 (oKN54 p) 151 rfl rfl rfl
      exact step_off rfl (wanted_undef rfl (show (opsKN p).toArray[54]? = some (oKN54 p) from rfl) rfl q54) ⟨_, rfl, rfl, Grew.refl _⟩
    · obtain rfl : oKN57 p = o := Option.some.inj ho
      obtain rfl : 154 = d := Option.some.inj hd
      have q54 : a'.tmps.getD 151 undef = undef := hp 54 (oKN54 p) 151 rfl rfl rfl
      exact step_off rfl (wanted_undef rfl (show (opsKN p).toArray[54]? = some (oKN54 p) from rfl) rfl q54) ⟨_, rfl, rfl, Grew.refl _⟩
    · obtain rfl : oKN58 p = o := Option.some.inj ho
      obtain rfl : 155 = d := Option.some.inj hd
      have q51 : a'.tmps.getD 148 undef = undef := hp 51 (oKN51 p) 148 rfl rfl rfl
      exact step_off rfl (wanted_undef rfl (show (opsKN p).toArray[51]? = some (oKN51 p) from rfl) rfl q51) ⟨_, rfl, rfl, Grew.refl _⟩
    · obtain rfl : oKN59 p = o := Option.some.inj ho
      obtain rfl : 156 = d := Option.some.inj hd
      have q7 : a'.tmps.getD 104 undef = .bool false := hp 7 (oKN7 p) 104 rfl rfl rfl
      exact step_off rfl (wanted_off rfl (show (opsKN p).toArray[7]? = some (oKN7 p) from rfl) rfl q7) ⟨_, rfl, rfl, Grew.refl _⟩
    · obtain rfl : oKN60 p = o := Option.some.inj ho
      obtain rfl : 157 = d := Option.some.inj hd
      have q7 : a'.tmps.getD 104 undef = .bool false := hp 7 (oKN7 p) 104 rfl rfl rfl
      exact step_pick rfl rfl rfl q7 rfl ⟨_, rfl, rfl, Grew.refl _⟩
    · exact absurd ((Array.getElem?_eq_some_iff.1 ho).1) (by simp [opsKN])
  · intro a' w' hF hR hp
    have e0 : psiKN P w0 R t lb lo Ln lc k d q Nn Bb x AB LB cB m b eR 0 (a'.tmps.getD 97 undef) w' := hp 0 (oKN0 p) 97 rfl rfl
    have e1 : psiKN P w0 R t lb lo Ln lc k d q Nn Bb x AB LB cB m b eR 1 (a'.tmps.getD 98 undef) w' := hp 1 (oKN1 p) 98 rfl rfl
    have e2 : psiKN P w0 R t lb lo Ln lc k d q Nn Bb x AB LB cB m b eR 2 (a'.tmps.getD 99 undef) w' := hp 2 (oKN2 p) 99 rfl rfl
    have e3 : psiKN P w0 R t lb lo Ln lc k d q Nn Bb x AB LB cB m b eR 3 (a'.tmps.getD 100 undef) w' := hp 3 (oKN3 p) 100 rfl rfl
    have e4 : psiKN P w0 R t lb lo Ln lc k d q Nn Bb x AB LB cB m b eR 4 (a'.tmps.getD 101 undef) w' := hp 4 (oKN4 p) 101 rfl rfl
    have e5 : psiKN P w0 R t lb lo Ln lc k d q Nn Bb x AB LB cB m b eR 5 (a'.tmps.getD 102 undef) w' := hp 5 (oKN5 p) 102 rfl rfl
    have e6 : psiKN P w0 R t lb lo Ln lc k d q Nn Bb x AB LB cB m b eR 6 (a'.tmps.getD 103 undef) w' := hp 6 (oKN6 p) 103 rfl rfl
    have e7 : psiKN P w0 R t lb lo Ln lc k d q Nn Bb x AB LB cB m b eR 7 (a'.tmps.getD 104 undef) w' := hp 7 (oKN7 p) 104 rfl rfl
    have e8 : psiKN P w0 R t lb lo Ln lc k d q Nn Bb x AB LB cB m b eR 8 (a'.tmps.getD 105 undef) w' := hp 8 (oKN8 p) 105 rfl rfl
    have e9 : psiKN P w0 R t lb lo Ln lc k d q Nn Bb x AB LB cB m b eR 9 (a'.tmps.getD 106 undef) w' := hp 9 (oKN9 p) 106 rfl rfl
    have e10 : psiKN P w0 R t lb lo Ln lc k d q Nn Bb x AB LB cB m b eR 10 (a'.tmps.getD 107 undef) w' := hp 10 (oKN10 p) 107 rfl rfl
    have e11 : psiKN P w0 R t lb lo Ln lc k d q Nn Bb x AB LB cB m b eR 11 (a'.tmps.getD 108 undef) w' := hp 11 (oKN11 p) 108 rfl rfl
    have e12 : psiKN P w0 R t lb lo Ln lc k d q Nn Bb x AB LB cB m b eR 12 (a'.tmps.getD 109 undef) w' := hp 12 (oKN12 p) 109 rfl rfl
    have e13 : psiKN P w0 R t lb lo Ln lc k d q Nn Bb x AB LB cB m b eR 13 (a'.tmps.getD 110 undef) w' := hp 13 (oKN13 p) 110 rfl rfl
    have e14 : psiKN P w0 R t lb lo Ln lc k d q Nn Bb x AB LB cB m b eR 14 (a'.tmps.getD 111 undef) w' := hp 14 (oKN14 p) 111 rfl rfl
    have e15 : psiKN P w0 R t lb lo Ln lc k d q Nn Bb x AB LB cB m b eR 15 (a'.tmps.getD 112 undef) w' := hp 15 (oKN15 p) 112 rfl rfl
    have e16 : psiKN P w0 R t lb lo Ln lc k d q Nn Bb x AB LB cB m b eR 16 (a'.tmps.getD 113 undef) w' := hp 16 (oKN16 p) 113 rfl rfl
    have e17 : psiKN P w0 R t lb lo Ln lc k d q Nn Bb x AB LB cB m b eR 17 (a'.tmps.getD 114 undef) w' := hp 17 (oKN17 p) 114 rfl rfl
    have e18 : psiKN P w0 R t lb lo Ln lc k d q Nn Bb x AB LB cB m b eR 18 (a'.tmps.getD 115 undef) w' := hp 18 (oKN18 p) 115 rfl rfl
    have e19 : psiKN P w0 R t lb lo Ln lc k d q Nn Bb x AB LB cB m b eR 19 (a'.tmps.getD 116 undef) w' := hp 19 (oKN19 p) 116 rfl rfl
    have e20 : psiKN P w0 R t lb lo Ln lc k d q Nn Bb x AB LB cB m b eR 20 (a'.tmps.getD 117 undef) w' := hp 20 (oKN20 p) 117 rfl rfl
    have e21 : psiKN P w0 R t lb lo Ln lc k d q Nn Bb x AB LB cB m b eR 21 (a'.tmps.getD 118 undef) w' := hp 21 (oKN21 p) 118 rfl rfl
    have e22 : psiKN P w0 R t lb lo Ln lc k d q Nn Bb x AB LB cB m b eR 22 (a'.tmps.getD 119 undef) w' := hp 22 (oKN22 p) 119 rfl rfl
    have e23 : psiKN P w0 R t lb lo Ln lc k d q Nn Bb x AB LB cB m b eR 23 (a'.tmps.getD 120 undef) w' := hp 23 (oKN23 p) 120 rfl rfl
    have e24 : psiKN P w0 R t lb lo Ln lc k d q Nn Bb x AB LB cB m b eR 24 (a'.tmps.getD 121 undef) w' := hp 24 (oKN24 p) 121 rfl rfl
    have e25 : psiKN P w0 R t lb lo Ln lc k d q Nn Bb x AB LB cB m b eR 25 (a'.tmps.getD 122 undef) w' := hp 25 (oKN25 p) 122 rfl rfl
    have e26 : psiKN P w0 R t lb lo Ln lc k d q Nn Bb x AB LB cB m b eR 26 (a'.tmps.getD 123 undef) w' := hp 26 (oKN26 p) 123 rfl rfl
    have e27 : psiKN P w0 R t lb lo Ln lc k d q Nn Bb x AB LB cB m b eR 27 (a'.tmps.getD 124 undef) w' := hp 27 (oKN27 p) 124 rfl rfl
    have e28 : psiKN P w0 R t lb lo Ln lc k d q Nn Bb x AB LB cB m b eR 28 (a'.tmps.getD 125 undef) w' := hp 28 (oKN28 p) 125 rfl rfl
    have e29 : psiKN P w0 R t lb lo Ln lc k d q Nn Bb x AB LB cB m b eR 29 (a'.tmps.getD 126 undef) w' := hp 29 (oKN29 p) 126 rfl rfl
    have e30 : psiKN P w0 R t lb lo Ln lc k d q Nn Bb x AB LB cB m b eR 30 (a'.tmps.getD 127 undef) w' := hp 30 (oKN30 p) 127 rfl rfl
    have e31 : psiKN P w0 R t lb lo Ln lc k d q Nn Bb x AB LB cB m b eR 31 (a'.tmps.getD 128 undef) w' := hp 31 (oKN31 p) 128 rfl rfl
    have e32 : psiKN P w0 R t lb lo Ln lc k d q Nn Bb x AB LB cB m b eR 32 (a'.tmps.getD 129 undef) w' := hp 32 (oKN32 p) 129 rfl rfl
    have e33 : psiKN P w0 R t lb lo Ln lc k d q Nn Bb x AB LB cB m b eR 33 (a'.tmps.getD 130 undef) w' := hp 33 (oKN33 p) 130 rfl rfl
    have e34 : psiKN P w0 R t lb lo Ln lc k d q Nn Bb x AB LB cB m b eR 34 (a'.tmps.getD 131 undef) w' := hp 34 (oKN34 p) 131 rfl rfl
    have e35 : psiKN P w0 R t lb lo Ln lc k d q Nn Bb x AB LB cB m b eR 35 (a'.tmps.getD 132 undef) w' := hp 35 (oKN35 p) 132 rfl rfl
    have e36 : psiKN P w0 R t lb lo Ln lc k d q Nn Bb x AB LB cB m b eR 36 (a'.tmps.getD 133 undef) w' := hp 36 (oKN36 p) 133 rfl rfl
    have e37 : psiKN P w0 R t lb lo Ln lc k d q Nn Bb x AB LB cB m b eR 37 (a'.tmps.getD 134 undef) w' := hp 37 (oKN37 p) 134 rfl rfl
    have e38 : psiKN P w0 R t lb lo Ln lc k d q Nn Bb x AB LB cB m b eR 38 (a'.tmps.getD 135 undef) w' := hp 38 (oKN38 p) 135 rfl rfl
    have e39 : psiKN P w0 R t lb lo Ln lc k d q Nn Bb x AB LB cB m b eR 39 (a'.tmps.getD 136 undef) w' := hp 39 (oKN39 p) 136 rfl rfl
    have e40 : psiKN P w0 R t lb lo Ln lc k d q Nn Bb x AB LB cB m b eR 40 (a'.tmps.getD 137 undef) w' := hp 40 (oKN40 p) 137 rfl rfl
    have e41 : psiKN P w0 R t lb lo Ln lc k d q Nn Bb x AB LB cB m b eR 41 (a'.tmps.getD 138 undef) w' := hp 41 (oKN41 p) 138 rfl rfl
    have e42 : psiKN P w0 R t lb lo Ln lc k d q Nn Bb x AB LB cB m b eR 42 (a'.tmps.getD 139 undef) w' := hp 42 (oKN42 p) 139 rfl rfl
    have e43 : psiKN P w0 R t lb lo Ln lc k d q Nn Bb x AB LB cB m b eR 43 (a'.tmps.getD 140 undef) w' := hp 43 (oKN43 p) 140 rfl rfl
    have e44 : psiKN P w0 R t lb lo Ln lc k d q Nn Bb x AB LB cB m b eR 44 (a'.tmps.getD 141 undef) w' := hp 44 (oKN44 p) 141 rfl rfl
    have e45 : psiKN P w0 R t lb lo Ln lc k d q Nn Bb x AB LB cB m b eR 45 (a'.tmps.getD 142 undef) w' := hp 45 (oKN45 p) 142 rfl rfl
    have e46 : psiKN P w0 R t lb lo Ln lc k d q Nn Bb x AB LB cB m b eR 46 (a'.tmps.getD 143 undef) w' := hp 46 (oKN46 p) 143 rfl rfl
    have e47 : psiKN P w0 R t lb lo Ln lc k d q Nn Bb x AB LB cB m b eR 47 (a'.tmps.getD 144 undef) w' := hp 47 (oKN47 p) 144 rfl rfl
    have e48 : psiKN P w0 R t lb lo Ln lc k d q Nn Bb x AB LB cB m b eR 48 (a'.tmps.getD 145 undef) w' := hp 48 (oKN48 p) 145 rfl rfl
    have e49 : psiKN P w0 R t lb lo Ln lc k d q Nn Bb x AB LB cB m b eR 49 (a'.tmps.getD 146 undef) w' := hp 49 (oKN49 p) 146 rfl rfl
    have e50 : psiKN P w0 R t lb lo Ln lc k d q Nn Bb x AB LB cB m b eR 50 (a'.tmps.getD 147 undef) w' := hp 50 (oKN50 p) 147 rfl rfl
    have e51 : psiKN P w0 R t lb lo Ln lc k d q Nn Bb x AB LB cB m b eR 51 (a'.tmps.getD 148 undef) w' := hp 51 (oKN51 p) 148 rfl rfl
    have e52 : psiKN P w0 R t lb lo Ln lc k d q Nn Bb x AB LB cB m b eR 52 (a'.tmps.getD 149 undef) w' := hp 52 (oKN52 p) 149 rfl rfl
    have e53 : psiKN P w0 R t lb lo Ln lc k d q Nn Bb x AB LB cB m b eR 53 (a'.tmps.getD 150 undef) w' := hp 53 (oKN53 p) 150 rfl rfl
    have e54 : psiKN P w0 R t lb lo Ln lc k d q Nn Bb x AB LB cB m b eR 54 (a'.tmps.getD 151 undef) w' := hp 54 (oKN54 p) 151 rfl rfl
    have e55 : psiKN P w0 R t lb lo Ln lc k d q Nn Bb x AB LB cB m b eR 55 (a'.tmps.getD 152 undef) w' := hp 55 (oKN55 p) 152 rfl rfl
    have e56 : psiKN P w0 R t lb lo Ln lc k d q Nn Bb x AB LB cB m b eR 56 (a'.tmps.getD 153 undef) w' := hp 56 (oKN56 p) 153 rfl rfl
    have e57 : psiKN P w0 R t lb lo Ln lc k d q Nn Bb x AB LB cB m b eR 57 (a'.tmps.getD 154 undef) w' := hp 57 (oKN57 p) 154 rfl rfl
    have e58 : psiKN P w0 R t lb lo Ln lc k d q Nn Bb x AB LB cB m b eR 58 (a'.tmps.getD 155 undef) w' := hp 58 (oKN58 p) 155 rfl rfl
    have e59 : psiKN P w0 R t lb lo Ln lc k d q Nn Bb x AB LB cB m b eR 59 (a'.tmps.getD 156 undef) w' := hp 59 (oKN59 p) 156 rfl rfl
    have e60 : psiKN P w0 R t lb lo Ln lc k d q Nn Bb x AB LB cB m b eR 60 (a'.tmps.getD 157 undef) w' := hp 60 (oKN60 p) 157 rfl rfl
    rw [hF.puts [(97, .slice (some ⟨lb, lo, none⟩) Ln lc), (98, .int .i64 (k : Int)), (99, .pointer (some ⟨lb, lo + k * 3, none⟩)), (100, .pointer (some ⟨lb, lo + k * 3, none⟩)), (101, .int .u8 (d : Int)), (102, .int .u8 (q : Int)), (103, .bool false), (104, .bool false), (105, undef), (106, undef), (107, undef), (108, undef), (109, undef), (110, undef), (111, undef), (112, undef), (113, undef), (114, undef), (115, undef), (116, undef), (117, undef), (118, undef), (119, undef), (120, undef), (121, undef), (122, undef), (123, undef), (124, undef), (125, undef), (126, undef), (127, undef), (128, undef), (129, undef), (130, undef), (131, undef), (132, undef), (133, undef), (134, undef), (135, undef), (136, undef), (137, undef), (138, undef), (139, undef), (140, undef), (141, undef), (142, undef), (143, undef), (144, undef), (145, undef), (146, undef), (147, undef), (148, undef), (149, undef), (150, undef), (151, undef), (152, undef), (153, undef), (154, undef), (155, undef), (156, undef), (157, .bool false)] ?_ rfl (by rw [hN]; rfl)]
    · exact hQ  w'  hR.undraw
    · intro x hx
      simp only [List.mem_cons, List.not_mem_nil, or_false] at hx
      rcases hx with rfl | rfl | rfl | rfl | rfl | rfl | rfl | rfl | rfl | rfl | rfl | rfl | rfl | rfl | rfl | rfl | rfl | rfl | rfl | rfl | rfl | rfl | rfl | rfl | rfl | rfl | rfl | rfl | rfl | rfl | rfl | rfl | rfl | rfl | rfl | rfl | rfl | rfl | rfl | rfl | rfl | rfl | rfl | rfl | rfl | rfl | rfl | rfl | rfl | rfl | rfl | rfl | rfl | rfl | rfl | rfl | rfl | rfl | rfl | rfl | rfl
      · exact e0
      · exact e1
      · exact e2
      · exact e3
      · exact e4
      · exact e5
      · exact e6
      · exact e7
      · exact e8
      · exact e9
      · exact e10
      · exact e11
      · exact e12
      · exact e13
      · exact e14
      · exact e15
      · exact e16
      · exact e17
      · exact e18
      · exact e19
      · exact e20
      · exact e21
      · exact e22
      · exact e23
      · exact e24
      · exact e25
      · exact e26
      · exact e27
      · exact e28
      · exact e29
      · exact e30
      · exact e31
      · exact e32
      · exact e33
      · exact e34
      · exact e35
      · exact e36
      · exact e37
      · exact e38
      · exact e39
      · exact e40
      · exact e41
      · exact e42
      · exact e43
      · exact e44
      · exact e45
      · exact e46
      · exact e47
      · exact e48
      · exact e49
      · exact e50
      · exact e51
      · exact e52
      · exact e53
      · exact e54
      · exact e55
      · exact e56
      · exact e57
      · exact e58
      · exact e59
      · exact e60
def oKD0 (p : String) : Oper := { dst := some 97, op := Op.move (Operand.tmp 0), type := 22, pos := p, after := #[], guard := none }
def oKD1 (p : String) : Oper := { dst := some 98, op := Op.move (Operand.tmp 5), type := 3, pos := p, after := #[], guard := none }
def oKD2 (p : String) : Oper := { dst := some 99, op := Op.indexAddr 22 (Operand.tmp 97) (Operand.tmp 98), type := 0, pos := p, after := #[{ on := 0, ground := Ground.data }, { on := 1, ground := Ground.data }], guard := none }
def oKD3 (p : String) : Oper := { dst := some 100, op := Op.fieldAddr 29 (Operand.tmp 99) 0, type := 0, pos := p, after := #[{ on := 2, ground := Ground.data }], guard := none }
def oKD4 (p : String) : Oper := { dst := some 101, op := Op.load 5 (Operand.tmp 100), type := 5, pos := p, after := #[{ on := 3, ground := Ground.data }], guard := none }
def oKD5 (p : String) : Oper := { dst := some 102, op := Op.binOp BinOp.rem 5 (Operand.tmp 101) (Operand.const (Value.int IntKind.u8 7)) 5, type := 5, pos := p, after := #[{ on := 4, ground := Ground.data }], guard := none }
def oKD6 (p : String) : Oper := { dst := some 103, op := Op.binOp BinOp.eql 5 (Operand.tmp 102) (Operand.const (Value.int IntKind.u8 0)) 5, type := 4, pos := p, after := #[{ on := 5, ground := Ground.data }], guard := none }
def oKD7 (p : String) : Oper := { dst := some 104, op := Op.move (Operand.tmp 103), type := 4, pos := p, after := #[{ on := 6, ground := Ground.data }], guard := none }
def oKD8 (p : String) : Oper := { dst := some 105, op := Op.move (Operand.tmp 10), type := 4, pos := p, after := #[{ on := 7, ground := Ground.guard }], guard := some (7, true) }
def oKD9 (p : String) : Oper := { dst := some 106, op := Op.unOp UnOp.not 4 (Operand.tmp 105), type := 4, pos := p, after := #[{ on := 8, ground := Ground.data }, { on := 7, ground := Ground.guard }], guard := some (7, true) }
def oKD10 (p : String) : Oper := { dst := some 107, op := Op.move (Operand.tmp 106), type := 4, pos := p, after := #[{ on := 9, ground := Ground.data }, { on := 7, ground := Ground.chain }, { on := 7, ground := Ground.guard }], guard := some (7, true) }
def oKD11 (p : String) : Oper := { dst := some 108, op := Op.move (Operand.tmp 8), type := 31, pos := p, after := #[{ on := 10, ground := Ground.guard }], guard := some (10, false) }
def oKD12 (p : String) : Oper := { dst := some 109, op := Op.binOp BinOp.neq 31 (Operand.tmp 108) (Operand.const (Value.int IntKind.i64 20)) 31, type := 4, pos := p, after := #[{ on := 11, ground := Ground.data }, { on := 10, ground := Ground.guard }], guard := some (10, false) }
def oKD13 (p : String) : Oper := { dst := some 110, op := Op.move (Operand.tmp 109), type := 4, pos := p, after := #[{ on := 12, ground := Ground.data }, { on := 10, ground := Ground.chain }, { on := 10, ground := Ground.guard }], guard := some (10, false) }
def oKD14 (p : String) : Oper := { dst := some 111, op := Op.move (Operand.tmp 9), type := 9, pos := p, after := #[{ on := 13, ground := Ground.guard }], guard := some (13, true) }
def oKD15 (p : String) : Oper := { dst := some 112, op := Op.move (Operand.tmp 6), type := 9, pos := p, after := #[{ on := 13, ground := Ground.guard }], guard := some (13, true) }
def oKD16 (p : String) : Oper := { dst := some 113, op := Op.call { callee := Callee.builtin Builtin.len, args := #[Operand.tmp 112], argTypes := #[9] }, type := 3, pos := p, after := #[{ on := 15, ground := Ground.data }, { on := 13, ground := Ground.guard }], guard := some (13, true) }
def oKD17 (p : String) : Oper := { dst := some 114, op := Op.slice 9 (Operand.tmp 111) (some (Operand.tmp 113)) none none, type := 9, pos := p, after := #[{ on := 14, ground := Ground.data }, { on := 16, ground := Ground.data }, { on := 13, ground := Ground.guard }], guard := some (13, true) }
def oKD18 (p : String) : Oper := { dst := some 115, op := Op.move (Operand.tmp 0), type := 22, pos := p, after := #[{ on := 13, ground := Ground.guard }], guard := some (13, true) }
def oKD19 (p : String) : Oper := { dst := some 116, op := Op.move (Operand.tmp 5), type := 3, pos := p, after := #[{ on := 13, ground := Ground.guard }], guard := some (13, true) }
def oKD20 (p : String) : Oper := { dst := some 117, op := Op.indexAddr 22 (Operand.tmp 115) (Operand.tmp 116), type := 0, pos := p, after := #[{ on := 18, ground := Ground.data }, { on := 19, ground := Ground.data }, { on := 13, ground := Ground.guard }], guard := some (13, true) }
def oKD21 (p : String) : Oper := { dst := some 118, op := Op.fieldAddr 29 (Operand.tmp 117) 2, type := 0, pos := p, after := #[{ on := 20, ground := Ground.data }, { on := 13, ground := Ground.guard }], guard := some (13, true) }
def oKD22 (p : String) : Oper := { dst := some 119, op := Op.load 27 (Operand.tmp 118), type := 27, pos := p, after := #[{ on := 21, ground := Ground.data }, { on := 13, ground := Ground.guard }], guard := some (13, true) }
def oKD23 (p : String) : Oper := { dst := some 120, op := Op.move (Operand.tmp 9), type := 9, pos := p, after := #[{ on := 13, ground := Ground.guard }], guard := some (13, true) }
def oKD24 (p : String) : Oper := { dst := some 121, op := Op.call { callee := Callee.builtin Builtin.len, args := #[Operand.tmp 120], argTypes := #[9] }, type := 3, pos := p, after := #[{ on := 23, ground := Ground.data }, { on := 13, ground := Ground.guard }], guard := some (13, true) }
def oKD25 (p : String) : Oper := { dst := some 122, op := Op.move (Operand.tmp 6), type := 9, pos := p, after := #[{ on := 13, ground := Ground.guard }], guard := some (13, true) }
def oKD26 (p : String) : Oper := { dst := some 123, op := Op.call { callee := Callee.builtin Builtin.len, args := #[Operand.tmp 122], argTypes := #[9] }, type := 3, pos := p, after := #[{ on := 25, ground := Ground.data }, { on := 13, ground := Ground.guard }], guard := some (13, true) }
def oKD27 (p : String) : Oper := { dst := some 124, op := Op.binOp BinOp.sub 3 (Operand.tmp 121) (Operand.tmp 123) 3, type := 3, pos := p, after := #[{ on := 24, ground := Ground.data }, { on := 26, ground := Ground.data }, { on := 13, ground := Ground.guard }], guard := some (13, true) }
def oKD28 (p : String) : Oper := { dst := some 125, op := Op.slice 27 (Operand.tmp 119) none (some (Operand.tmp 124)) none, type := 27, pos := p, after := #[{ on := 22, ground := Ground.data }, { on := 27, ground := Ground.data }, { on := 13, ground := Ground.guard }], guard := some (13, true) }
def oKD29 (p : String) : Oper := { dst := some 126, op := Op.convert 27 9 (Operand.tmp 125), type := 9, pos := p, after := #[{ on := 28, ground := Ground.data }, { on := 13, ground := Ground.guard }], guard := some (13, true) }
def oKD30 (p : String) : Oper := { dst := some 127, op := Op.binOp BinOp.neq 9 (Operand.tmp 114) (Operand.tmp 126) 9, type := 4, pos := p, after := #[{ on := 17, ground := Ground.data }, { on := 29, ground := Ground.data }, { on := 13, ground := Ground.guard }], guard := some (13, true) }
def oKD31 (p : String) : Oper := { dst := some 128, op := Op.pick (Operand.tmp 110) (Operand.tmp 127) (Operand.const (Value.bool false)), type := 4, pos := p, after := #[{ on := 13, ground := Ground.data }, { on := 30, ground := Ground.data }, { on := 10, ground := Ground.guard }], guard := some (10, false) }
def oKD32 (p : String) : Oper := { dst := some 129, op := Op.pick (Operand.tmp 107) (Operand.const (Value.bool true)) (Operand.tmp 128), type := 4, pos := p, after := #[{ on := 10, ground := Ground.data }, { on := 31, ground := Ground.data }, { on := 7, ground := Ground.guard }], guard := some (7, true) }
def oKD33 (p : String) : Oper := { dst := some 130, op := Op.move (Operand.tmp 129), type := 4, pos := p, after := #[{ on := 32, ground := Ground.data }, { on := 13, ground := Ground.chain }, { on := 7, ground := Ground.guard }], guard := some (7, true) }
def oKD34 (p : String) : Oper := { dst := some 131, op := Op.move (Operand.tmp 8), type := 31, pos := p, after := #[{ on := 33, ground := Ground.guard }], guard := some (33, false) }
def oKD35 (p : String) : Oper := { dst := some 132, op := Op.binOp BinOp.eql 31 (Operand.tmp 131) (Operand.const (Value.int IntKind.i64 0)) 31, type := 4, pos := p, after := #[{ on := 34, ground := Ground.data }, { on := 33, ground := Ground.guard }], guard := some (33, false) }
def oKD36 (p : String) : Oper := { dst := some 133, op := Op.move (Operand.tmp 132), type := 4, pos := p, after := #[{ on := 35, ground := Ground.data }, { on := 33, ground := Ground.chain }, { on := 33, ground := Ground.guard }], guard := some (33, false) }
def oKD37 (p : String) : Oper := { dst := some 134, op := Op.move (Operand.tmp 9), type := 9, pos := p, after := #[{ on := 36, ground := Ground.guard }], guard := some (36, true) }
def oKD38 (p : String) : Oper := { dst := some 135, op := Op.call { callee := Callee.builtin Builtin.len, args := #[Operand.tmp 134], argTypes := #[9] }, type := 3, pos := p, after := #[{ on := 37, ground := Ground.data }, { on := 36, ground := Ground.guard }], guard := some (36, true) }
def oKD39 (p : String) : Oper := { dst := some 136, op := Op.move (Operand.tmp 6), type := 9, pos := p, after := #[{ on := 36, ground := Ground.guard }], guard := some (36, true) }
def oKD40 (p : String) : Oper := { dst := some 137, op := Op.call { callee := Callee.builtin Builtin.len, args := #[Operand.tmp 136], argTypes := #[9] }, type := 3, pos := p, after := #[{ on := 39, ground := Ground.data }, { on := 36, ground := Ground.guard }], guard := some (36, true) }
def oKD41 (p : String) : Oper := { dst := some 138, op := Op.move (Operand.tmp 0), type := 22, pos := p, after := #[{ on := 36, ground := Ground.guard }], guard := some (36, true) }
def oKD42 (p : String) : Oper := { dst := some 139, op := Op.move (Operand.tmp 5), type := 3, pos := p, after := #[{ on := 36, ground := Ground.guard }], guard := some (36, true) }
def oKD43 (p : String) : Oper := { dst := some 140, op := Op.indexAddr 22 (Operand.tmp 138) (Operand.tmp 139), type := 0, pos := p, after := #[{ on := 41, ground := Ground.data }, { on := 42, ground := Ground.data }, { on := 36, ground := Ground.guard }], guard := some (36, true) }
def oKD44 (p : String) : Oper := { dst := some 141, op := Op.fieldAddr 29 (Operand.tmp 140) 2, type := 0, pos := p, after := #[{ on := 43, ground := Ground.data }, { on := 36, ground := Ground.guard }], guard := some (36, true) }
def oKD45 (p : String) : Oper := { dst := some 142, op := Op.load 27 (Operand.tmp 141), type := 27, pos := p, after := #[{ on := 44, ground := Ground.data }, { on := 36, ground := Ground.guard }], guard := some (36, true) }
def oKD46 (p : String) : Oper := { dst := some 143, op := Op.call { callee := Callee.builtin Builtin.len, args := #[Operand.tmp 142], argTypes := #[27] }, type := 3, pos := p, after := #[{ on := 45, ground := Ground.data }, { on := 36, ground := Ground.guard }], guard := some (36, true) }
def oKD47 (p : String) : Oper := { dst := some 144, op := Op.binOp BinOp.add 3 (Operand.tmp 137) (Operand.tmp 143) 3, type := 3, pos := p, after := #[{ on := 40, ground := Ground.data }, { on := 46, ground := Ground.data }, { on := 36, ground := Ground.guard }], guard := some (36, true) }
def oKD48 (p : String) : Oper := { dst := some 145, op := Op.binOp BinOp.neq 3 (Operand.tmp 135) (Operand.tmp 144) 3, type := 4, pos := p, after := #[{ on := 38, ground := Ground.data }, { on := 47, ground := Ground.data }, { on := 36, ground := Ground.guard }], guard := some (36, true) }
def oKD49 (p : String) : Oper := { dst := some 146, op := Op.pick (Operand.tmp 133) (Operand.tmp 145) (Operand.const (Value.bool false)), type := 4, pos := p, after := #[{ on := 36, ground := Ground.data }, { on := 48, ground := Ground.data }, { on := 33, ground := Ground.guard }], guard := some (33, false) }
def oKD50 (p : String) : Oper := { dst := some 147, op := Op.pick (Operand.tmp 130) (Operand.const (Value.bool true)) (Operand.tmp 146), type := 4, pos := p, after := #[{ on := 33, ground := Ground.data }, { on := 49, ground := Ground.data }, { on := 7, ground := Ground.guard }], guard := some (7, true) }
def oKD51 (p : String) : Oper := { dst := some 148, op := Op.move (Operand.tmp 147), type := 4, pos := p, after := #[{ on := 50, ground := Ground.data }, { on := 36, ground := Ground.chain }, { on := 7, ground := Ground.guard }], guard := some (7, true) }
def oKD52 (p : String) : Oper := { dst := some 149, op := Op.move (Operand.tmp 8), type := 31, pos := p, after := #[{ on := 51, ground := Ground.guard }], guard := some (51, false) }
def oKD53 (p : String) : Oper := { dst := some 150, op := Op.binOp BinOp.eql 31 (Operand.tmp 149) (Operand.const (Value.int IntKind.i64 21)) 31, type := 4, pos := p, after := #[{ on := 52, ground := Ground.data }, { on := 51, ground := Ground.guard }], guard := some (51, false) }
def oKD54 (p : String) : Oper := { dst := some 151, op := Op.move (Operand.tmp 150), type := 4, pos := p, after := #[{ on := 53, ground := Ground.data }, { on := 51, ground := Ground.chain }, { on := 51, ground := Ground.guard }], guard := some (51, false) }
def oKD55 (p : String) : Oper := { dst := some 152, op := Op.move (Operand.tmp 3), type := 25, pos := p, after := #[{ on := 54, ground := Ground.guard }], guard := some (54, true) }
def oKD56 (p : String) : Oper := { dst := some 153, op := Op.call { callee := Callee.value (Operand.func 8), args := #[Operand.tmp 152], argTypes := #[25] }, type := 4, pos := p, after := #[{ on := 55, ground := Ground.data }, { on := 54, ground := Ground.chain }, { on := 54, ground := Ground.guard }], guard := some (54, true) }
def oKD57 (p : String) : Oper := { dst := some 154, op := Op.unOp UnOp.not 4 (Operand.tmp 153), type := 4, pos := p, after := #[{ on := 56, ground := Ground.data }, { on := 54, ground := Ground.guard }], guard := some (54, true) }
def oKD58 (p : String) : Oper := { dst := some 155, op := Op.pick (Operand.tmp 151) (Operand.tmp 154) (Operand.const (Value.bool false)), type := 4, pos := p, after := #[{ on := 54, ground := Ground.data }, { on := 57, ground := Ground.data }, { on := 51, ground := Ground.guard }], guard := some (51, false) }
def oKD59 (p : String) : Oper := { dst := some 156, op := Op.pick (Operand.tmp 148) (Operand.const (Value.bool true)) (Operand.tmp 155), type := 4, pos := p, after := #[{ on := 51, ground := Ground.data }, { on := 58, ground := Ground.data }, { on := 7, ground := Ground.guard }], guard := some (7, true) }
def oKD60 (p : String) : Oper := { dst := some 157, op := Op.pick (Operand.tmp 104) (Operand.tmp 156) (Operand.const (Value.bool false)), type := 4, pos := p, after := #[{ on := 7, ground := Ground.data }, { on := 59, ground := Ground.data }], guard := none }
def opsKD (p : String) : List Oper := [oKD0 p, oKD1 p, oKD2 p, oKD3 p, oKD4 p, oKD5 p, oKD6 p, oKD7 p, oKD8 p, oKD9 p, oKD10 p, oKD11 p, oKD12 p, oKD13 p, oKD14 p, oKD15 p, oKD16 p, oKD17 p, oKD18 p, oKD19 p, oKD20 p, oKD21 p, oKD22 p, oKD23 p, oKD24 p, oKD25 p, oKD26 p, oKD27 p, oKD28 p, oKD29 p, oKD30 p, oKD31 p, oKD32 p, oKD33 p, oKD34 p, oKD35 p, oKD36 p, oKD37 p, oKD38 p, oKD39 p, oKD40 p, oKD41 p, oKD42 p, oKD43 p, oKD44 p, oKD45 p, oKD46 p, oKD47 p, oKD48 p, oKD49 p, oKD50 p, oKD51 p, oKD52 p, oKD53 p, oKD54 p, oKD55 p, oKD56 p, oKD57 p, oKD58 p, oKD59 p, oKD60 p]
theorem opsKD_back (p : String) : backwards (opsKD p) = true := by kernel_rfl
theorem opsKD_slots (p : String) : slotsOk 176 (opsKD p) = true := by kernel_rfl
/-- What each slot comes to. -/
def psiKD (P : DiskK) (w0 : World) (R : Nat) (t : DS) (lb lo Ln lc k d q : Nat) (Nn Bb x : List UInt8) (AB : Option Addr) (LB cB m : Nat) (b : Bool) : Nat → Value → World → Prop
  | 0, v, _ => v = .slice (some ⟨lb, lo, none⟩) Ln lc
  | 1, v, _ => v = .int .i64 (k : Int)
  | 2, v, _ => v = .pointer (some ⟨lb, lo + k * 3, none⟩)
  | 3, v, _ => v = .pointer (some ⟨lb, lo + k * 3, none⟩)
  | 4, v, _ => v = .int .u8 (d : Int)
  | 5, v, _ => v = .int .u8 (q : Int)
  | 6, v, _ => v = .bool true
  | 7, v, _ => v = .bool true
  | 8, v, _ => v = .bool true
  | 9, v, _ => v = .bool false
  | 10, v, _ => v = .bool false
  | 11, v, _ => v = .int .i64 20
  | 12, v, _ => v = .bool false
  | 13, v, _ => v = .bool false
  | 14, v, _ => v = undef
  | 15, v, _ => v = undef
  | 16, v, _ => v = undef
  | 17, v, _ => v = undef
  | 18, v, _ => v = undef
  | 19, v, _ => v = undef
  | 20, v, _ => v = undef
  | 21, v, _ => v = undef
  | 22, v, _ => v = undef
  | 23, v, _ => v = undef
  | 24, v, _ => v = undef
  | 25, v, _ => v = undef
  | 26, v, _ => v = undef
  | 27, v, _ => v = undef
  | 28, v, _ => v = undef
  | 29, v, _ => v = undef
  | 30, v, _ => v = undef
  | 31, v, _ => v = .bool false
  | 32, v, _ => v = .bool false
  | 33, v, _ => v = .bool false
  | 34, v, _ => v = .int .i64 20
  | 35, v, _ => v = .bool false
  | 36, v, _ => v = .bool false
  | 37, v, _ => v = undef
  | 38, v, _ => v = undef
  | 39, v, _ => v = undef
  | 40, v, _ => v = undef
  | 41, v, _ => v = undef
  | 42, v, _ => v = undef
  | 43, v, _ => v = undef
  | 44, v, _ => v = undef
  | 45, v, _ => v = undef
  | 46, v, _ => v = undef
  | 47, v, _ => v = undef
  | 48, v, _ => v = undef
  | 49, v, _ => v = .bool false
  | 50, v, _ => v = .bool false
  | 51, v, _ => v = .bool false
  | 52, v, _ => v = .int .i64 20
  | 53, v, _ => v = .bool false
  | 54, v, _ => v = .bool false
  | 55, v, _ => v = undef
  | 56, v, _ => v = undef
  | 57, v, _ => v = undef
  | 58, v, _ => v = .bool false
  | 59, v, _ => v = .bool false
  | 60, v, _ => v = .bool false
  | _, _, _ => True
theorem psiKD_grew (P : DiskK) (w0 : World) (R : Nat) (t : DS) (lb lo Ln lc k d q : Nat) (Nn Bb x : List UInt8) (AB : Option Addr) (LB cB m : Nat) (b : Bool) : ∀ i v w w', psiKD P w0 R t lb lo Ln lc k d q Nn Bb x AB LB cB m b i v w → Grew w w' → psiKD P w0 R t lb lo Ln lc k d q Nn Bb x AB LB cB m b i v w' := by
  intro i v w w' h hg
  rcases i with _ | _ | _ | _ | _ | _ | _ | _ | _ | _ | _ | _ | _ | _ | _ | _ | _ | _ | _ | _ | _ | _ | _ | _ | _ | _ | _ | _ | _ | _ | _ | _ | _ | _ | _ | _ | _ | _ | _ | _ | _ | _ | _ | _ | _ | _ | _ | _ | _ | _ | _ | _ | _ | _ | _ | _ | _ | _ | _ | _ | _ | i
  · exact h
  · exact h
  · exact h
  · exact h
  · exact h
  · exact h
  · exact h
  · exact h
  · exact h
  · exact h
  · exact h
  · exact h
  · exact h
  · exact h
  · exact h
  · exact h
  · exact h
  · exact h
  · exact h
  · exact h
  · exact h
  · exact h
  · exact h
  · exact h
  · exact h
  · exact h
  · exact h
  · exact h
  · exact h
  · exact h
  · exact h
  · exact h
  · exact h
  · exact h
  · exact h
  · exact h
  · exact h
  · exact h
  · exact h
  · exact h
  · exact h
  · exact h
  · exact h
  · exact h
  · exact h
  · exact h
  · exact h
  · exact h
  · exact h
  · exact h
  · exact h
  · exact h
  · exact h
  · exact h
  · exact h
  · exact h
  · exact h
  · exact h
  · exact h
  · exact h
  · exact h
  · trivial
set_option maxRecDepth 100000 in
set_option maxHeartbeats 4000000 in
theorem keeps_dead {p : String} (P : DiskK) (w0 : World) (R : Nat) (t : DS) (lb lo Ln lc k d q : Nat) (Nn Bb x : List UInt8) (AB : Option Addr) (LB cB m : Nat) (b : Bool) (hk : k < Ln) (hd8 : d < 256) (hq : d % 7 = q) (hq0 : q = 0) (a : Act) (w : World) (Q : Exit → Act → World → Prop) (hN : a.tmps.size = 176) (h0 : a.tmps.getD 0 undef = .slice (some ⟨lb, lo, none⟩) Ln lc) (h3 : a.tmps.getD 3 undef = .pointer (some ⟨R, 0, none⟩)) (h5 : a.tmps.getD 5 undef = .int .i64 (k : Int)) (h6 : a.tmps.getD 6 undef = .string (str Bb)) (h8 : a.tmps.getD 8 undef = .int .i64 20) (h9 : a.tmps.getD 9 undef = .string (str Nn)) (h10 : a.tmps.getD 10 undef = .bool true) (hlb : lb < w.heap.size) (hk0 : w.cell? ⟨lb, lo + k * 3, none⟩ = some (.int .u8 (d : Int))) (hk2 : w.cell? ⟨lb, lo + k * 3 + 2, none⟩ = some (.slice AB LB cB)) (hA : HasA w w.heap.size AB x) (hl : LiveD P w0 R t w) (hQ : ∀ (w' : World), Grew w w' → Q .normal (puts [(97, .slice (some ⟨lb, lo, none⟩) Ln lc), (98, .int .i64 (k : Int)), (99, .pointer (some ⟨lb, lo + k * 3, none⟩)), (100, .pointer (some ⟨lb, lo + k * 3, none⟩)), (101, .int .u8 (d : Int)), (102, .int .u8 (q : Int)), (103, .bool true), (104, .bool true), (105, .bool true), (106, .bool false), (107, .bool false), (108, .int .i64 20), (109, .bool false), (110, .bool false), (111, undef), (112, undef), (113, undef), (114, undef), (115, undef), (116, undef), (117, undef), (118, undef), (119, undef), (120, undef), (121, undef), (122, undef), (123, undef), (124, undef), (125, undef), (126, undef), (127, undef), (128, .bool false), (129, .bool false), (130, .bool false), (131, .int .i64 20), (132, .bool false), (133, .bool false), (134, undef), (135, undef), (136, undef), (137, undef), (138, undef), (139, undef), (140, undef), (141, undef), (142, undef), (143, undef), (144, undef), (145, undef), (146, .bool false), (147, .bool false), (148, .bool false), (149, .int .i64 20), (150, .bool false), (151, .bool false), (152, undef), (153, undef), (154, undef), (155, .bool false), (156, .bool false), (157, .bool false)] a) w')
    : (Code.region 15 (opsKD p).toArray true).wp Try.prog Q a w := by
  refine (wpIn_wide (n := 1)).1 (wpIn_region_vals 176 hN follows (opsKD_back p) (opsKD_slots p) Grew Grew.refl Grew.trans (psiKD P w0 R t lb lo Ln lc k d q Nn Bb x AB LB cB m b) (psiKD_grew P w0 R t lb lo Ln lc k d q Nn Bb x AB LB cB m b) ?_ ?_)
  · intro i o d ho hd a' w' hF hR hp
    rcases i with _ | _ | _ | _ | _ | _ | _ | _ | _ | _ | _ | _ | _ | _ | _ | _ | _ | _ | _ | _ | _ | _ | _ | _ | _ | _ | _ | _ | _ | _ | _ | _ | _ | _ | _ | _ | _ | _ | _ | _ | _ | _ | _ | _ | _ | _ | _ | _ | _ | _ | _ | _ | _ | _ | _ | _ | _ | _ | _ | _ | _ | i
    · obtain rfl : oKD0 p = o := Option.some.inj ho
      obtain rfl : 97 = d := Option.some.inj hd
      exact step_move rfl rfl rfl (hF.at 0 rfl h0) ⟨_, rfl, rfl, Grew.refl _⟩
    · obtain rfl : oKD1 p = o := Option.some.inj ho
      obtain rfl : 98 = d := Option.some.inj hd
      exact step_move rfl rfl rfl (hF.at 5 rfl h5) ⟨_, rfl, rfl, Grew.refl _⟩
    · obtain rfl : oKD2 p = o := Option.some.inj ho
      obtain rfl : 99 = d := Option.some.inj hd
      have q0 : a'.tmps.getD 97 undef = .slice (some ⟨lb, lo, none⟩) Ln lc := hp 0 (oKD0 p) 97 rfl rfl rfl
      have q1 : a'.tmps.getD 98 undef = .int .i64 (k : Int) := hp 1 (oKD1 p) 98 rfl rfl rfl
      exact step_index rfl rfl rfl q0 q1 (run_ixD _ _ _ _ _ _ hk) ⟨_, rfl, rfl, Grew.refl _⟩
    · obtain rfl : oKD3 p = o := Option.some.inj ho
      obtain rfl : 100 = d := Option.some.inj hd
      have q2 : a'.tmps.getD 99 undef = .pointer (some ⟨lb, lo + k * 3, none⟩) := hp 2 (oKD2 p) 99 rfl rfl rfl
      exact step_field rfl rfl rfl q2 (run_fd0 _ _ _) ⟨_, rfl, rfl, Grew.refl _⟩
    · obtain rfl : oKD4 p = o := Option.some.inj ho
      obtain rfl : 101 = d := Option.some.inj hd
      have q3 : a'.tmps.getD 100 undef = .pointer (some ⟨lb, lo + k * 3, none⟩) := hp 3 (oKD3 p) 100 rfl rfl rfl
      exact step_load rfl rfl rfl q3 (run_ldU8 _ _ _ ((Below.cell hR.undraw (p := ⟨lb, lo + k * 3, none⟩) hlb).trans hk0)) ⟨_, rfl, rfl, Grew.refl _⟩
    · obtain rfl : oKD5 p = o := Option.some.inj ho
      obtain rfl : 102 = d := Option.some.inj hd
      have q4 : a'.tmps.getD 101 undef = .int .u8 (d : Int) := hp 4 (oKD4 p) 101 rfl rfl rfl
      exact step_bin rfl rfl rfl q4 rfl (guard_int _ _ _ _ _ _ _ _ _) (run_rem7 _ _ _ hd8 hq) ⟨_, rfl, rfl, Grew.refl _⟩
    · obtain rfl : oKD6 p = o := Option.some.inj ho
      obtain rfl : 103 = d := Option.some.inj hd
      have q5 : a'.tmps.getD 102 undef = .int .u8 (q : Int) := hp 5 (oKD5 p) 102 rfl rfl rfl
      exact step_bin rfl rfl rfl q5 rfl (guard_int _ _ _ _ _ _ _ _ _) ((run_eqi _ _ _ _ _).trans (by simp; omega)) ⟨_, rfl, rfl, Grew.refl _⟩
    · obtain rfl : oKD7 p = o := Option.some.inj ho
      obtain rfl : 104 = d := Option.some.inj hd
      have q6 : a'.tmps.getD 103 undef = .bool true := hp 6 (oKD6 p) 103 rfl rfl rfl
      exact step_move rfl rfl rfl q6 ⟨_, rfl, rfl, Grew.refl _⟩
    · obtain rfl : oKD8 p = o := Option.some.inj ho
      obtain rfl : 105 = d := Option.some.inj hd
      have q7 : a'.tmps.getD 104 undef = .bool true := hp 7 (oKD7 p) 104 rfl rfl rfl
      exact step_move rfl (wanted_on rfl (show (opsKD p).toArray[7]? = some (oKD7 p) from rfl) rfl q7) rfl (hF.at 10 rfl h10) ⟨_, rfl, rfl, Grew.refl _⟩
    · obtain rfl : oKD9 p = o := Option.some.inj ho
      obtain rfl : 106 = d := Option.some.inj hd
      have q7 : a'.tmps.getD 104 undef = .bool true := hp 7 (oKD7 p) 104 rfl rfl rfl
      have q8 : a'.tmps.getD 105 undef = .bool true := hp 8 (oKD8 p) 105 rfl rfl rfl
      exact step_un rfl (wanted_on rfl (show (opsKD p).toArray[7]? = some (oKD7 p) from rfl) rfl q7) rfl q8 (run_not _ _) ⟨_, rfl, rfl, Grew.refl _⟩
    · obtain rfl : oKD10 p = o := Option.some.inj ho
      obtain rfl : 107 = d := Option.some.inj hd
      have q7 : a'.tmps.getD 104 undef = .bool true := hp 7 (oKD7 p) 104 rfl rfl rfl
      have q9 : a'.tmps.getD 106 undef = .bool false := hp 9 (oKD9 p) 106 rfl rfl rfl
      exact step_move rfl (wanted_on rfl (show (opsKD p).toArray[7]? = some (oKD7 p) from rfl) rfl q7) rfl q9 ⟨_, rfl, rfl, Grew.refl _⟩
    · obtain rfl : oKD11 p = o := Option.some.inj ho
      obtain rfl : 108 = d := Option.some.inj hd
      have q10 : a'.tmps.getD 107 undef = .bool false := hp 10 (oKD10 p) 107 rfl rfl rfl
      exact step_move rfl (wanted_on rfl (show (opsKD p).toArray[10]? = some (oKD10 p) from rfl) rfl q10) rfl (hF.at 8 rfl h8) ⟨_, rfl, rfl, Grew.refl _⟩
    · obtain rfl : oKD12 p = o := Option.some.inj ho
      obtain rfl : 109 = d := Option.some.inj hd
      have q10 : a'.tmps.getD 107 undef = .bool false := hp 10 (oKD10 p) 107 rfl rfl rfl
      have q11 : a'.tmps.getD 108 undef = .int .i64 20 := hp 11 (oKD11 p) 108 rfl rfl rfl
      exact step_bin rfl (wanted_on rfl (show (opsKD p).toArray[10]? = some (oKD10 p) from rfl) rfl q10) rfl q11 rfl (guard_int _ _ _ _ _ _ _ _ _) ((run_nei _ _ _ _).trans (by simp)) ⟨_, rfl, rfl, Grew.refl _⟩
    · obtain rfl : oKD13 p = o := Option.some.inj ho
      obtain rfl : 110 = d := Option.some.inj hd
      have q10 : a'.tmps.getD 107 undef = .bool false := hp 10 (oKD10 p) 107 rfl rfl rfl
      have q12 : a'.tmps.getD 109 undef = .bool false := hp 12 (oKD12 p) 109 rfl rfl rfl
      exact step_move rfl (wanted_on rfl (show (opsKD p).toArray[10]? = some (oKD10 p) from rfl) rfl q10) rfl q12 ⟨_, rfl, rfl, Grew.refl _⟩
    · obtain rfl : oKD14 p = o := Option.some.inj ho
      obtain rfl : 111 = d := Option.some.inj hd
      have q13 : a'.tmps.getD 110 undef = .bool false := hp 13 (oKD13 p) 110 rfl rfl rfl
      exact step_off rfl (wanted_off rfl (show (opsKD p).toArray[13]? = some (oKD13 p) from rfl) rfl q13) ⟨_, rfl, rfl, Grew.refl _⟩
    · obtain rfl : oKD15 p = o := Option.some.inj ho
      obtain rfl : 112 = d := Option.some.inj hd
      have q13 : a'.tmps.getD 110 undef = .bool false := hp 13 (oKD13 p) 110 rfl rfl rfl
      exact step_off rfl (wanted_off rfl (show (opsKD p).toArray[13]? = some (oKD13 p) from rfl) rfl q13) ⟨_, rfl, rfl, Grew.refl _⟩
    · obtain rfl : oKD16 p = o := Option.some.inj ho
      obtain rfl : 113 = d := Option.some.inj hd
      have q13 : a'.tmps.getD 110 undef = .bool false := hp 13 (oKD13 p) 110 rfl rfl rfl
      exact step_off rfl (wanted_off rfl (show (opsKD p).toArray[13]? = some (oKD13 p) from rfl) rfl q13) ⟨_, rfl, rfl, Grew.refl _⟩
    · obtain rfl : oKD17 p = o := Option.some.inj ho
      obtain rfl : 114 = d := Option.some.inj hd
      have q13 : a'.tmps.getD 110 undef = .bool false := hp 13 (oKD13 p) 110 rfl rfl rfl
      exact step_off rfl (wanted_off rfl (show (opsKD p).toArray[13]? = some (oKD13 p) from rfl) rfl q13) ⟨_, rfl, rfl, Grew.refl _⟩
    · obtain rfl : oKD18 p = o := Option.some.inj ho
      obtain rfl : 115 = d := Option.some.inj hd
      have q13 : a'.tmps.getD 110 undef = .bool false := hp 13 (oKD13 p) 110 rfl rfl rfl
      exact step_off rfl (wanted_off rfl (show (opsKD p).toArray[13]? = some (oKD13 p) from rfl) rfl q13) ⟨_, rfl, rfl, Grew.refl _⟩
    · obtain rfl : oKD19 p = o := Option.some.inj ho
      obtain rfl : 116 = d := Option.some.inj hd
      have q13 : a'.tmps.getD 110 undef = .bool false := hp 13 (oKD13 p) 110 rfl rfl rfl
      exact step_off rfl (wanted_off rfl (show (opsKD p).toArray[13]? = some (oKD13 p) from rfl) rfl q13) ⟨_, rfl, rfl, Grew.refl _⟩
    · obtain rfl : oKD20 p = o := Option.some.inj ho
      obtain rfl : 117 = d := Option.some.inj hd
      have q13 : a'.tmps.getD 110 undef = .bool false := hp 13 (oKD13 p) 110 rfl rfl rfl
      exact step_off rfl (wanted_off rfl (show (opsKD p).toArray[13]? = some (oKD13 p) from rfl) rfl q13) ⟨_, rfl, rfl, Grew.refl _⟩
    · obtain rfl : oKD21 p = o := Option.some.inj ho
      obtain rfl : 118 = d := Option.some.inj hd
      have q13 : a'.tmps.getD 110 undef = .bool false := hp 13 (oKD13 p) 110 rfl rfl rfl
      exact step_off rfl (wanted_off rfl (show (opsKD p).toArray[13]? = some (oKD13 p) from rfl) rfl q13) ⟨_, rfl, rfl, Grew.refl _⟩
    · obtain rfl : oKD22 p = o := Option.some.inj ho
      obtain rfl : 119 = d := Option.some.inj hd
      have q13 : a'.tmps.getD 110 undef = .bool false := hp 13 (oKD13 p) 110 rfl rfl rfl
      exact step_off rfl (wanted_off rfl (show (opsKD p).toArray[13]? = some (oKD13 p) from rfl) rfl q13) ⟨_, rfl, rfl, Grew.refl _⟩
    · obtain rfl : oKD23 p = o := Option.some.inj ho
      obtain rfl : 120 = d := Option.some.inj hd
      have q13 : a'.tmps.getD 110 undef = .bool false := hp 13 (oKD13 p) 110 rfl rfl rfl
      exact step_off rfl (wanted_off rfl (show (opsKD p).toArray[13]? = some (oKD13 p) from rfl) rfl q13) ⟨_, rfl, rfl, Grew.refl _⟩
    · obtain rfl : oKD24 p = o := Option.some.inj ho
      obtain rfl : 121 = d := Option.some.inj hd
      have q13 : a'.tmps.getD 110 undef = .bool false := hp 13 (oKD13 p) 110 rfl rfl rfl
      exact step_off rfl (wanted_off rfl (show (opsKD p).toArray[13]? = some (oKD13 p) from rfl) rfl q13) ⟨_, rfl, rfl, Grew.refl _⟩
    · obtain rfl : oKD25 p = o := Option.some.inj ho
      obtain rfl : 122 = d := Option.some.inj hd
      have q13 : a'.tmps.getD 110 undef = .bool false := hp 13 (oKD13 p) 110 rfl rfl rfl
      exact step_off rfl (wanted_off rfl (show (opsKD p).toArray[13]? = some (oKD13 p) from rfl) rfl q13) ⟨_, rfl, rfl, Grew.refl _⟩
    · obtain rfl : oKD26 p = o := Option.some.inj ho
      obtain rfl : 123 = d := Option.some.inj hd
      have q13 : a'.tmps.getD 110 undef = .bool false := hp 13 (oKD13 p) 110 rfl rfl rfl
      exact step_off rfl (wanted_off rfl (show (opsKD p).toArray[13]? = some (oKD13 p) from rfl) rfl q13) ⟨_, rfl, rfl, Grew.refl _⟩
    · obtain rfl : oKD27 p = o := Option.some.inj ho
      obtain rfl : 124 = d := Option.some.inj hd
      have q13 : a'.tmps.getD 110 undef = .bool false := hp 13 (oKD13 p) 110 rfl rfl rfl
      exact step_off rfl (wanted_off rfl (show (opsKD p).toArray[13]? = some (oKD13 p) from rfl) rfl q13) ⟨_, rfl, rfl, Grew.refl _⟩
    · obtain rfl : oKD28 p = o := Option.some.inj ho
      obtain rfl : 125 = d := Option.some.inj hd
      have q13 : a'.tmps.getD 110 undef = .bool false := hp 13 (oKD13 p) 110 rfl rfl rfl
      exact step_off rfl (wanted_off rfl (show (opsKD p).toArray[13]? = some (oKD13 p) from rfl) rfl q13) ⟨_, rfl, rfl, Grew.refl _⟩
    · obtain rfl : oKD29 p = o := Option.some.inj ho
      obtain rfl : 126 = d := Option.some.inj hd
      have q13 : a'.tmps.getD 110 undef = .bool false := hp 13 (oKD13 p) 110 rfl rfl rfl
      exact step_off rfl (wanted_off rfl (show (opsKD p).toArray[13]? = some (oKD13 p) from rfl) rfl q13) ⟨_, rfl, rfl, Grew.refl _⟩
    · obtain rfl : oKD30 p = o := Option.some.inj ho
      obtain rfl : 127 = d := Option.some.inj hd
      have q13 : a'.tmps.getD 110 undef = .bool false := hp 13 (oKD13 p) 110 rfl rfl rfl
      exact step_off rfl (wanted_off rfl (show (opsKD p).toArray[13]? = some (oKD13 p) from rfl) rfl q13) ⟨_, rfl, rfl, Grew.refl _⟩
    · obtain rfl : oKD31 p = o := Option.some.inj ho
      obtain rfl : 128 = d := Option.some.inj hd
      have q10 : a'.tmps.getD 107 undef = .bool false := hp 10 (oKD10 p) 107 rfl rfl rfl
      have q13 : a'.tmps.getD 110 undef = .bool false := hp 13 (oKD13 p) 110 rfl rfl rfl
      exact step_pick rfl (wanted_on rfl (show (opsKD p).toArray[10]? = some (oKD10 p) from rfl) rfl q10) rfl q13 rfl ⟨_, rfl, rfl, Grew.refl _⟩
    · obtain rfl : oKD32 p = o := Option.some.inj ho
      obtain rfl : 129 = d := Option.some.inj hd
      have q7 : a'.tmps.getD 104 undef = .bool true := hp 7 (oKD7 p) 104 rfl rfl rfl
      have q10 : a'.tmps.getD 107 undef = .bool false := hp 10 (oKD10 p) 107 rfl rfl rfl
      have q31 : a'.tmps.getD 128 undef = .bool false := hp 31 (oKD31 p) 128 rfl rfl rfl
      exact step_pick rfl (wanted_on rfl (show (opsKD p).toArray[7]? = some (oKD7 p) from rfl) rfl q7) rfl q10 (show (if false = true then _ else a'.tmps.getD 128 undef) = _ from q31) ⟨_, rfl, rfl, Grew.refl _⟩
    · obtain rfl : oKD33 p = o := Option.some.inj ho
      obtain rfl : 130 = d := Option.some.inj hd
      have q7 : a'.tmps.getD 104 undef = .bool true := hp 7 (oKD7 p) 104 rfl rfl rfl
      have q32 : a'.tmps.getD 129 undef = .bool false := hp 32 (oKD32 p) 129 rfl rfl rfl
      exact step_move rfl (wanted_on rfl (show (opsKD p).toArray[7]? = some (oKD7 p) from rfl) rfl q7) rfl q32 ⟨_, rfl, rfl, Grew.refl _⟩
    · obtain rfl : oKD34 p = o := Option.some.inj ho
      obtain rfl : 131 = d := Option.some.inj hd
      have q33 : a'.tmps.getD 130 undef = .bool false := hp 33 (oKD33 p) 130 rfl rfl rfl
      exact step_move rfl (wanted_on rfl (show (opsKD p).toArray[33]? = some (oKD33 p) from rfl) rfl q33) rfl (hF.at 8 rfl h8) ⟨_, rfl, rfl, Grew.refl _⟩
    · obtain rfl : oKD35 p = o := Option.some.inj ho
      obtain rfl : 132 = d := Option.some.inj hd
      have q33 : a'.tmps.getD 130 undef = .bool false := hp 33 (oKD33 p) 130 rfl rfl rfl
      have q34 : a'.tmps.getD 131 undef = .int .i64 20 := hp 34 (oKD34 p) 131 rfl rfl rfl
      exact step_bin rfl (wanted_on rfl (show (opsKD p).toArray[33]? = some (oKD33 p) from rfl) rfl q33) rfl q34 rfl (guard_int _ _ _ _ _ _ _ _ _) ((run_eqi _ _ _ _ _).trans (by simp)) ⟨_, rfl, rfl, Grew.refl _⟩
    · obtain rfl : oKD36 p = o := Option.some.inj ho
      obtain rfl : 133 = d := Option.some.inj hd
      have q33 : a'.tmps.getD 130 undef = .bool false := hp 33 (oKD33 p) 130 rfl rfl rfl
      have q35 : a'.tmps.getD 132 undef = .bool false := hp 35 (oKD35 p) 132 rfl rfl rfl
      exact step_move rfl (wanted_on rfl (show (opsKD p).toArray[33]? = some (oKD33 p) from rfl) rfl q33) rfl q35 ⟨_, rfl, rfl, Grew.refl _⟩
    · obtain rfl : oKD37 p = o := Option.some.inj ho
      obtain rfl : 134 = d := Option.some.inj hd
      have q36 : a'.tmps.getD 133 undef = .bool false := hp 36 (oKD36 p) 133 rfl rfl rfl
      exact step_off rfl (wanted_off rfl (show (opsKD p).toArray[36]? = some (oKD36 p) from rfl) rfl q36) ⟨_, rfl, rfl, Grew.refl _⟩
    · obtain rfl : oKD38 p = o := Option.some.inj ho
      obtain rfl : 135 = d := Option.some.inj hd
      have q36 : a'.tmps.getD 133 undef = .bool false := hp 36 (oKD36 p) 133 rfl rfl rfl
      exact step_off rfl (wanted_off rfl (show (opsKD p).toArray[36]? = some (oKD36 p) from rfl) rfl q36) ⟨_, rfl, rfl, Grew.refl _⟩
    · obtain rfl : oKD39 p = o := Option.some.inj ho
      obtain rfl : 136 = d := Option.some.inj hd
      have q36 : a'.tmps.getD 133 undef = .bool false := hp 36 (oKD36 p) 133 rfl rfl rfl
      exact step_off rfl (wanted_off rfl (show (opsKD p).toArray[36]? = some (oKD36 p) from rfl) rfl q36) ⟨_, rfl, rfl, Grew.refl _⟩
    · obtain rfl : oKD40 p = o := Option.some.inj ho
      obtain rfl : 137 = d := Option.some.inj hd
      have q36 : a'.tmps.getD 133 undef = .bool false := hp 36 (oKD36 p) 133 rfl rfl rfl
      exact step_off rfl (wanted_off rfl (show (opsKD p).toArray[36]? = some (oKD36 p) from rfl) rfl q36) ⟨_, rfl, rfl, Grew.refl _⟩
    · obtain rfl : oKD41 p = o := Option.some.inj ho
      obtain rfl : 138 = d := Option.some.inj hd
      have q36 : a'.tmps.getD 133 undef = .bool false := hp 36 (oKD36 p) 133 rfl rfl rfl
      exact step_off rfl (wanted_off rfl (show (opsKD p).toArray[36]? = some (oKD36 p) from rfl) rfl q36) ⟨_, rfl, rfl, Grew.refl _⟩
    · obtain rfl : oKD42 p = o := Option.some.inj ho
      obtain rfl : 139 = d := Option.some.inj hd
      have q36 : a'.tmps.getD 133 undef = .bool false := hp 36 (oKD36 p) 133 rfl rfl rfl
      exact step_off rfl (wanted_off rfl (show (opsKD p).toArray[36]? = some (oKD36 p) from rfl) rfl q36) ⟨_, rfl, rfl, Grew.refl _⟩
    · obtain rfl : oKD43 p = o := Option.some.inj ho
      obtain rfl : 140 = d := Option.some.inj hd
      have q36 : a'.tmps.getD 133 undef = .bool false := hp 36 (oKD36 p) 133 rfl rfl rfl
      exact step_off rfl (wanted_off rfl (show (opsKD p).toArray[36]? = some (oKD36 p) from rfl) rfl q36) ⟨_, rfl, rfl, Grew.refl _⟩
    · obtain rfl : oKD44 p = o := Option.some.inj ho
      obtain rfl : 141 = d := Option.some.inj hd
      have q36 : a'.tmps.getD 133 undef = .bool false := hp 36 (oKD36 p) 133 rfl rfl rfl
      exact step_off rfl (wanted_off rfl (show (opsKD p).toArray[36]? = some (oKD36 p) from rfl) rfl q36) ⟨_, rfl, rfl, Grew.refl _⟩
    · obtain rfl : oKD45 p = o := Option.some.inj ho
      obtain rfl : 142 = d := Option.some.inj hd
      have q36 : a'.tmps.getD 133 undef = .bool false := hp 36 (oKD36 p) 133 rfl rfl rfl
      exact step_off rfl (wanted_off rfl (show (opsKD p).toArray[36]? = some (oKD36 p) from rfl) rfl q36) ⟨_, rfl, rfl, Grew.refl _⟩
    · obtain rfl : oKD46 p = o := Option.some.inj ho
      obtain rfl : 143 = d := Option.some.inj hd
      have q36 : a'.tmps.getD 133 undef = .bool false := hp 36 (oKD36 p) 133 rfl rfl rfl
      exact step_off rfl (wanted_off rfl (show (opsKD p).toArray[36]? = some (oKD36 p) from rfl) rfl q36) ⟨_, rfl, rfl, Grew.refl _⟩
    · obtain rfl : oKD47 p = o := Option.some.inj ho
      obtain rfl : 144 = d := Option.some.inj hd
      have q36 : a'.tmps.getD 133 undef = .bool false := hp 36 (oKD36 p) 133 rfl rfl rfl
      exact step_off rfl (wanted_off rfl (show (opsKD p).toArray[36]? = some (oKD36 p) from rfl) rfl q36) ⟨_, rfl, rfl, Grew.refl _⟩
    · obtain rfl : oKD48 p = o := Option.some.inj ho
      obtain rfl : 145 = d := Option.some.inj hd
      have q36 : a'.tmps.getD 133 undef = .bool false := hp 36 (oKD36 p) 133 rfl rfl rfl
      exact step_off rfl (wanted_off rfl (show (opsKD p).toArray[36]? = some (oKD36 p) from rfl) rfl q36) ⟨_, rfl, rfl, Grew.refl _⟩
    · obtain rfl : oKD49 p = o := Option.some.inj ho
      obtain rfl : 146 = d := Option.some.inj hd
      have q33 : a'.tmps.getD 130 undef = .bool false := hp 33 (oKD33 p) 130 rfl rfl rfl
      have q36 : a'.tmps.getD 133 undef = .bool false := hp 36 (oKD36 p) 133 rfl rfl rfl
      exact step_pick rfl (wanted_on rfl (show (opsKD p).toArray[33]? = some (oKD33 p) from rfl) rfl q33) rfl q36 rfl ⟨_, rfl, rfl, Grew.refl _⟩
    · obtain rfl : oKD50 p = o := Option.some.inj ho
      obtain rfl : 147 = d := Option.some.inj hd
      have q7 : a'.tmps.getD 104 undef = .bool true := hp 7 (oKD7 p) 104 rfl rfl rfl
      have q33 : a'.tmps.getD 130 undef = .bool false := hp 33 (oKD33 p) 130 rfl rfl rfl
      have q49 : a'.tmps.getD 146 undef = .bool false := hp 49 (oKD49 p) 146 rfl rfl rfl
      exact step_pick rfl (wanted_on rfl (show (opsKD p).toArray[7]? = some (oKD7 p) from rfl) rfl q7) rfl q33 (show (if false = true then _ else a'.tmps.getD 146 undef) = _ from q49) ⟨_, rfl, rfl, Grew.refl _⟩
    · obtain rfl : oKD51 p = o := Option.some.inj ho
      obtain rfl : 148 = d := Option.some.inj hd
      have q7 : a'.tmps.getD 104 undef = .bool true := hp 7 (oKD7 p) 104 rfl rfl rfl
      have q50 : a'.tmps.getD 147 undef = .bool false := hp 50 (oKD50 p) 147 rfl rfl rfl
      exact step_move rfl (wanted_on rfl (show (opsKD p).toArray[7]? = some (oKD7 p) from rfl) rfl q7) rfl q50 ⟨_, rfl, rfl, Grew.refl _⟩
    · obtain rfl : oKD52 p = o := Option.some.inj ho
      obtain rfl : 149 = d := Option.some.inj hd
      have q51 : a'.tmps.getD 148 undef = .bool false := hp 51 (oKD51 p) 148 rfl rfl rfl
      exact step_move rfl (wanted_on rfl (show (opsKD p).toArray[51]? = some (oKD51 p) from rfl) rfl q51) rfl (hF.at 8 rfl h8) ⟨_, rfl, rfl, Grew.refl _⟩
    · obtain rfl : oKD53 p = o := Option.some.inj ho
      obtain rfl : 150 = d := Option.some.inj hd
      have q51 : a'.tmps.getD 148 undef = .bool false := hp 51 (oKD51 p) 148 rfl rfl rfl
      have q52 : a'.tmps.getD 149 undef = .int .i64 20 := hp 52 (oKD52 p) 149 rfl rfl rfl
      exact step_bin rfl (wanted_on rfl (show (opsKD p).toArray[51]? = some (oKD51 p) from rfl) rfl q51) rfl q52 rfl (guard_int _ _ _ _ _ _ _ _ _) ((run_eqi _ _ _ _ _).trans (by simp)) ⟨_, rfl, rfl, Grew.refl _⟩
    · obtain rfl : oKD54 p = o := Option.some.inj ho
      obtain rfl : 151 = d := Option.some.inj hd
      have q51 : a'.tmps.getD 148 undef = .bool false := hp 51 (oKD51 p) 148 rfl rfl rfl
      have q53 : a'.tmps.getD 150 undef = .bool false := hp 53 (oKD53 p) 150 rfl rfl rfl
      exact step_move rfl (wanted_on rfl (show (opsKD p).toArray[51]? = some (oKD51 p) from rfl) rfl q51) rfl q53 ⟨_, rfl, rfl, Grew.refl _⟩
    · obtain rfl : oKD55 p = o := Option.some.inj ho
      obtain rfl : 152 = d := Option.some.inj hd
      have q54 : a'.tmps.getD 151 undef = .bool false := hp 54 (oKD54 p) 151 rfl rfl rfl
      exact step_off rfl (wanted_off rfl (show (opsKD p).toArray[54]? = some (oKD54 p) from rfl) rfl q54) ⟨_, rfl, rfl, Grew.refl _⟩
    · obtain rfl : oKD56 p = o := Option.some.inj ho
      obtain rfl : 153 = d := Option.some.inj hd
      have q54 : a'.tmps.getD 151 undef = .bool false := hp 54 (oKD54 p) 151 rfl rfl rfl
      exact step_off rfl (wanted_off rfl (show (opsKD p).toArray[54]? = some (oKD54 p) from rfl) rfl q54) ⟨_, rfl, rfl, Grew.refl _⟩
    · obtain rfl : oKD57 p = o := Option.some.inj ho
      obtain rfl : 154 = d := Option.some.inj hd
      have q54 : a'.tmps.getD 151 undef = .bool false := hp 54 (oKD54 p) 151 rfl rfl rfl
      exact step_off rfl (wanted_off rfl (show (opsKD p).toArray[54]? = some (oKD54 p) from rfl) rfl q54) ⟨_, rfl, rfl, Grew.refl _⟩
    · obtain rfl : oKD58 p = o := Option.some.inj ho
      obtain rfl : 155 = d := Option.some.inj hd
      have q51 : a'.tmps.getD 148 undef = .bool false := hp 51 (oKD51 p) 148 rfl rfl rfl
      have q54 : a'.tmps.getD 151 undef = .bool false := hp 54 (oKD54 p) 151 rfl rfl rfl
      exact step_pick rfl (wanted_on rfl (show (opsKD p).toArray[51]? = some (oKD51 p) from rfl) rfl q51) rfl q54 rfl ⟨_, rfl, rfl, Grew.refl _⟩
    · obtain rfl : oKD59 p = o := Option.some.inj ho
      obtain rfl : 156 = d := Option.some.inj hd
      have q7 : a'.tmps.getD 104 undef = .bool true := hp 7 (oKD7 p) 104 rfl rfl rfl
      have q51 : a'.tmps.getD 148 undef = .bool false := hp 51 (oKD51 p) 148 rfl rfl rfl
      have q58 : a'.tmps.getD 155 undef = .bool false := hp 58 (oKD58 p) 155 rfl rfl rfl
      exact step_pick rfl (wanted_on rfl (show (opsKD p).toArray[7]? = some (oKD7 p) from rfl) rfl q7) rfl q51 (show (if false = true then _ else a'.tmps.getD 155 undef) = _ from q58) ⟨_, rfl, rfl, Grew.refl _⟩
    · obtain rfl : oKD60 p = o := Option.some.inj ho
      obtain rfl : 157 = d := Option.some.inj hd
      have q7 : a'.tmps.getD 104 undef = .bool true := hp 7 (oKD7 p) 104 rfl rfl rfl
      have q59 : a'.tmps.getD 156 undef = .bool false := hp 59 (oKD59 p) 156 rfl rfl rfl
      exact step_pick rfl rfl rfl q7 (show (if true = true then a'.tmps.getD 156 undef else _) = _ from q59) ⟨_, rfl, rfl, Grew.refl _⟩
    · exact absurd ((Array.getElem?_eq_some_iff.1 ho).1) (by simp [opsKD])
  · intro a' w' hF hR hp
    have e0 : psiKD P w0 R t lb lo Ln lc k d q Nn Bb x AB LB cB m b 0 (a'.tmps.getD 97 undef) w' := hp 0 (oKD0 p) 97 rfl rfl
    have e1 : psiKD P w0 R t lb lo Ln lc k d q Nn Bb x AB LB cB m b 1 (a'.tmps.getD 98 undef) w' := hp 1 (oKD1 p) 98 rfl rfl
    have e2 : psiKD P w0 R t lb lo Ln lc k d q Nn Bb x AB LB cB m b 2 (a'.tmps.getD 99 undef) w' := hp 2 (oKD2 p) 99 rfl rfl
    have e3 : psiKD P w0 R t lb lo Ln lc k d q Nn Bb x AB LB cB m b 3 (a'.tmps.getD 100 undef) w' := hp 3 (oKD3 p) 100 rfl rfl
    have e4 : psiKD P w0 R t lb lo Ln lc k d q Nn Bb x AB LB cB m b 4 (a'.tmps.getD 101 undef) w' := hp 4 (oKD4 p) 101 rfl rfl
    have e5 : psiKD P w0 R t lb lo Ln lc k d q Nn Bb x AB LB cB m b 5 (a'.tmps.getD 102 undef) w' := hp 5 (oKD5 p) 102 rfl rfl
    have e6 : psiKD P w0 R t lb lo Ln lc k d q Nn Bb x AB LB cB m b 6 (a'.tmps.getD 103 undef) w' := hp 6 (oKD6 p) 103 rfl rfl
    have e7 : psiKD P w0 R t lb lo Ln lc k d q Nn Bb x AB LB cB m b 7 (a'.tmps.getD 104 undef) w' := hp 7 (oKD7 p) 104 rfl rfl
    have e8 : psiKD P w0 R t lb lo Ln lc k d q Nn Bb x AB LB cB m b 8 (a'.tmps.getD 105 undef) w' := hp 8 (oKD8 p) 105 rfl rfl
    have e9 : psiKD P w0 R t lb lo Ln lc k d q Nn Bb x AB LB cB m b 9 (a'.tmps.getD 106 undef) w' := hp 9 (oKD9 p) 106 rfl rfl
    have e10 : psiKD P w0 R t lb lo Ln lc k d q Nn Bb x AB LB cB m b 10 (a'.tmps.getD 107 undef) w' := hp 10 (oKD10 p) 107 rfl rfl
    have e11 : psiKD P w0 R t lb lo Ln lc k d q Nn Bb x AB LB cB m b 11 (a'.tmps.getD 108 undef) w' := hp 11 (oKD11 p) 108 rfl rfl
    have e12 : psiKD P w0 R t lb lo Ln lc k d q Nn Bb x AB LB cB m b 12 (a'.tmps.getD 109 undef) w' := hp 12 (oKD12 p) 109 rfl rfl
    have e13 : psiKD P w0 R t lb lo Ln lc k d q Nn Bb x AB LB cB m b 13 (a'.tmps.getD 110 undef) w' := hp 13 (oKD13 p) 110 rfl rfl
    have e14 : psiKD P w0 R t lb lo Ln lc k d q Nn Bb x AB LB cB m b 14 (a'.tmps.getD 111 undef) w' := hp 14 (oKD14 p) 111 rfl rfl
    have e15 : psiKD P w0 R t lb lo Ln lc k d q Nn Bb x AB LB cB m b 15 (a'.tmps.getD 112 undef) w' := hp 15 (oKD15 p) 112 rfl rfl
    have e16 : psiKD P w0 R t lb lo Ln lc k d q Nn Bb x AB LB cB m b 16 (a'.tmps.getD 113 undef) w' := hp 16 (oKD16 p) 113 rfl rfl
    have e17 : psiKD P w0 R t lb lo Ln lc k d q Nn Bb x AB LB cB m b 17 (a'.tmps.getD 114 undef) w' := hp 17 (oKD17 p) 114 rfl rfl
    have e18 : psiKD P w0 R t lb lo Ln lc k d q Nn Bb x AB LB cB m b 18 (a'.tmps.getD 115 undef) w' := hp 18 (oKD18 p) 115 rfl rfl
    have e19 : psiKD P w0 R t lb lo Ln lc k d q Nn Bb x AB LB cB m b 19 (a'.tmps.getD 116 undef) w' := hp 19 (oKD19 p) 116 rfl rfl
    have e20 : psiKD P w0 R t lb lo Ln lc k d q Nn Bb x AB LB cB m b 20 (a'.tmps.getD 117 undef) w' := hp 20 (oKD20 p) 117 rfl rfl
    have e21 : psiKD P w0 R t lb lo Ln lc k d q Nn Bb x AB LB cB m b 21 (a'.tmps.getD 118 undef) w' := hp 21 (oKD21 p) 118 rfl rfl
    have e22 : psiKD P w0 R t lb lo Ln lc k d q Nn Bb x AB LB cB m b 22 (a'.tmps.getD 119 undef) w' := hp 22 (oKD22 p) 119 rfl rfl
    have e23 : psiKD P w0 R t lb lo Ln lc k d q Nn Bb x AB LB cB m b 23 (a'.tmps.getD 120 undef) w' := hp 23 (oKD23 p) 120 rfl rfl
    have e24 : psiKD P w0 R t lb lo Ln lc k d q Nn Bb x AB LB cB m b 24 (a'.tmps.getD 121 undef) w' := hp 24 (oKD24 p) 121 rfl rfl
    have e25 : psiKD P w0 R t lb lo Ln lc k d q Nn Bb x AB LB cB m b 25 (a'.tmps.getD 122 undef) w' := hp 25 (oKD25 p) 122 rfl rfl
    have e26 : psiKD P w0 R t lb lo Ln lc k d q Nn Bb x AB LB cB m b 26 (a'.tmps.getD 123 undef) w' := hp 26 (oKD26 p) 123 rfl rfl
    have e27 : psiKD P w0 R t lb lo Ln lc k d q Nn Bb x AB LB cB m b 27 (a'.tmps.getD 124 undef) w' := hp 27 (oKD27 p) 124 rfl rfl
    have e28 : psiKD P w0 R t lb lo Ln lc k d q Nn Bb x AB LB cB m b 28 (a'.tmps.getD 125 undef) w' := hp 28 (oKD28 p) 125 rfl rfl
    have e29 : psiKD P w0 R t lb lo Ln lc k d q Nn Bb x AB LB cB m b 29 (a'.tmps.getD 126 undef) w' := hp 29 (oKD29 p) 126 rfl rfl
    have e30 : psiKD P w0 R t lb lo Ln lc k d q Nn Bb x AB LB cB m b 30 (a'.tmps.getD 127 undef) w' := hp 30 (oKD30 p) 127 rfl rfl
    have e31 : psiKD P w0 R t lb lo Ln lc k d q Nn Bb x AB LB cB m b 31 (a'.tmps.getD 128 undef) w' := hp 31 (oKD31 p) 128 rfl rfl
    have e32 : psiKD P w0 R t lb lo Ln lc k d q Nn Bb x AB LB cB m b 32 (a'.tmps.getD 129 undef) w' := hp 32 (oKD32 p) 129 rfl rfl
    have e33 : psiKD P w0 R t lb lo Ln lc k d q Nn Bb x AB LB cB m b 33 (a'.tmps.getD 130 undef) w' := hp 33 (oKD33 p) 130 rfl rfl
    have e34 : psiKD P w0 R t lb lo Ln lc k d q Nn Bb x AB LB cB m b 34 (a'.tmps.getD 131 undef) w' := hp 34 (oKD34 p) 131 rfl rfl
    have e35 : psiKD P w0 R t lb lo Ln lc k d q Nn Bb x AB LB cB m b 35 (a'.tmps.getD 132 undef) w' := hp 35 (oKD35 p) 132 rfl rfl
    have e36 : psiKD P w0 R t lb lo Ln lc k d q Nn Bb x AB LB cB m b 36 (a'.tmps.getD 133 undef) w' := hp 36 (oKD36 p) 133 rfl rfl
    have e37 : psiKD P w0 R t lb lo Ln lc k d q Nn Bb x AB LB cB m b 37 (a'.tmps.getD 134 undef) w' := hp 37 (oKD37 p) 134 rfl rfl
    have e38 : psiKD P w0 R t lb lo Ln lc k d q Nn Bb x AB LB cB m b 38 (a'.tmps.getD 135 undef) w' := hp 38 (oKD38 p) 135 rfl rfl
    have e39 : psiKD P w0 R t lb lo Ln lc k d q Nn Bb x AB LB cB m b 39 (a'.tmps.getD 136 undef) w' := hp 39 (oKD39 p) 136 rfl rfl
    have e40 : psiKD P w0 R t lb lo Ln lc k d q Nn Bb x AB LB cB m b 40 (a'.tmps.getD 137 undef) w' := hp 40 (oKD40 p) 137 rfl rfl
    have e41 : psiKD P w0 R t lb lo Ln lc k d q Nn Bb x AB LB cB m b 41 (a'.tmps.getD 138 undef) w' := hp 41 (oKD41 p) 138 rfl rfl
    have e42 : psiKD P w0 R t lb lo Ln lc k d q Nn Bb x AB LB cB m b 42 (a'.tmps.getD 139 undef) w' := hp 42 (oKD42 p) 139 rfl rfl
    have e43 : psiKD P w0 R t lb lo Ln lc k d q Nn Bb x AB LB cB m b 43 (a'.tmps.getD 140 undef) w' := hp 43 (oKD43 p) 140 rfl rfl
    have e44 : psiKD P w0 R t lb lo Ln lc k d q Nn Bb x AB LB cB m b 44 (a'.tmps.getD 141 undef) w' := hp 44 (oKD44 p) 141 rfl rfl
    have e45 : psiKD P w0 R t lb lo Ln lc k d q Nn Bb x AB LB cB m b 45 (a'.tmps.getD 142 undef) w' := hp 45 (oKD45 p) 142 rfl rfl
    have e46 : psiKD P w0 R t lb lo Ln lc k d q Nn Bb x AB LB cB m b 46 (a'.tmps.getD 143 undef) w' := hp 46 (oKD46 p) 143 rfl rfl
    have e47 : psiKD P w0 R t lb lo Ln lc k d q Nn Bb x AB LB cB m b 47 (a'.tmps.getD 144 undef) w' := hp 47 (oKD47 p) 144 rfl rfl
    have e48 : psiKD P w0 R t lb lo Ln lc k d q Nn Bb x AB LB cB m b 48 (a'.tmps.getD 145 undef) w' := hp 48 (oKD48 p) 145 rfl rfl
    have e49 : psiKD P w0 R t lb lo Ln lc k d q Nn Bb x AB LB cB m b 49 (a'.tmps.getD 146 undef) w' := hp 49 (oKD49 p) 146 rfl rfl
    have e50 : psiKD P w0 R t lb lo Ln lc k d q Nn Bb x AB LB cB m b 50 (a'.tmps.getD 147 undef) w' := hp 50 (oKD50 p) 147 rfl rfl
    have e51 : psiKD P w0 R t lb lo Ln lc k d q Nn Bb x AB LB cB m b 51 (a'.tmps.getD 148 undef) w' := hp 51 (oKD51 p) 148 rfl rfl
    have e52 : psiKD P w0 R t lb lo Ln lc k d q Nn Bb x AB LB cB m b 52 (a'.tmps.getD 149 undef) w' := hp 52 (oKD52 p) 149 rfl rfl
    have e53 : psiKD P w0 R t lb lo Ln lc k d q Nn Bb x AB LB cB m b 53 (a'.tmps.getD 150 undef) w' := hp 53 (oKD53 p) 150 rfl rfl
    have e54 : psiKD P w0 R t lb lo Ln lc k d q Nn Bb x AB LB cB m b 54 (a'.tmps.getD 151 undef) w' := hp 54 (oKD54 p) 151 rfl rfl
    have e55 : psiKD P w0 R t lb lo Ln lc k d q Nn Bb x AB LB cB m b 55 (a'.tmps.getD 152 undef) w' := hp 55 (oKD55 p) 152 rfl rfl
    have e56 : psiKD P w0 R t lb lo Ln lc k d q Nn Bb x AB LB cB m b 56 (a'.tmps.getD 153 undef) w' := hp 56 (oKD56 p) 153 rfl rfl
    have e57 : psiKD P w0 R t lb lo Ln lc k d q Nn Bb x AB LB cB m b 57 (a'.tmps.getD 154 undef) w' := hp 57 (oKD57 p) 154 rfl rfl
    have e58 : psiKD P w0 R t lb lo Ln lc k d q Nn Bb x AB LB cB m b 58 (a'.tmps.getD 155 undef) w' := hp 58 (oKD58 p) 155 rfl rfl
    have e59 : psiKD P w0 R t lb lo Ln lc k d q Nn Bb x AB LB cB m b 59 (a'.tmps.getD 156 undef) w' := hp 59 (oKD59 p) 156 rfl rfl
    have e60 : psiKD P w0 R t lb lo Ln lc k d q Nn Bb x AB LB cB m b 60 (a'.tmps.getD 157 undef) w' := hp 60 (oKD60 p) 157 rfl rfl
    rw [hF.puts [(97, .slice (some ⟨lb, lo, none⟩) Ln lc), (98, .int .i64 (k : Int)), (99, .pointer (some ⟨lb, lo + k * 3, none⟩)), (100, .pointer (some ⟨lb, lo + k * 3, none⟩)), (101, .int .u8 (d : Int)), (102, .int .u8 (q : Int)), (103, .bool true), (104, .bool true), (105, .bool true), (106, .bool false), (107, .bool false), (108, .int .i64 20), (109, .bool false), (110, .bool false), (111, undef), (112, undef), (113, undef), (114, undef), (115, undef), (116, undef), (117, undef), (118, undef), (119, undef), (120, undef), (121, undef), (122, undef), (123, undef), (124, undef), (125, undef), (126, undef), (127, undef), (128, .bool false), (129, .bool false), (130, .bool false), (131, .int .i64 20), (132, .bool false), (133, .bool false), (134, undef), (135, undef), (136, undef), (137, undef), (138, undef), (139, undef), (140, undef), (141, undef), (142, undef), (143, undef), (144, undef), (145, undef), (146, .bool false), (147, .bool false), (148, .bool false), (149, .int .i64 20), (150, .bool false), (151, .bool false), (152, undef), (153, undef), (154, undef), (155, .bool false), (156, .bool false), (157, .bool false)] ?_ rfl (by rw [hN]; rfl)]
    · exact hQ  w'  hR.undraw
    · intro x hx
      simp only [List.mem_cons, List.not_mem_nil, or_false] at hx
      rcases hx with rfl | rfl | rfl | rfl | rfl | rfl | rfl | rfl | rfl | rfl | rfl | rfl | rfl | rfl | rfl | rfl | rfl | rfl | rfl | rfl | rfl | rfl | rfl | rfl | rfl | rfl | rfl | rfl | rfl | rfl | rfl | rfl | rfl | rfl | rfl | rfl | rfl | rfl | rfl | rfl | rfl | rfl | rfl | rfl | rfl | rfl | rfl | rfl | rfl | rfl | rfl | rfl | rfl | rfl | rfl | rfl | rfl | rfl | rfl | rfl | rfl
      · exact e0
      · exact e1
      · exact e2
      · exact e3
      · exact e4
      · exact e5
      · exact e6
      · exact e7
      · exact e8
      · exact e9
      · exact e10
      · exact e11
      · exact e12
      · exact e13
      · exact e14
      · exact e15
      · exact e16
      · exact e17
      · exact e18
      · exact e19
      · exact e20
      · exact e21
      · exact e22
      · exact e23
      · exact e24
      · exact e25
      · exact e26
      · exact e27
      · exact e28
      · exact e29
      · exact e30
      · exact e31
      · exact e32
      · exact e33
      · exact e34
      · exact e35
      · exact e36
      · exact e37
      · exact e38
      · exact e39
      · exact e40
      · exact e41
      · exact e42
      · exact e43
      · exact e44
      · exact e45
      · exact e46
      · exact e47
      · exact e48
      · exact e49
      · exact e50
      · exact e51
      · exact e52
      · exact e53
      · exact e54
      · exact e55
      · exact e56
      · exact e57
      · exact e58
      · exact e59
      · exact e60
def oKO0 (p : String) : Oper := { dst := some 97, op := Op.move (Operand.tmp 0), type := 22, pos := p, after := #[], guard := none }
def oKO1 (p : String) : Oper := { dst := some 98, op := Op.move (Operand.tmp 5), type := 3, pos := p, after := #[], guard := none }
def oKO2 (p : String) : Oper := { dst := some 99, op := Op.indexAddr 22 (Operand.tmp 97) (Operand.tmp 98), type := 0, pos := p, after := #[{ on := 0, ground := Ground.data }, { on := 1, ground := Ground.data }], guard := none }
def oKO3 (p : String) : Oper := { dst := some 100, op := Op.fieldAddr 29 (Operand.tmp 99) 0, type := 0, pos := p, after := #[{ on := 2, ground := Ground.data }], guard := none }
def oKO4 (p : String) : Oper := { dst := some 101, op := Op.load 5 (Operand.tmp 100), type := 5, pos := p, after := #[{ on := 3, ground := Ground.data }], guard := none }
def oKO5 (p : String) : Oper := { dst := some 102, op := Op.binOp BinOp.rem 5 (Operand.tmp 101) (Operand.const (Value.int IntKind.u8 7)) 5, type := 5, pos := p, after := #[{ on := 4, ground := Ground.data }], guard := none }
def oKO6 (p : String) : Oper := { dst := some 103, op := Op.binOp BinOp.eql 5 (Operand.tmp 102) (Operand.const (Value.int IntKind.u8 0)) 5, type := 4, pos := p, after := #[{ on := 5, ground := Ground.data }], guard := none }
def oKO7 (p : String) : Oper := { dst := some 104, op := Op.move (Operand.tmp 103), type := 4, pos := p, after := #[{ on := 6, ground := Ground.data }], guard := none }
def oKO8 (p : String) : Oper := { dst := some 105, op := Op.move (Operand.tmp 10), type := 4, pos := p, after := #[{ on := 7, ground := Ground.guard }], guard := some (7, true) }
def oKO9 (p : String) : Oper := { dst := some 106, op := Op.unOp UnOp.not 4 (Operand.tmp 105), type := 4, pos := p, after := #[{ on := 8, ground := Ground.data }, { on := 7, ground := Ground.guard }], guard := some (7, true) }
def oKO10 (p : String) : Oper := { dst := some 107, op := Op.move (Operand.tmp 106), type := 4, pos := p, after := #[{ on := 9, ground := Ground.data }, { on := 7, ground := Ground.chain }, { on := 7, ground := Ground.guard }], guard := some (7, true) }
def oKO11 (p : String) : Oper := { dst := some 108, op := Op.move (Operand.tmp 8), type := 31, pos := p, after := #[{ on := 10, ground := Ground.guard }], guard := some (10, false) }
def oKO12 (p : String) : Oper := { dst := some 109, op := Op.binOp BinOp.neq 31 (Operand.tmp 108) (Operand.const (Value.int IntKind.i64 20)) 31, type := 4, pos := p, after := #[{ on := 11, ground := Ground.data }, { on := 10, ground := Ground.guard }], guard := some (10, false) }
def oKO13 (p : String) : Oper := { dst := some 110, op := Op.move (Operand.tmp 109), type := 4, pos := p, after := #[{ on := 12, ground := Ground.data }, { on := 10, ground := Ground.chain }, { on := 10, ground := Ground.guard }], guard := some (10, false) }
def oKO14 (p : String) : Oper := { dst := some 111, op := Op.move (Operand.tmp 9), type := 9, pos := p, after := #[{ on := 13, ground := Ground.guard }], guard := some (13, true) }
def oKO15 (p : String) : Oper := { dst := some 112, op := Op.move (Operand.tmp 6), type := 9, pos := p, after := #[{ on := 13, ground := Ground.guard }], guard := some (13, true) }
def oKO16 (p : String) : Oper := { dst := some 113, op := Op.call { callee := Callee.builtin Builtin.len, args := #[Operand.tmp 112], argTypes := #[9] }, type := 3, pos := p, after := #[{ on := 15, ground := Ground.data }, { on := 13, ground := Ground.guard }], guard := some (13, true) }
def oKO17 (p : String) : Oper := { dst := some 114, op := Op.slice 9 (Operand.tmp 111) (some (Operand.tmp 113)) none none, type := 9, pos := p, after := #[{ on := 14, ground := Ground.data }, { on := 16, ground := Ground.data }, { on := 13, ground := Ground.guard }], guard := some (13, true) }
def oKO18 (p : String) : Oper := { dst := some 115, op := Op.move (Operand.tmp 0), type := 22, pos := p, after := #[{ on := 13, ground := Ground.guard }], guard := some (13, true) }
def oKO19 (p : String) : Oper := { dst := some 116, op := Op.move (Operand.tmp 5), type := 3, pos := p, after := #[{ on := 13, ground := Ground.guard }], guard := some (13, true) }
def oKO20 (p : String) : Oper := { dst := some 117, op := Op.indexAddr 22 (Operand.tmp 115) (Operand.tmp 116), type := 0, pos := p, after := #[{ on := 18, ground := Ground.data }, { on := 19, ground := Ground.data }, { on := 13, ground := Ground.guard }], guard := some (13, true) }
def oKO21 (p : String) : Oper := { dst := some 118, op := Op.fieldAddr 29 (Operand.tmp 117) 2, type := 0, pos := p, after := #[{ on := 20, ground := Ground.data }, { on := 13, ground := Ground.guard }], guard := some (13, true) }
def oKO22 (p : String) : Oper := { dst := some 119, op := Op.load 27 (Operand.tmp 118), type := 27, pos := p, after := #[{ on := 21, ground := Ground.data }, { on := 13, ground := Ground.guard }], guard := some (13, true) }
def oKO23 (p : String) : Oper := { dst := some 120, op := Op.move (Operand.tmp 9), type := 9, pos := p, after := #[{ on := 13, ground := Ground.guard }], guard := some (13, true) }
def oKO24 (p : String) : Oper := { dst := some 121, op := Op.call { callee := Callee.builtin Builtin.len, args := #[Operand.tmp 120], argTypes := #[9] }, type := 3, pos := p, after := #[{ on := 23, ground := Ground.data }, { on := 13, ground := Ground.guard }], guard := some (13, true) }
def oKO25 (p : String) : Oper := { dst := some 122, op := Op.move (Operand.tmp 6), type := 9, pos := p, after := #[{ on := 13, ground := Ground.guard }], guard := some (13, true) }
def oKO26 (p : String) : Oper := { dst := some 123, op := Op.call { callee := Callee.builtin Builtin.len, args := #[Operand.tmp 122], argTypes := #[9] }, type := 3, pos := p, after := #[{ on := 25, ground := Ground.data }, { on := 13, ground := Ground.guard }], guard := some (13, true) }
def oKO27 (p : String) : Oper := { dst := some 124, op := Op.binOp BinOp.sub 3 (Operand.tmp 121) (Operand.tmp 123) 3, type := 3, pos := p, after := #[{ on := 24, ground := Ground.data }, { on := 26, ground := Ground.data }, { on := 13, ground := Ground.guard }], guard := some (13, true) }
def oKO28 (p : String) : Oper := { dst := some 125, op := Op.slice 27 (Operand.tmp 119) none (some (Operand.tmp 124)) none, type := 27, pos := p, after := #[{ on := 22, ground := Ground.data }, { on := 27, ground := Ground.data }, { on := 13, ground := Ground.guard }], guard := some (13, true) }
def oKO29 (p : String) : Oper := { dst := some 126, op := Op.convert 27 9 (Operand.tmp 125), type := 9, pos := p, after := #[{ on := 28, ground := Ground.data }, { on := 13, ground := Ground.guard }], guard := some (13, true) }
def oKO30 (p : String) : Oper := { dst := some 127, op := Op.binOp BinOp.neq 9 (Operand.tmp 114) (Operand.tmp 126) 9, type := 4, pos := p, after := #[{ on := 17, ground := Ground.data }, { on := 29, ground := Ground.data }, { on := 13, ground := Ground.guard }], guard := some (13, true) }
def oKO31 (p : String) : Oper := { dst := some 128, op := Op.pick (Operand.tmp 110) (Operand.tmp 127) (Operand.const (Value.bool false)), type := 4, pos := p, after := #[{ on := 13, ground := Ground.data }, { on := 30, ground := Ground.data }, { on := 10, ground := Ground.guard }], guard := some (10, false) }
def oKO32 (p : String) : Oper := { dst := some 129, op := Op.pick (Operand.tmp 107) (Operand.const (Value.bool true)) (Operand.tmp 128), type := 4, pos := p, after := #[{ on := 10, ground := Ground.data }, { on := 31, ground := Ground.data }, { on := 7, ground := Ground.guard }], guard := some (7, true) }
def oKO33 (p : String) : Oper := { dst := some 130, op := Op.move (Operand.tmp 129), type := 4, pos := p, after := #[{ on := 32, ground := Ground.data }, { on := 13, ground := Ground.chain }, { on := 7, ground := Ground.guard }], guard := some (7, true) }
def oKO34 (p : String) : Oper := { dst := some 131, op := Op.move (Operand.tmp 8), type := 31, pos := p, after := #[{ on := 33, ground := Ground.guard }], guard := some (33, false) }
def oKO35 (p : String) : Oper := { dst := some 132, op := Op.binOp BinOp.eql 31 (Operand.tmp 131) (Operand.const (Value.int IntKind.i64 0)) 31, type := 4, pos := p, after := #[{ on := 34, ground := Ground.data }, { on := 33, ground := Ground.guard }], guard := some (33, false) }
def oKO36 (p : String) : Oper := { dst := some 133, op := Op.move (Operand.tmp 132), type := 4, pos := p, after := #[{ on := 35, ground := Ground.data }, { on := 33, ground := Ground.chain }, { on := 33, ground := Ground.guard }], guard := some (33, false) }
def oKO37 (p : String) : Oper := { dst := some 134, op := Op.move (Operand.tmp 9), type := 9, pos := p, after := #[{ on := 36, ground := Ground.guard }], guard := some (36, true) }
def oKO38 (p : String) : Oper := { dst := some 135, op := Op.call { callee := Callee.builtin Builtin.len, args := #[Operand.tmp 134], argTypes := #[9] }, type := 3, pos := p, after := #[{ on := 37, ground := Ground.data }, { on := 36, ground := Ground.guard }], guard := some (36, true) }
def oKO39 (p : String) : Oper := { dst := some 136, op := Op.move (Operand.tmp 6), type := 9, pos := p, after := #[{ on := 36, ground := Ground.guard }], guard := some (36, true) }
def oKO40 (p : String) : Oper := { dst := some 137, op := Op.call { callee := Callee.builtin Builtin.len, args := #[Operand.tmp 136], argTypes := #[9] }, type := 3, pos := p, after := #[{ on := 39, ground := Ground.data }, { on := 36, ground := Ground.guard }], guard := some (36, true) }
def oKO41 (p : String) : Oper := { dst := some 138, op := Op.move (Operand.tmp 0), type := 22, pos := p, after := #[{ on := 36, ground := Ground.guard }], guard := some (36, true) }
def oKO42 (p : String) : Oper := { dst := some 139, op := Op.move (Operand.tmp 5), type := 3, pos := p, after := #[{ on := 36, ground := Ground.guard }], guard := some (36, true) }
def oKO43 (p : String) : Oper := { dst := some 140, op := Op.indexAddr 22 (Operand.tmp 138) (Operand.tmp 139), type := 0, pos := p, after := #[{ on := 41, ground := Ground.data }, { on := 42, ground := Ground.data }, { on := 36, ground := Ground.guard }], guard := some (36, true) }
def oKO44 (p : String) : Oper := { dst := some 141, op := Op.fieldAddr 29 (Operand.tmp 140) 2, type := 0, pos := p, after := #[{ on := 43, ground := Ground.data }, { on := 36, ground := Ground.guard }], guard := some (36, true) }
def oKO45 (p : String) : Oper := { dst := some 142, op := Op.load 27 (Operand.tmp 141), type := 27, pos := p, after := #[{ on := 44, ground := Ground.data }, { on := 36, ground := Ground.guard }], guard := some (36, true) }
def oKO46 (p : String) : Oper := { dst := some 143, op := Op.call { callee := Callee.builtin Builtin.len, args := #[Operand.tmp 142], argTypes := #[27] }, type := 3, pos := p, after := #[{ on := 45, ground := Ground.data }, { on := 36, ground := Ground.guard }], guard := some (36, true) }
def oKO47 (p : String) : Oper := { dst := some 144, op := Op.binOp BinOp.add 3 (Operand.tmp 137) (Operand.tmp 143) 3, type := 3, pos := p, after := #[{ on := 40, ground := Ground.data }, { on := 46, ground := Ground.data }, { on := 36, ground := Ground.guard }], guard := some (36, true) }
def oKO48 (p : String) : Oper := { dst := some 145, op := Op.binOp BinOp.neq 3 (Operand.tmp 135) (Operand.tmp 144) 3, type := 4, pos := p, after := #[{ on := 38, ground := Ground.data }, { on := 47, ground := Ground.data }, { on := 36, ground := Ground.guard }], guard := some (36, true) }
def oKO49 (p : String) : Oper := { dst := some 146, op := Op.pick (Operand.tmp 133) (Operand.tmp 145) (Operand.const (Value.bool false)), type := 4, pos := p, after := #[{ on := 36, ground := Ground.data }, { on := 48, ground := Ground.data }, { on := 33, ground := Ground.guard }], guard := some (33, false) }
def oKO50 (p : String) : Oper := { dst := some 147, op := Op.pick (Operand.tmp 130) (Operand.const (Value.bool true)) (Operand.tmp 146), type := 4, pos := p, after := #[{ on := 33, ground := Ground.data }, { on := 49, ground := Ground.data }, { on := 7, ground := Ground.guard }], guard := some (7, true) }
def oKO51 (p : String) : Oper := { dst := some 148, op := Op.move (Operand.tmp 147), type := 4, pos := p, after := #[{ on := 50, ground := Ground.data }, { on := 36, ground := Ground.chain }, { on := 7, ground := Ground.guard }], guard := some (7, true) }
def oKO52 (p : String) : Oper := { dst := some 149, op := Op.move (Operand.tmp 8), type := 31, pos := p, after := #[{ on := 51, ground := Ground.guard }], guard := some (51, false) }
def oKO53 (p : String) : Oper := { dst := some 150, op := Op.binOp BinOp.eql 31 (Operand.tmp 149) (Operand.const (Value.int IntKind.i64 21)) 31, type := 4, pos := p, after := #[{ on := 52, ground := Ground.data }, { on := 51, ground := Ground.guard }], guard := some (51, false) }
def oKO54 (p : String) : Oper := { dst := some 151, op := Op.move (Operand.tmp 150), type := 4, pos := p, after := #[{ on := 53, ground := Ground.data }, { on := 51, ground := Ground.chain }, { on := 51, ground := Ground.guard }], guard := some (51, false) }
def oKO55 (p : String) : Oper := { dst := some 152, op := Op.move (Operand.tmp 3), type := 25, pos := p, after := #[{ on := 54, ground := Ground.guard }], guard := some (54, true) }
def oKO56 (p : String) : Oper := { dst := some 153, op := Op.call { callee := Callee.value (Operand.func 8), args := #[Operand.tmp 152], argTypes := #[25] }, type := 4, pos := p, after := #[{ on := 55, ground := Ground.data }, { on := 54, ground := Ground.chain }, { on := 54, ground := Ground.guard }], guard := some (54, true) }
def oKO57 (p : String) : Oper := { dst := some 154, op := Op.unOp UnOp.not 4 (Operand.tmp 153), type := 4, pos := p, after := #[{ on := 56, ground := Ground.data }, { on := 54, ground := Ground.guard }], guard := some (54, true) }
def oKO58 (p : String) : Oper := { dst := some 155, op := Op.pick (Operand.tmp 151) (Operand.tmp 154) (Operand.const (Value.bool false)), type := 4, pos := p, after := #[{ on := 54, ground := Ground.data }, { on := 57, ground := Ground.data }, { on := 51, ground := Ground.guard }], guard := some (51, false) }
def oKO59 (p : String) : Oper := { dst := some 156, op := Op.pick (Operand.tmp 148) (Operand.const (Value.bool true)) (Operand.tmp 155), type := 4, pos := p, after := #[{ on := 51, ground := Ground.data }, { on := 58, ground := Ground.data }, { on := 7, ground := Ground.guard }], guard := some (7, true) }
def oKO60 (p : String) : Oper := { dst := some 157, op := Op.pick (Operand.tmp 104) (Operand.tmp 156) (Operand.const (Value.bool false)), type := 4, pos := p, after := #[{ on := 7, ground := Ground.data }, { on := 59, ground := Ground.data }], guard := none }
def opsKO (p : String) : List Oper := [oKO0 p, oKO1 p, oKO2 p, oKO3 p, oKO4 p, oKO5 p, oKO6 p, oKO7 p, oKO8 p, oKO9 p, oKO10 p, oKO11 p, oKO12 p, oKO13 p, oKO14 p, oKO15 p, oKO16 p, oKO17 p, oKO18 p, oKO19 p, oKO20 p, oKO21 p, oKO22 p, oKO23 p, oKO24 p, oKO25 p, oKO26 p, oKO27 p, oKO28 p, oKO29 p, oKO30 p, oKO31 p, oKO32 p, oKO33 p, oKO34 p, oKO35 p, oKO36 p, oKO37 p, oKO38 p, oKO39 p, oKO40 p, oKO41 p, oKO42 p, oKO43 p, oKO44 p, oKO45 p, oKO46 p, oKO47 p, oKO48 p, oKO49 p, oKO50 p, oKO51 p, oKO52 p, oKO53 p, oKO54 p, oKO55 p, oKO56 p, oKO57 p, oKO58 p, oKO59 p, oKO60 p]
theorem opsKO_back (p : String) : backwards (opsKO p) = true := by kernel_rfl
theorem opsKO_slots (p : String) : slotsOk 176 (opsKO p) = true := by kernel_rfl
/-- What each slot comes to. -/
def psiKO (P : DiskK) (w0 : World) (R : Nat) (t : DS) (lb lo Ln lc k d q : Nat) (Nn Bb x : List UInt8) (AB : Option Addr) (LB cB m : Nat) (b : Bool) : Nat → Value → World → Prop
  | 0, v, _ => v = .slice (some ⟨lb, lo, none⟩) Ln lc
  | 1, v, _ => v = .int .i64 (k : Int)
  | 2, v, _ => v = .pointer (some ⟨lb, lo + k * 3, none⟩)
  | 3, v, _ => v = .pointer (some ⟨lb, lo + k * 3, none⟩)
  | 4, v, _ => v = .int .u8 (d : Int)
  | 5, v, _ => v = .int .u8 (q : Int)
  | 6, v, _ => v = .bool true
  | 7, v, _ => v = .bool true
  | 8, v, _ => v = .bool true
  | 9, v, _ => v = .bool false
  | 10, v, _ => v = .bool false
  | 11, v, _ => v = .int .i64 0
  | 12, v, _ => v = .bool true
  | 13, v, _ => v = .bool true
  | 14, v, _ => v = .string (str Nn)
  | 15, v, _ => v = .string (str Bb)
  | 16, v, _ => v = .int .i64 (Bb.length : Int)
  | 17, v, _ => v = .string (str (Nn.drop Bb.length))
  | 18, v, _ => v = .slice (some ⟨lb, lo, none⟩) Ln lc
  | 19, v, _ => v = .int .i64 (k : Int)
  | 20, v, _ => v = .pointer (some ⟨lb, lo + k * 3, none⟩)
  | 21, v, _ => v = .pointer (some ⟨lb, lo + k * 3 + 2, none⟩)
  | 22, v, _ => v = .slice AB LB cB
  | 23, v, _ => v = .string (str Nn)
  | 24, v, _ => v = .int .i64 (Nn.length : Int)
  | 25, v, _ => v = .string (str Bb)
  | 26, v, _ => v = .int .i64 (Bb.length : Int)
  | 27, v, _ => v = .int .i64 (m : Int)
  | 28, v, _ => v = .slice AB m cB
  | 29, v, _ => v = .string (str (x.take m))
  | 30, v, _ => v = .bool false
  | 31, v, _ => v = .bool false
  | 32, v, _ => v = .bool false
  | 33, v, _ => v = .bool false
  | 34, v, _ => v = .int .i64 0
  | 35, v, _ => v = .bool true
  | 36, v, _ => v = .bool true
  | 37, v, _ => v = .string (str Nn)
  | 38, v, _ => v = .int .i64 (Nn.length : Int)
  | 39, v, _ => v = .string (str Bb)
  | 40, v, _ => v = .int .i64 (Bb.length : Int)
  | 41, v, _ => v = .slice (some ⟨lb, lo, none⟩) Ln lc
  | 42, v, _ => v = .int .i64 (k : Int)
  | 43, v, _ => v = .pointer (some ⟨lb, lo + k * 3, none⟩)
  | 44, v, _ => v = .pointer (some ⟨lb, lo + k * 3 + 2, none⟩)
  | 45, v, _ => v = .slice AB LB cB
  | 46, v, _ => v = .int .i64 (LB : Int)
  | 47, v, _ => v = .int .i64 ((Bb.length : Int) + (LB : Int))
  | 48, v, _ => v = .bool false
  | 49, v, _ => v = .bool false
  | 50, v, _ => v = .bool false
  | 51, v, _ => v = .bool false
  | 52, v, _ => v = .int .i64 0
  | 53, v, _ => v = .bool false
  | 54, v, _ => v = .bool false
  | 55, v, _ => v = undef
  | 56, v, _ => v = undef
  | 57, v, _ => v = undef
  | 58, v, _ => v = .bool false
  | 59, v, _ => v = .bool false
  | 60, v, _ => v = .bool false
  | _, _, _ => True
theorem psiKO_grew (P : DiskK) (w0 : World) (R : Nat) (t : DS) (lb lo Ln lc k d q : Nat) (Nn Bb x : List UInt8) (AB : Option Addr) (LB cB m : Nat) (b : Bool) : ∀ i v w w', psiKO P w0 R t lb lo Ln lc k d q Nn Bb x AB LB cB m b i v w → Grew w w' → psiKO P w0 R t lb lo Ln lc k d q Nn Bb x AB LB cB m b i v w' := by
  intro i v w w' h hg
  rcases i with _ | _ | _ | _ | _ | _ | _ | _ | _ | _ | _ | _ | _ | _ | _ | _ | _ | _ | _ | _ | _ | _ | _ | _ | _ | _ | _ | _ | _ | _ | _ | _ | _ | _ | _ | _ | _ | _ | _ | _ | _ | _ | _ | _ | _ | _ | _ | _ | _ | _ | _ | _ | _ | _ | _ | _ | _ | _ | _ | _ | _ | i
  · exact h
  · exact h
  · exact h
  · exact h
  · exact h
  · exact h
  · exact h
  · exact h
  · exact h
  · exact h
  · exact h
  · exact h
  · exact h
  · exact h
  · exact h
  · exact h
  · exact h
  · exact h
  · exact h
  · exact h
  · exact h
  · exact h
  · exact h
  · exact h
  · exact h
  · exact h
  · exact h
  · exact h
  · exact h
  · exact h
  · exact h
  · exact h
  · exact h
  · exact h
  · exact h
  · exact h
  · exact h
  · exact h
  · exact h
  · exact h
  · exact h
  · exact h
  · exact h
  · exact h
  · exact h
  · exact h
  · exact h
  · exact h
  · exact h
  · exact h
  · exact h
  · exact h
  · exact h
  · exact h
  · exact h
  · exact h
  · exact h
  · exact h
  · exact h
  · exact h
  · exact h
  · trivial
set_option maxRecDepth 100000 in
set_option maxHeartbeats 4000000 in
theorem keeps_ok {p : String} (P : DiskK) (w0 : World) (R : Nat) (t : DS) (lb lo Ln lc k d q : Nat) (Nn Bb x : List UInt8) (AB : Option Addr) (LB cB m : Nat) (b : Bool) (hk : k < Ln) (hd8 : d < 256) (hq : d % 7 = q) (hq0 : q = 0) (hN : Nn.length = Bb.length + m) (hmL : m ≤ LB) (hLc : LB ≤ cB) (hLx : LB = x.length) (hb4 : Bb.length ≤ 10000) (hL4 : LB ≤ 10000) (hYx : Nn.drop Bb.length = x.take m) (hml : m = LB) (a : Act) (w : World) (Q : Exit → Act → World → Prop) (hN : a.tmps.size = 176) (h0 : a.tmps.getD 0 undef = .slice (some ⟨lb, lo, none⟩) Ln lc) (h3 : a.tmps.getD 3 undef = .pointer (some ⟨R, 0, none⟩)) (h5 : a.tmps.getD 5 undef = .int .i64 (k : Int)) (h6 : a.tmps.getD 6 undef = .string (str Bb)) (h8 : a.tmps.getD 8 undef = .int .i64 0) (h9 : a.tmps.getD 9 undef = .string (str Nn)) (h10 : a.tmps.getD 10 undef = .bool true) (hlb : lb < w.heap.size) (hk0 : w.cell? ⟨lb, lo + k * 3, none⟩ = some (.int .u8 (d : Int))) (hk2 : w.cell? ⟨lb, lo + k * 3 + 2, none⟩ = some (.slice AB LB cB)) (hA : HasA w w.heap.size AB x) (hl : LiveD P w0 R t w) (hQ : ∀ (w' : World), Grew w w' → Q .normal (puts [(97, .slice (some ⟨lb, lo, none⟩) Ln lc), (98, .int .i64 (k : Int)), (99, .pointer (some ⟨lb, lo + k * 3, none⟩)), (100, .pointer (some ⟨lb, lo + k * 3, none⟩)), (101, .int .u8 (d : Int)), (102, .int .u8 (q : Int)), (103, .bool true), (104, .bool true), (105, .bool true), (106, .bool false), (107, .bool false), (108, .int .i64 0), (109, .bool true), (110, .bool true), (111, .string (str Nn)), (112, .string (str Bb)), (113, .int .i64 (Bb.length : Int)), (114, .string (str (Nn.drop Bb.length))), (115, .slice (some ⟨lb, lo, none⟩) Ln lc), (116, .int .i64 (k : Int)), (117, .pointer (some ⟨lb, lo + k * 3, none⟩)), (118, .pointer (some ⟨lb, lo + k * 3 + 2, none⟩)), (119, .slice AB LB cB), (120, .string (str Nn)), (121, .int .i64 (Nn.length : Int)), (122, .string (str Bb)), (123, .int .i64 (Bb.length : Int)), (124, .int .i64 (m : Int)), (125, .slice AB m cB), (126, .string (str (x.take m))), (127, .bool false), (128, .bool false), (129, .bool false), (130, .bool false), (131, .int .i64 0), (132, .bool true), (133, .bool true), (134, .string (str Nn)), (135, .int .i64 (Nn.length : Int)), (136, .string (str Bb)), (137, .int .i64 (Bb.length : Int)), (138, .slice (some ⟨lb, lo, none⟩) Ln lc), (139, .int .i64 (k : Int)), (140, .pointer (some ⟨lb, lo + k * 3, none⟩)), (141, .pointer (some ⟨lb, lo + k * 3 + 2, none⟩)), (142, .slice AB LB cB), (143, .int .i64 (LB : Int)), (144, .int .i64 ((Bb.length : Int) + (LB : Int))), (145, .bool false), (146, .bool false), (147, .bool false), (148, .bool false), (149, .int .i64 0), (150, .bool false), (151, .bool false), (152, undef), (153, undef), (154, undef), (155, .bool false), (156, .bool false), (157, .bool false)] a) w')
    : (Code.region 15 (opsKO p).toArray true).wp Try.prog Q a w := by
  refine (wpIn_wide (n := 1)).1 (wpIn_region_vals 176 hN follows (opsKO_back p) (opsKO_slots p) Grew Grew.refl Grew.trans (psiKO P w0 R t lb lo Ln lc k d q Nn Bb x AB LB cB m b) (psiKO_grew P w0 R t lb lo Ln lc k d q Nn Bb x AB LB cB m b) ?_ ?_)
  · intro i o d ho hd a' w' hF hR hp
    rcases i with _ | _ | _ | _ | _ | _ | _ | _ | _ | _ | _ | _ | _ | _ | _ | _ | _ | _ | _ | _ | _ | _ | _ | _ | _ | _ | _ | _ | _ | _ | _ | _ | _ | _ | _ | _ | _ | _ | _ | _ | _ | _ | _ | _ | _ | _ | _ | _ | _ | _ | _ | _ | _ | _ | _ | _ | _ | _ | _ | _ | _ | i
    · obtain rfl : oKO0 p = o := Option.some.inj ho
      obtain rfl : 97 = d := Option.some.inj hd
      exact step_move rfl rfl rfl (hF.at 0 rfl h0) ⟨_, rfl, rfl, Grew.refl _⟩
    · obtain rfl : oKO1 p = o := Option.some.inj ho
      obtain rfl : 98 = d := Option.some.inj hd
      exact step_move rfl rfl rfl (hF.at 5 rfl h5) ⟨_, rfl, rfl, Grew.refl _⟩
    · obtain rfl : oKO2 p = o := Option.some.inj ho
      obtain rfl : 99 = d := Option.some.inj hd
      have q0 : a'.tmps.getD 97 undef = .slice (some ⟨lb, lo, none⟩) Ln lc := hp 0 (oKO0 p) 97 rfl rfl rfl
      have q1 : a'.tmps.getD 98 undef = .int .i64 (k : Int) := hp 1 (oKO1 p) 98 rfl rfl rfl
      exact step_index rfl rfl rfl q0 q1 (run_ixD _ _ _ _ _ _ hk) ⟨_, rfl, rfl, Grew.refl _⟩
    · obtain rfl : oKO3 p = o := Option.some.inj ho
      obtain rfl : 100 = d := Option.some.inj hd
      have q2 : a'.tmps.getD 99 undef = .pointer (some ⟨lb, lo + k * 3, none⟩) := hp 2 (oKO2 p) 99 rfl rfl rfl
      exact step_field rfl rfl rfl q2 (run_fd0 _ _ _) ⟨_, rfl, rfl, Grew.refl _⟩
    · obtain rfl : oKO4 p = o := Option.some.inj ho
      obtain rfl : 101 = d := Option.some.inj hd
      have q3 : a'.tmps.getD 100 undef = .pointer (some ⟨lb, lo + k * 3, none⟩) := hp 3 (oKO3 p) 100 rfl rfl rfl
      exact step_load rfl rfl rfl q3 (run_ldU8 _ _ _ ((Below.cell hR.undraw (p := ⟨lb, lo + k * 3, none⟩) hlb).trans hk0)) ⟨_, rfl, rfl, Grew.refl _⟩
    · obtain rfl : oKO5 p = o := Option.some.inj ho
      obtain rfl : 102 = d := Option.some.inj hd
      have q4 : a'.tmps.getD 101 undef = .int .u8 (d : Int) := hp 4 (oKO4 p) 101 rfl rfl rfl
      exact step_bin rfl rfl rfl q4 rfl (guard_int _ _ _ _ _ _ _ _ _) (run_rem7 _ _ _ hd8 hq) ⟨_, rfl, rfl, Grew.refl _⟩
    · obtain rfl : oKO6 p = o := Option.some.inj ho
      obtain rfl : 103 = d := Option.some.inj hd
      have q5 : a'.tmps.getD 102 undef = .int .u8 (q : Int) := hp 5 (oKO5 p) 102 rfl rfl rfl
      exact step_bin rfl rfl rfl q5 rfl (guard_int _ _ _ _ _ _ _ _ _) ((run_eqi _ _ _ _ _).trans (by simp; omega)) ⟨_, rfl, rfl, Grew.refl _⟩
    · obtain rfl : oKO7 p = o := Option.some.inj ho
      obtain rfl : 104 = d := Option.some.inj hd
      have q6 : a'.tmps.getD 103 undef = .bool true := hp 6 (oKO6 p) 103 rfl rfl rfl
      exact step_move rfl rfl rfl q6 ⟨_, rfl, rfl, Grew.refl _⟩
    · obtain rfl : oKO8 p = o := Option.some.inj ho
      obtain rfl : 105 = d := Option.some.inj hd
      have q7 : a'.tmps.getD 104 undef = .bool true := hp 7 (oKO7 p) 104 rfl rfl rfl
      exact step_move rfl (wanted_on rfl (show (opsKO p).toArray[7]? = some (oKO7 p) from rfl) rfl q7) rfl (hF.at 10 rfl h10) ⟨_, rfl, rfl, Grew.refl _⟩
    · obtain rfl : oKO9 p = o := Option.some.inj ho
      obtain rfl : 106 = d := Option.some.inj hd
      have q7 : a'.tmps.getD 104 undef = .bool true := hp 7 (oKO7 p) 104 rfl rfl rfl
      have q8 : a'.tmps.getD 105 undef = .bool true := hp 8 (oKO8 p) 105 rfl rfl rfl
      exact step_un rfl (wanted_on rfl (show (opsKO p).toArray[7]? = some (oKO7 p) from rfl) rfl q7) rfl q8 (run_not _ _) ⟨_, rfl, rfl, Grew.refl _⟩
    · obtain rfl : oKO10 p = o := Option.some.inj ho
      obtain rfl : 107 = d := Option.some.inj hd
      have q7 : a'.tmps.getD 104 undef = .bool true := hp 7 (oKO7 p) 104 rfl rfl rfl
      have q9 : a'.tmps.getD 106 undef = .bool false := hp 9 (oKO9 p) 106 rfl rfl rfl
      exact step_move rfl (wanted_on rfl (show (opsKO p).toArray[7]? = some (oKO7 p) from rfl) rfl q7) rfl q9 ⟨_, rfl, rfl, Grew.refl _⟩
    · obtain rfl : oKO11 p = o := Option.some.inj ho
      obtain rfl : 108 = d := Option.some.inj hd
      have q10 : a'.tmps.getD 107 undef = .bool false := hp 10 (oKO10 p) 107 rfl rfl rfl
      exact step_move rfl (wanted_on rfl (show (opsKO p).toArray[10]? = some (oKO10 p) from rfl) rfl q10) rfl (hF.at 8 rfl h8) ⟨_, rfl, rfl, Grew.refl _⟩
    · obtain rfl : oKO12 p = o := Option.some.inj ho
      obtain rfl : 109 = d := Option.some.inj hd
      have q10 : a'.tmps.getD 107 undef = .bool false := hp 10 (oKO10 p) 107 rfl rfl rfl
      have q11 : a'.tmps.getD 108 undef = .int .i64 0 := hp 11 (oKO11 p) 108 rfl rfl rfl
      exact step_bin rfl (wanted_on rfl (show (opsKO p).toArray[10]? = some (oKO10 p) from rfl) rfl q10) rfl q11 rfl (guard_int _ _ _ _ _ _ _ _ _) ((run_nei _ _ _ _).trans (by simp)) ⟨_, rfl, rfl, Grew.refl _⟩
    · obtain rfl : oKO13 p = o := Option.some.inj ho
      obtain rfl : 110 = d := Option.some.inj hd
      have q10 : a'.tmps.getD 107 undef = .bool false := hp 10 (oKO10 p) 107 rfl rfl rfl
      have q12 : a'.tmps.getD 109 undef = .bool true := hp 12 (oKO12 p) 109 rfl rfl rfl
      exact step_move rfl (wanted_on rfl (show (opsKO p).toArray[10]? = some (oKO10 p) from rfl) rfl q10) rfl q12 ⟨_, rfl, rfl, Grew.refl _⟩
    · obtain rfl : oKO14 p = o := Option.some.inj ho
      obtain rfl : 111 = d := Option.some.inj hd
      have q13 : a'.tmps.getD 110 undef = .bool true := hp 13 (oKO13 p) 110 rfl rfl rfl
      exact step_move rfl (wanted_on rfl (show (opsKO p).toArray[13]? = some (oKO13 p) from rfl) rfl q13) rfl (hF.at 9 rfl h9) ⟨_, rfl, rfl, Grew.refl _⟩
    · obtain rfl : oKO15 p = o := Option.some.inj ho
      obtain rfl : 112 = d := Option.some.inj hd
      have q13 : a'.tmps.getD 110 undef = .bool true := hp 13 (oKO13 p) 110 rfl rfl rfl
      exact step_move rfl (wanted_on rfl (show (opsKO p).toArray[13]? = some (oKO13 p) from rfl) rfl q13) rfl (hF.at 6 rfl h6) ⟨_, rfl, rfl, Grew.refl _⟩
    · obtain rfl : oKO16 p = o := Option.some.inj ho
      obtain rfl : 113 = d := Option.some.inj hd
      have q13 : a'.tmps.getD 110 undef = .bool true := hp 13 (oKO13 p) 110 rfl rfl rfl
      have q15 : a'.tmps.getD 112 undef = .string (str Bb) := hp 15 (oKO15 p) 112 rfl rfl rfl
      exact step_slen rfl (wanted_on rfl (show (opsKO p).toArray[13]? = some (oKO13 p) from rfl) rfl q13) rfl q15 ⟨_, rfl, rfl, Grew.refl _⟩
    · obtain rfl : oKO17 p = o := Option.some.inj ho
      obtain rfl : 114 = d := Option.some.inj hd
      have q13 : a'.tmps.getD 110 undef = .bool true := hp 13 (oKO13 p) 110 rfl rfl rfl
      have q14 : a'.tmps.getD 111 undef = .string (str Nn) := hp 14 (oKO14 p) 111 rfl rfl rfl
      have q16 : a'.tmps.getD 113 undef = .int .i64 (Bb.length : Int) := hp 16 (oKO16 p) 113 rfl rfl rfl
      exact step_from rfl (wanted_on rfl (show (opsKO p).toArray[13]? = some (oKO13 p) from rfl) rfl q13) rfl q14 q16 (run_sfrom _ _ _ (by omega) (by omega)) ⟨_, rfl, rfl, Grew.refl _⟩
    · obtain rfl : oKO18 p = o := Option.some.inj ho
      obtain rfl : 115 = d := Option.some.inj hd
      have q13 : a'.tmps.getD 110 undef = .bool true := hp 13 (oKO13 p) 110 rfl rfl rfl
      exact step_move rfl (wanted_on rfl (show (opsKO p).toArray[13]? = some (oKO13 p) from rfl) rfl q13) rfl (hF.at 0 rfl h0) ⟨_, rfl, rfl, Grew.refl _⟩
    · obtain rfl : oKO19 p = o := Option.some.inj ho
      obtain rfl : 116 = d := Option.some.inj hd
      have q13 : a'.tmps.getD 110 undef = .bool true := hp 13 (oKO13 p) 110 rfl rfl rfl
      exact step_move rfl (wanted_on rfl (show (opsKO p).toArray[13]? = some (oKO13 p) from rfl) rfl q13) rfl (hF.at 5 rfl h5) ⟨_, rfl, rfl, Grew.refl _⟩
    · obtain rfl : oKO20 p = o := Option.some.inj ho
      obtain rfl : 117 = d := Option.some.inj hd
      have q13 : a'.tmps.getD 110 undef = .bool true := hp 13 (oKO13 p) 110 rfl rfl rfl
      have q18 : a'.tmps.getD 115 undef = .slice (some ⟨lb, lo, none⟩) Ln lc := hp 18 (oKO18 p) 115 rfl rfl rfl
      have q19 : a'.tmps.getD 116 undef = .int .i64 (k : Int) := hp 19 (oKO19 p) 116 rfl rfl rfl
      exact step_index rfl (wanted_on rfl (show (opsKO p).toArray[13]? = some (oKO13 p) from rfl) rfl q13) rfl q18 q19 (run_ixD _ _ _ _ _ _ hk) ⟨_, rfl, rfl, Grew.refl _⟩
    · obtain rfl : oKO21 p = o := Option.some.inj ho
      obtain rfl : 118 = d := Option.some.inj hd
      have q13 : a'.tmps.getD 110 undef = .bool true := hp 13 (oKO13 p) 110 rfl rfl rfl
      have q20 : a'.tmps.getD 117 undef = .pointer (some ⟨lb, lo + k * 3, none⟩) := hp 20 (oKO20 p) 117 rfl rfl rfl
      exact step_field rfl (wanted_on rfl (show (opsKO p).toArray[13]? = some (oKO13 p) from rfl) rfl q13) rfl q20 (run_fd2 _ _ _) ⟨_, rfl, rfl, Grew.refl _⟩
    · obtain rfl : oKO22 p = o := Option.some.inj ho
      obtain rfl : 119 = d := Option.some.inj hd
      have q13 : a'.tmps.getD 110 undef = .bool true := hp 13 (oKO13 p) 110 rfl rfl rfl
      have q21 : a'.tmps.getD 118 undef = .pointer (some ⟨lb, lo + k * 3 + 2, none⟩) := hp 21 (oKO21 p) 118 rfl rfl rfl
      exact step_load rfl (wanted_on rfl (show (opsKO p).toArray[13]? = some (oKO13 p) from rfl) rfl q13) rfl q21 (run_ldSl _ _ _ _ _ ((Below.cell hR.undraw (p := ⟨lb, lo + k * 3 + 2, none⟩) hlb).trans hk2)) ⟨_, rfl, rfl, Grew.refl _⟩
    · obtain rfl : oKO23 p = o := Option.some.inj ho
      obtain rfl : 120 = d := Option.some.inj hd
      have q13 : a'.tmps.getD 110 undef = .bool true := hp 13 (oKO13 p) 110 rfl rfl rfl
      exact step_move rfl (wanted_on rfl (show (opsKO p).toArray[13]? = some (oKO13 p) from rfl) rfl q13) rfl (hF.at 9 rfl h9) ⟨_, rfl, rfl, Grew.refl _⟩
    · obtain rfl : oKO24 p = o := Option.some.inj ho
      obtain rfl : 121 = d := Option.some.inj hd
      have q13 : a'.tmps.getD 110 undef = .bool true := hp 13 (oKO13 p) 110 rfl rfl rfl
      have q23 : a'.tmps.getD 120 undef = .string (str Nn) := hp 23 (oKO23 p) 120 rfl rfl rfl
      exact step_slen rfl (wanted_on rfl (show (opsKO p).toArray[13]? = some (oKO13 p) from rfl) rfl q13) rfl q23 ⟨_, rfl, rfl, Grew.refl _⟩
    · obtain rfl : oKO25 p = o := Option.some.inj ho
      obtain rfl : 122 = d := Option.some.inj hd
      have q13 : a'.tmps.getD 110 undef = .bool true := hp 13 (oKO13 p) 110 rfl rfl rfl
      exact step_move rfl (wanted_on rfl (show (opsKO p).toArray[13]? = some (oKO13 p) from rfl) rfl q13) rfl (hF.at 6 rfl h6) ⟨_, rfl, rfl, Grew.refl _⟩
    · obtain rfl : oKO26 p = o := Option.some.inj ho
      obtain rfl : 123 = d := Option.some.inj hd
      have q13 : a'.tmps.getD 110 undef = .bool true := hp 13 (oKO13 p) 110 rfl rfl rfl
      have q25 : a'.tmps.getD 122 undef = .string (str Bb) := hp 25 (oKO25 p) 122 rfl rfl rfl
      exact step_slen rfl (wanted_on rfl (show (opsKO p).toArray[13]? = some (oKO13 p) from rfl) rfl q13) rfl q25 ⟨_, rfl, rfl, Grew.refl _⟩
    · obtain rfl : oKO27 p = o := Option.some.inj ho
      obtain rfl : 124 = d := Option.some.inj hd
      have q13 : a'.tmps.getD 110 undef = .bool true := hp 13 (oKO13 p) 110 rfl rfl rfl
      have q24 : a'.tmps.getD 121 undef = .int .i64 (Nn.length : Int) := hp 24 (oKO24 p) 121 rfl rfl rfl
      have q26 : a'.tmps.getD 123 undef = .int .i64 (Bb.length : Int) := hp 26 (oKO26 p) 123 rfl rfl rfl
      exact step_bin rfl (wanted_on rfl (show (opsKO p).toArray[13]? = some (oKO13 p) from rfl) rfl q13) rfl q24 q26 (guard_int _ _ _ _ _ _ _ _ _) (by rw [run_subi _ _ _ _ (by omega) (by omega)]; congr 2; omega) ⟨_, rfl, rfl, Grew.refl _⟩
    · obtain rfl : oKO28 p = o := Option.some.inj ho
      obtain rfl : 125 = d := Option.some.inj hd
      have q13 : a'.tmps.getD 110 undef = .bool true := hp 13 (oKO13 p) 110 rfl rfl rfl
      have q22 : a'.tmps.getD 119 undef = .slice AB LB cB := hp 22 (oKO22 p) 119 rfl rfl rfl
      have q27 : a'.tmps.getD 124 undef = .int .i64 (m : Int) := hp 27 (oKO27 p) 124 rfl rfl rfl
      exact step_upto rfl (wanted_on rfl (show (opsKO p).toArray[13]? = some (oKO13 p) from rfl) rfl q13) rfl q22 q27 (run_upto _ _ _ _ _ (by omega) (by omega)) ⟨_, rfl, rfl, Grew.refl _⟩
    · obtain rfl : oKO29 p = o := Option.some.inj ho
      obtain rfl : 126 = d := Option.some.inj hd
      have q13 : a'.tmps.getD 110 undef = .bool true := hp 13 (oKO13 p) 110 rfl rfl rfl
      have q28 : a'.tmps.getD 125 undef = .slice AB m cB := hp 28 (oKO28 p) 125 rfl rfl rfl
      exact step_cv rfl (wanted_on rfl (show (opsKO p).toArray[13]? = some (oKO13 p) from rfl) rfl q13) rfl q28 (run_conv ((HasA.take hA m).below' hR.undraw) cB Try.underlying27 Try.underlying5 Try.underlying9 (by simp; omega)) ⟨_, rfl, rfl, Grew.refl _⟩
    · obtain rfl : oKO30 p = o := Option.some.inj ho
      obtain rfl : 127 = d := Option.some.inj hd
      have q13 : a'.tmps.getD 110 undef = .bool true := hp 13 (oKO13 p) 110 rfl rfl rfl
      have q17 : a'.tmps.getD 114 undef = .string (str (Nn.drop Bb.length)) := hp 17 (oKO17 p) 114 rfl rfl rfl
      have q29 : a'.tmps.getD 126 undef = .string (str (x.take m)) := hp 29 (oKO29 p) 126 rfl rfl rfl
      exact step_bin rfl (wanted_on rfl (show (opsKO p).toArray[13]? = some (oKO13 p) from rfl) rfl q13) rfl q17 q29 (guard_str _ _ _ _ _ _ _) (by rw [run_neq, hYx]; simp) ⟨_, rfl, rfl, Grew.refl _⟩
    · obtain rfl : oKO31 p = o := Option.some.inj ho
      obtain rfl : 128 = d := Option.some.inj hd
      have q10 : a'.tmps.getD 107 undef = .bool false := hp 10 (oKO10 p) 107 rfl rfl rfl
      have q13 : a'.tmps.getD 110 undef = .bool true := hp 13 (oKO13 p) 110 rfl rfl rfl
      have q30 : a'.tmps.getD 127 undef = .bool false := hp 30 (oKO30 p) 127 rfl rfl rfl
      exact step_pick rfl (wanted_on rfl (show (opsKO p).toArray[10]? = some (oKO10 p) from rfl) rfl q10) rfl q13 (show (if true = true then a'.tmps.getD 127 undef else _) = _ from q30) ⟨_, rfl, rfl, Grew.refl _⟩
    · obtain rfl : oKO32 p = o := Option.some.inj ho
      obtain rfl : 129 = d := Option.some.inj hd
      have q7 : a'.tmps.getD 104 undef = .bool true := hp 7 (oKO7 p) 104 rfl rfl rfl
      have q10 : a'.tmps.getD 107 undef = .bool false := hp 10 (oKO10 p) 107 rfl rfl rfl
      have q31 : a'.tmps.getD 128 undef = .bool false := hp 31 (oKO31 p) 128 rfl rfl rfl
      exact step_pick rfl (wanted_on rfl (show (opsKO p).toArray[7]? = some (oKO7 p) from rfl) rfl q7) rfl q10 (show (if false = true then _ else a'.tmps.getD 128 undef) = _ from q31) ⟨_, rfl, rfl, Grew.refl _⟩
    · obtain rfl : oKO33 p = o := Option.some.inj ho
      obtain rfl : 130 = d := Option.some.inj hd
      have q7 : a'.tmps.getD 104 undef = .bool true := hp 7 (oKO7 p) 104 rfl rfl rfl
      have q32 : a'.tmps.getD 129 undef = .bool false := hp 32 (oKO32 p) 129 rfl rfl rfl
      exact step_move rfl (wanted_on rfl (show (opsKO p).toArray[7]? = some (oKO7 p) from rfl) rfl q7) rfl q32 ⟨_, rfl, rfl, Grew.refl _⟩
    · obtain rfl : oKO34 p = o := Option.some.inj ho
      obtain rfl : 131 = d := Option.some.inj hd
      have q33 : a'.tmps.getD 130 undef = .bool false := hp 33 (oKO33 p) 130 rfl rfl rfl
      exact step_move rfl (wanted_on rfl (show (opsKO p).toArray[33]? = some (oKO33 p) from rfl) rfl q33) rfl (hF.at 8 rfl h8) ⟨_, rfl, rfl, Grew.refl _⟩
    · obtain rfl : oKO35 p = o := Option.some.inj ho
      obtain rfl : 132 = d := Option.some.inj hd
      have q33 : a'.tmps.getD 130 undef = .bool false := hp 33 (oKO33 p) 130 rfl rfl rfl
      have q34 : a'.tmps.getD 131 undef = .int .i64 0 := hp 34 (oKO34 p) 131 rfl rfl rfl
      exact step_bin rfl (wanted_on rfl (show (opsKO p).toArray[33]? = some (oKO33 p) from rfl) rfl q33) rfl q34 rfl (guard_int _ _ _ _ _ _ _ _ _) ((run_eqi _ _ _ _ _).trans (by simp)) ⟨_, rfl, rfl, Grew.refl _⟩
    · obtain rfl : oKO36 p = o := Option.some.inj ho
      obtain rfl : 133 = d := Option.some.inj hd
      have q33 : a'.tmps.getD 130 undef = .bool false := hp 33 (oKO33 p) 130 rfl rfl rfl
      have q35 : a'.tmps.getD 132 undef = .bool true := hp 35 (oKO35 p) 132 rfl rfl rfl
      exact step_move rfl (wanted_on rfl (show (opsKO p).toArray[33]? = some (oKO33 p) from rfl) rfl q33) rfl q35 ⟨_, rfl, rfl, Grew.refl _⟩
    · obtain rfl : oKO37 p = o := Option.some.inj ho
      obtain rfl : 134 = d := Option.some.inj hd
      have q36 : a'.tmps.getD 133 undef = .bool true := hp 36 (oKO36 p) 133 rfl rfl rfl
      exact step_move rfl (wanted_on rfl (show (opsKO p).toArray[36]? = some (oKO36 p) from rfl) rfl q36) rfl (hF.at 9 rfl h9) ⟨_, rfl, rfl, Grew.refl _⟩
    · obtain rfl : oKO38 p = o := Option.some.inj ho
      obtain rfl : 135 = d := Option.some.inj hd
      have q36 : a'.tmps.getD 133 undef = .bool true := hp 36 (oKO36 p) 133 rfl rfl rfl
      have q37 : a'.tmps.getD 134 undef = .string (str Nn) := hp 37 (oKO37 p) 134 rfl rfl rfl
      exact step_slen rfl (wanted_on rfl (show (opsKO p).toArray[36]? = some (oKO36 p) from rfl) rfl q36) rfl q37 ⟨_, rfl, rfl, Grew.refl _⟩
    · obtain rfl : oKO39 p = o := Option.some.inj ho
      obtain rfl : 136 = d := Option.some.inj hd
      have q36 : a'.tmps.getD 133 undef = .bool true := hp 36 (oKO36 p) 133 rfl rfl rfl
      exact step_move rfl (wanted_on rfl (show (opsKO p).toArray[36]? = some (oKO36 p) from rfl) rfl q36) rfl (hF.at 6 rfl h6) ⟨_, rfl, rfl, Grew.refl _⟩
    · obtain rfl : oKO40 p = o := Option.some.inj ho
      obtain rfl : 137 = d := Option.some.inj hd
      have q36 : a'.tmps.getD 133 undef = .bool true := hp 36 (oKO36 p) 133 rfl rfl rfl
      have q39 : a'.tmps.getD 136 undef = .string (str Bb) := hp 39 (oKO39 p) 136 rfl rfl rfl
      exact step_slen rfl (wanted_on rfl (show (opsKO p).toArray[36]? = some (oKO36 p) from rfl) rfl q36) rfl q39 ⟨_, rfl, rfl, Grew.refl _⟩
    · obtain rfl : oKO41 p = o := Option.some.inj ho
      obtain rfl : 138 = d := Option.some.inj hd
      have q36 : a'.tmps.getD 133 undef = .bool true := hp 36 (oKO36 p) 133 rfl rfl rfl
      exact step_move rfl (wanted_on rfl (show (opsKO p).toArray[36]? = some (oKO36 p) from rfl) rfl q36) rfl (hF.at 0 rfl h0) ⟨_, rfl, rfl, Grew.refl _⟩
    · obtain rfl : oKO42 p = o := Option.some.inj ho
      obtain rfl : 139 = d := Option.some.inj hd
      have q36 : a'.tmps.getD 133 undef = .bool true := hp 36 (oKO36 p) 133 rfl rfl rfl
      exact step_move rfl (wanted_on rfl (show (opsKO p).toArray[36]? = some (oKO36 p) from rfl) rfl q36) rfl (hF.at 5 rfl h5) ⟨_, rfl, rfl, Grew.refl _⟩
    · obtain rfl : oKO43 p = o := Option.some.inj ho
      obtain rfl : 140 = d := Option.some.inj hd
      have q36 : a'.tmps.getD 133 undef = .bool true := hp 36 (oKO36 p) 133 rfl rfl rfl
      have q41 : a'.tmps.getD 138 undef = .slice (some ⟨lb, lo, none⟩) Ln lc := hp 41 (oKO41 p) 138 rfl rfl rfl
      have q42 : a'.tmps.getD 139 undef = .int .i64 (k : Int) := hp 42 (oKO42 p) 139 rfl rfl rfl
      exact step_index rfl (wanted_on rfl (show (opsKO p).toArray[36]? = some (oKO36 p) from rfl) rfl q36) rfl q41 q42 (run_ixD _ _ _ _ _ _ hk) ⟨_, rfl, rfl, Grew.refl _⟩
    · obtain rfl : oKO44 p = o := Option.some.inj ho
      obtain rfl : 141 = d := Option.some.inj hd
      have q36 : a'.tmps.getD 133 undef = .bool true := hp 36 (oKO36 p) 133 rfl rfl rfl
      have q43 : a'.tmps.getD 140 undef = .pointer (some ⟨lb, lo + k * 3, none⟩) := hp 43 (oKO43 p) 140 rfl rfl rfl
      exact step_field rfl (wanted_on rfl (show (opsKO p).toArray[36]? = some (oKO36 p) from rfl) rfl q36) rfl q43 (run_fd2 _ _ _) ⟨_, rfl, rfl, Grew.refl _⟩
    · obtain rfl : oKO45 p = o := Option.some.inj ho
      obtain rfl : 142 = d := Option.some.inj hd
      have q36 : a'.tmps.getD 133 undef = .bool true := hp 36 (oKO36 p) 133 rfl rfl rfl
      have q44 : a'.tmps.getD 141 undef = .pointer (some ⟨lb, lo + k * 3 + 2, none⟩) := hp 44 (oKO44 p) 141 rfl rfl rfl
      exact step_load rfl (wanted_on rfl (show (opsKO p).toArray[36]? = some (oKO36 p) from rfl) rfl q36) rfl q44 (run_ldSl _ _ _ _ _ ((Below.cell hR.undraw (p := ⟨lb, lo + k * 3 + 2, none⟩) hlb).trans hk2)) ⟨_, rfl, rfl, Grew.refl _⟩
    · obtain rfl : oKO46 p = o := Option.some.inj ho
      obtain rfl : 143 = d := Option.some.inj hd
      have q36 : a'.tmps.getD 133 undef = .bool true := hp 36 (oKO36 p) 133 rfl rfl rfl
      have q45 : a'.tmps.getD 142 undef = .slice AB LB cB := hp 45 (oKO45 p) 142 rfl rfl rfl
      exact step_len Try.underlying27 rfl (wanted_on rfl (show (opsKO p).toArray[36]? = some (oKO36 p) from rfl) rfl q36) rfl q45 ⟨_, rfl, rfl, Grew.refl _⟩
    · obtain rfl : oKO47 p = o := Option.some.inj ho
      obtain rfl : 144 = d := Option.some.inj hd
      have q36 : a'.tmps.getD 133 undef = .bool true := hp 36 (oKO36 p) 133 rfl rfl rfl
      have q40 : a'.tmps.getD 137 undef = .int .i64 (Bb.length : Int) := hp 40 (oKO40 p) 137 rfl rfl rfl
      have q46 : a'.tmps.getD 143 undef = .int .i64 (LB : Int) := hp 46 (oKO46 p) 143 rfl rfl rfl
      exact step_bin rfl (wanted_on rfl (show (opsKO p).toArray[36]? = some (oKO36 p) from rfl) rfl q36) rfl q40 q46 (guard_int _ _ _ _ _ _ _ _ _) (run_addi _ _ _ _ (by omega) (by omega)) ⟨_, rfl, rfl, Grew.refl _⟩
    · obtain rfl : oKO48 p = o := Option.some.inj ho
      obtain rfl : 145 = d := Option.some.inj hd
      have q36 : a'.tmps.getD 133 undef = .bool true := hp 36 (oKO36 p) 133 rfl rfl rfl
      have q38 : a'.tmps.getD 135 undef = .int .i64 (Nn.length : Int) := hp 38 (oKO38 p) 135 rfl rfl rfl
      have q47 : a'.tmps.getD 144 undef = .int .i64 ((Bb.length : Int) + (LB : Int)) := hp 47 (oKO47 p) 144 rfl rfl rfl
      exact step_bin rfl (wanted_on rfl (show (opsKO p).toArray[36]? = some (oKO36 p) from rfl) rfl q36) rfl q38 q47 (guard_int _ _ _ _ _ _ _ _ _) ((run_nei _ _ _ _).trans (by simp; omega)) ⟨_, rfl, rfl, Grew.refl _⟩
    · obtain rfl : oKO49 p = o := Option.some.inj ho
      obtain rfl : 146 = d := Option.some.inj hd
      have q33 : a'.tmps.getD 130 undef = .bool false := hp 33 (oKO33 p) 130 rfl rfl rfl
      have q36 : a'.tmps.getD 133 undef = .bool true := hp 36 (oKO36 p) 133 rfl rfl rfl
      have q48 : a'.tmps.getD 145 undef = .bool false := hp 48 (oKO48 p) 145 rfl rfl rfl
      exact step_pick rfl (wanted_on rfl (show (opsKO p).toArray[33]? = some (oKO33 p) from rfl) rfl q33) rfl q36 (show (if true = true then a'.tmps.getD 145 undef else _) = _ from q48) ⟨_, rfl, rfl, Grew.refl _⟩
    · obtain rfl : oKO50 p = o := Option.some.inj ho
      obtain rfl : 147 = d := Option.some.inj hd
      have q7 : a'.tmps.getD 104 undef = .bool true := hp 7 (oKO7 p) 104 rfl rfl rfl
      have q33 : a'.tmps.getD 130 undef = .bool false := hp 33 (oKO33 p) 130 rfl rfl rfl
      have q49 : a'.tmps.getD 146 undef = .bool false := hp 49 (oKO49 p) 146 rfl rfl rfl
      exact step_pick rfl (wanted_on rfl (show (opsKO p).toArray[7]? = some (oKO7 p) from rfl) rfl q7) rfl q33 (show (if false = true then _ else a'.tmps.getD 146 undef) = _ from q49) ⟨_, rfl, rfl, Grew.refl _⟩
    · obtain rfl : oKO51 p = o := Option.some.inj ho
      obtain rfl : 148 = d := Option.some.inj hd
      have q7 : a'.tmps.getD 104 undef = .bool true := hp 7 (oKO7 p) 104 rfl rfl rfl
      have q50 : a'.tmps.getD 147 undef = .bool false := hp 50 (oKO50 p) 147 rfl rfl rfl
      exact step_move rfl (wanted_on rfl (show (opsKO p).toArray[7]? = some (oKO7 p) from rfl) rfl q7) rfl q50 ⟨_, rfl, rfl, Grew.refl _⟩
    · obtain rfl : oKO52 p = o := Option.some.inj ho
      obtain rfl : 149 = d := Option.some.inj hd
      have q51 : a'.tmps.getD 148 undef = .bool false := hp 51 (oKO51 p) 148 rfl rfl rfl
      exact step_move rfl (wanted_on rfl (show (opsKO p).toArray[51]? = some (oKO51 p) from rfl) rfl q51) rfl (hF.at 8 rfl h8) ⟨_, rfl, rfl, Grew.refl _⟩
    · obtain rfl : oKO53 p = o := Option.some.inj ho
      obtain rfl : 150 = d := Option.some.inj hd
      have q51 : a'.tmps.getD 148 undef = .bool false := hp 51 (oKO51 p) 148 rfl rfl rfl
      have q52 : a'.tmps.getD 149 undef = .int .i64 0 := hp 52 (oKO52 p) 149 rfl rfl rfl
      exact step_bin rfl (wanted_on rfl (show (opsKO p).toArray[51]? = some (oKO51 p) from rfl) rfl q51) rfl q52 rfl (guard_int _ _ _ _ _ _ _ _ _) ((run_eqi _ _ _ _ _).trans (by simp)) ⟨_, rfl, rfl, Grew.refl _⟩
    · obtain rfl : oKO54 p = o := Option.some.inj ho
      obtain rfl : 151 = d := Option.some.inj hd
      have q51 : a'.tmps.getD 148 undef = .bool false := hp 51 (oKO51 p) 148 rfl rfl rfl
      have q53 : a'.tmps.getD 150 undef = .bool false := hp 53 (oKO53 p) 150 rfl rfl rfl
      exact step_move rfl (wanted_on rfl (show (opsKO p).toArray[51]? = some (oKO51 p) from rfl) rfl q51) rfl q53 ⟨_, rfl, rfl, Grew.refl _⟩
    · obtain rfl : oKO55 p = o := Option.some.inj ho
      obtain rfl : 152 = d := Option.some.inj hd
      have q54 : a'.tmps.getD 151 undef = .bool false := hp 54 (oKO54 p) 151 rfl rfl rfl
      exact step_off rfl (wanted_off rfl (show (opsKO p).toArray[54]? = some (oKO54 p) from rfl) rfl q54) ⟨_, rfl, rfl, Grew.refl _⟩
    · obtain rfl : oKO56 p = o := Option.some.inj ho
      obtain rfl : 153 = d := Option.some.inj hd
      have q54 : a'.tmps.getD 151 undef = .bool false := hp 54 (oKO54 p) 151 rfl rfl rfl
      exact step_off rfl (wanted_off rfl (show (opsKO p).toArray[54]? = some (oKO54 p) from rfl) rfl q54) ⟨_, rfl, rfl, Grew.refl _⟩
    · obtain rfl : oKO57 p = o := Option.some.inj ho
      obtain rfl : 154 = d := Option.some.inj hd
      have q54 : a'.tmps.getD 151 undef = .bool false := hp 54 (oKO54 p) 151 rfl rfl rfl
      exact step_off rfl (wanted_off rfl (show (opsKO p).toArray[54]? = some (oKO54 p) from rfl) rfl q54) ⟨_, rfl, rfl, Grew.refl _⟩
    · obtain rfl : oKO58 p = o := Option.some.inj ho
      obtain rfl : 155 = d := Option.some.inj hd
      have q51 : a'.tmps.getD 148 undef = .bool false := hp 51 (oKO51 p) 148 rfl rfl rfl
      have q54 : a'.tmps.getD 151 undef = .bool false := hp 54 (oKO54 p) 151 rfl rfl rfl
      exact step_pick rfl (wanted_on rfl (show (opsKO p).toArray[51]? = some (oKO51 p) from rfl) rfl q51) rfl q54 rfl ⟨_, rfl, rfl, Grew.refl _⟩
    · obtain rfl : oKO59 p = o := Option.some.inj ho
      obtain rfl : 156 = d := Option.some.inj hd
      have q7 : a'.tmps.getD 104 undef = .bool true := hp 7 (oKO7 p) 104 rfl rfl rfl
      have q51 : a'.tmps.getD 148 undef = .bool false := hp 51 (oKO51 p) 148 rfl rfl rfl
      have q58 : a'.tmps.getD 155 undef = .bool false := hp 58 (oKO58 p) 155 rfl rfl rfl
      exact step_pick rfl (wanted_on rfl (show (opsKO p).toArray[7]? = some (oKO7 p) from rfl) rfl q7) rfl q51 (show (if false = true then _ else a'.tmps.getD 155 undef) = _ from q58) ⟨_, rfl, rfl, Grew.refl _⟩
    · obtain rfl : oKO60 p = o := Option.some.inj ho
      obtain rfl : 157 = d := Option.some.inj hd
      have q7 : a'.tmps.getD 104 undef = .bool true := hp 7 (oKO7 p) 104 rfl rfl rfl
      have q59 : a'.tmps.getD 156 undef = .bool false := hp 59 (oKO59 p) 156 rfl rfl rfl
      exact step_pick rfl rfl rfl q7 (show (if true = true then a'.tmps.getD 156 undef else _) = _ from q59) ⟨_, rfl, rfl, Grew.refl _⟩
    · exact absurd ((Array.getElem?_eq_some_iff.1 ho).1) (by simp [opsKO])
  · intro a' w' hF hR hp
    have e0 : psiKO P w0 R t lb lo Ln lc k d q Nn Bb x AB LB cB m b 0 (a'.tmps.getD 97 undef) w' := hp 0 (oKO0 p) 97 rfl rfl
    have e1 : psiKO P w0 R t lb lo Ln lc k d q Nn Bb x AB LB cB m b 1 (a'.tmps.getD 98 undef) w' := hp 1 (oKO1 p) 98 rfl rfl
    have e2 : psiKO P w0 R t lb lo Ln lc k d q Nn Bb x AB LB cB m b 2 (a'.tmps.getD 99 undef) w' := hp 2 (oKO2 p) 99 rfl rfl
    have e3 : psiKO P w0 R t lb lo Ln lc k d q Nn Bb x AB LB cB m b 3 (a'.tmps.getD 100 undef) w' := hp 3 (oKO3 p) 100 rfl rfl
    have e4 : psiKO P w0 R t lb lo Ln lc k d q Nn Bb x AB LB cB m b 4 (a'.tmps.getD 101 undef) w' := hp 4 (oKO4 p) 101 rfl rfl
    have e5 : psiKO P w0 R t lb lo Ln lc k d q Nn Bb x AB LB cB m b 5 (a'.tmps.getD 102 undef) w' := hp 5 (oKO5 p) 102 rfl rfl
    have e6 : psiKO P w0 R t lb lo Ln lc k d q Nn Bb x AB LB cB m b 6 (a'.tmps.getD 103 undef) w' := hp 6 (oKO6 p) 103 rfl rfl
    have e7 : psiKO P w0 R t lb lo Ln lc k d q Nn Bb x AB LB cB m b 7 (a'.tmps.getD 104 undef) w' := hp 7 (oKO7 p) 104 rfl rfl
    have e8 : psiKO P w0 R t lb lo Ln lc k d q Nn Bb x AB LB cB m b 8 (a'.tmps.getD 105 undef) w' := hp 8 (oKO8 p) 105 rfl rfl
    have e9 : psiKO P w0 R t lb lo Ln lc k d q Nn Bb x AB LB cB m b 9 (a'.tmps.getD 106 undef) w' := hp 9 (oKO9 p) 106 rfl rfl
    have e10 : psiKO P w0 R t lb lo Ln lc k d q Nn Bb x AB LB cB m b 10 (a'.tmps.getD 107 undef) w' := hp 10 (oKO10 p) 107 rfl rfl
    have e11 : psiKO P w0 R t lb lo Ln lc k d q Nn Bb x AB LB cB m b 11 (a'.tmps.getD 108 undef) w' := hp 11 (oKO11 p) 108 rfl rfl
    have e12 : psiKO P w0 R t lb lo Ln lc k d q Nn Bb x AB LB cB m b 12 (a'.tmps.getD 109 undef) w' := hp 12 (oKO12 p) 109 rfl rfl
    have e13 : psiKO P w0 R t lb lo Ln lc k d q Nn Bb x AB LB cB m b 13 (a'.tmps.getD 110 undef) w' := hp 13 (oKO13 p) 110 rfl rfl
    have e14 : psiKO P w0 R t lb lo Ln lc k d q Nn Bb x AB LB cB m b 14 (a'.tmps.getD 111 undef) w' := hp 14 (oKO14 p) 111 rfl rfl
    have e15 : psiKO P w0 R t lb lo Ln lc k d q Nn Bb x AB LB cB m b 15 (a'.tmps.getD 112 undef) w' := hp 15 (oKO15 p) 112 rfl rfl
    have e16 : psiKO P w0 R t lb lo Ln lc k d q Nn Bb x AB LB cB m b 16 (a'.tmps.getD 113 undef) w' := hp 16 (oKO16 p) 113 rfl rfl
    have e17 : psiKO P w0 R t lb lo Ln lc k d q Nn Bb x AB LB cB m b 17 (a'.tmps.getD 114 undef) w' := hp 17 (oKO17 p) 114 rfl rfl
    have e18 : psiKO P w0 R t lb lo Ln lc k d q Nn Bb x AB LB cB m b 18 (a'.tmps.getD 115 undef) w' := hp 18 (oKO18 p) 115 rfl rfl
    have e19 : psiKO P w0 R t lb lo Ln lc k d q Nn Bb x AB LB cB m b 19 (a'.tmps.getD 116 undef) w' := hp 19 (oKO19 p) 116 rfl rfl
    have e20 : psiKO P w0 R t lb lo Ln lc k d q Nn Bb x AB LB cB m b 20 (a'.tmps.getD 117 undef) w' := hp 20 (oKO20 p) 117 rfl rfl
    have e21 : psiKO P w0 R t lb lo Ln lc k d q Nn Bb x AB LB cB m b 21 (a'.tmps.getD 118 undef) w' := hp 21 (oKO21 p) 118 rfl rfl
    have e22 : psiKO P w0 R t lb lo Ln lc k d q Nn Bb x AB LB cB m b 22 (a'.tmps.getD 119 undef) w' := hp 22 (oKO22 p) 119 rfl rfl
    have e23 : psiKO P w0 R t lb lo Ln lc k d q Nn Bb x AB LB cB m b 23 (a'.tmps.getD 120 undef) w' := hp 23 (oKO23 p) 120 rfl rfl
    have e24 : psiKO P w0 R t lb lo Ln lc k d q Nn Bb x AB LB cB m b 24 (a'.tmps.getD 121 undef) w' := hp 24 (oKO24 p) 121 rfl rfl
    have e25 : psiKO P w0 R t lb lo Ln lc k d q Nn Bb x AB LB cB m b 25 (a'.tmps.getD 122 undef) w' := hp 25 (oKO25 p) 122 rfl rfl
    have e26 : psiKO P w0 R t lb lo Ln lc k d q Nn Bb x AB LB cB m b 26 (a'.tmps.getD 123 undef) w' := hp 26 (oKO26 p) 123 rfl rfl
    have e27 : psiKO P w0 R t lb lo Ln lc k d q Nn Bb x AB LB cB m b 27 (a'.tmps.getD 124 undef) w' := hp 27 (oKO27 p) 124 rfl rfl
    have e28 : psiKO P w0 R t lb lo Ln lc k d q Nn Bb x AB LB cB m b 28 (a'.tmps.getD 125 undef) w' := hp 28 (oKO28 p) 125 rfl rfl
    have e29 : psiKO P w0 R t lb lo Ln lc k d q Nn Bb x AB LB cB m b 29 (a'.tmps.getD 126 undef) w' := hp 29 (oKO29 p) 126 rfl rfl
    have e30 : psiKO P w0 R t lb lo Ln lc k d q Nn Bb x AB LB cB m b 30 (a'.tmps.getD 127 undef) w' := hp 30 (oKO30 p) 127 rfl rfl
    have e31 : psiKO P w0 R t lb lo Ln lc k d q Nn Bb x AB LB cB m b 31 (a'.tmps.getD 128 undef) w' := hp 31 (oKO31 p) 128 rfl rfl
    have e32 : psiKO P w0 R t lb lo Ln lc k d q Nn Bb x AB LB cB m b 32 (a'.tmps.getD 129 undef) w' := hp 32 (oKO32 p) 129 rfl rfl
    have e33 : psiKO P w0 R t lb lo Ln lc k d q Nn Bb x AB LB cB m b 33 (a'.tmps.getD 130 undef) w' := hp 33 (oKO33 p) 130 rfl rfl
    have e34 : psiKO P w0 R t lb lo Ln lc k d q Nn Bb x AB LB cB m b 34 (a'.tmps.getD 131 undef) w' := hp 34 (oKO34 p) 131 rfl rfl
    have e35 : psiKO P w0 R t lb lo Ln lc k d q Nn Bb x AB LB cB m b 35 (a'.tmps.getD 132 undef) w' := hp 35 (oKO35 p) 132 rfl rfl
    have e36 : psiKO P w0 R t lb lo Ln lc k d q Nn Bb x AB LB cB m b 36 (a'.tmps.getD 133 undef) w' := hp 36 (oKO36 p) 133 rfl rfl
    have e37 : psiKO P w0 R t lb lo Ln lc k d q Nn Bb x AB LB cB m b 37 (a'.tmps.getD 134 undef) w' := hp 37 (oKO37 p) 134 rfl rfl
    have e38 : psiKO P w0 R t lb lo Ln lc k d q Nn Bb x AB LB cB m b 38 (a'.tmps.getD 135 undef) w' := hp 38 (oKO38 p) 135 rfl rfl
    have e39 : psiKO P w0 R t lb lo Ln lc k d q Nn Bb x AB LB cB m b 39 (a'.tmps.getD 136 undef) w' := hp 39 (oKO39 p) 136 rfl rfl
    have e40 : psiKO P w0 R t lb lo Ln lc k d q Nn Bb x AB LB cB m b 40 (a'.tmps.getD 137 undef) w' := hp 40 (oKO40 p) 137 rfl rfl
    have e41 : psiKO P w0 R t lb lo Ln lc k d q Nn Bb x AB LB cB m b 41 (a'.tmps.getD 138 undef) w' := hp 41 (oKO41 p) 138 rfl rfl
    have e42 : psiKO P w0 R t lb lo Ln lc k d q Nn Bb x AB LB cB m b 42 (a'.tmps.getD 139 undef) w' := hp 42 (oKO42 p) 139 rfl rfl
    have e43 : psiKO P w0 R t lb lo Ln lc k d q Nn Bb x AB LB cB m b 43 (a'.tmps.getD 140 undef) w' := hp 43 (oKO43 p) 140 rfl rfl
    have e44 : psiKO P w0 R t lb lo Ln lc k d q Nn Bb x AB LB cB m b 44 (a'.tmps.getD 141 undef) w' := hp 44 (oKO44 p) 141 rfl rfl
    have e45 : psiKO P w0 R t lb lo Ln lc k d q Nn Bb x AB LB cB m b 45 (a'.tmps.getD 142 undef) w' := hp 45 (oKO45 p) 142 rfl rfl
    have e46 : psiKO P w0 R t lb lo Ln lc k d q Nn Bb x AB LB cB m b 46 (a'.tmps.getD 143 undef) w' := hp 46 (oKO46 p) 143 rfl rfl
    have e47 : psiKO P w0 R t lb lo Ln lc k d q Nn Bb x AB LB cB m b 47 (a'.tmps.getD 144 undef) w' := hp 47 (oKO47 p) 144 rfl rfl
    have e48 : psiKO P w0 R t lb lo Ln lc k d q Nn Bb x AB LB cB m b 48 (a'.tmps.getD 145 undef) w' := hp 48 (oKO48 p) 145 rfl rfl
    have e49 : psiKO P w0 R t lb lo Ln lc k d q Nn Bb x AB LB cB m b 49 (a'.tmps.getD 146 undef) w' := hp 49 (oKO49 p) 146 rfl rfl
    have e50 : psiKO P w0 R t lb lo Ln lc k d q Nn Bb x AB LB cB m b 50 (a'.tmps.getD 147 undef) w' := hp 50 (oKO50 p) 147 rfl rfl
    have e51 : psiKO P w0 R t lb lo Ln lc k d q Nn Bb x AB LB cB m b 51 (a'.tmps.getD 148 undef) w' := hp 51 (oKO51 p) 148 rfl rfl
    have e52 : psiKO P w0 R t lb lo Ln lc k d q Nn Bb x AB LB cB m b 52 (a'.tmps.getD 149 undef) w' := hp 52 (oKO52 p) 149 rfl rfl
    have e53 : psiKO P w0 R t lb lo Ln lc k d q Nn Bb x AB LB cB m b 53 (a'.tmps.getD 150 undef) w' := hp 53 (oKO53 p) 150 rfl rfl
    have e54 : psiKO P w0 R t lb lo Ln lc k d q Nn Bb x AB LB cB m b 54 (a'.tmps.getD 151 undef) w' := hp 54 (oKO54 p) 151 rfl rfl
    have e55 : psiKO P w0 R t lb lo Ln lc k d q Nn Bb x AB LB cB m b 55 (a'.tmps.getD 152 undef) w' := hp 55 (oKO55 p) 152 rfl rfl
    have e56 : psiKO P w0 R t lb lo Ln lc k d q Nn Bb x AB LB cB m b 56 (a'.tmps.getD 153 undef) w' := hp 56 (oKO56 p) 153 rfl rfl
    have e57 : psiKO P w0 R t lb lo Ln lc k d q Nn Bb x AB LB cB m b 57 (a'.tmps.getD 154 undef) w' := hp 57 (oKO57 p) 154 rfl rfl
    have e58 : psiKO P w0 R t lb lo Ln lc k d q Nn Bb x AB LB cB m b 58 (a'.tmps.getD 155 undef) w' := hp 58 (oKO58 p) 155 rfl rfl
    have e59 : psiKO P w0 R t lb lo Ln lc k d q Nn Bb x AB LB cB m b 59 (a'.tmps.getD 156 undef) w' := hp 59 (oKO59 p) 156 rfl rfl
    have e60 : psiKO P w0 R t lb lo Ln lc k d q Nn Bb x AB LB cB m b 60 (a'.tmps.getD 157 undef) w' := hp 60 (oKO60 p) 157 rfl rfl
    rw [hF.puts [(97, .slice (some ⟨lb, lo, none⟩) Ln lc), (98, .int .i64 (k : Int)), (99, .pointer (some ⟨lb, lo + k * 3, none⟩)), (100, .pointer (some ⟨lb, lo + k * 3, none⟩)), (101, .int .u8 (d : Int)), (102, .int .u8 (q : Int)), (103, .bool true), (104, .bool true), (105, .bool true), (106, .bool false), (107, .bool false), (108, .int .i64 0), (109, .bool true), (110, .bool true), (111, .string (str Nn)), (112, .string (str Bb)), (113, .int .i64 (Bb.length : Int)), (114, .string (str (Nn.drop Bb.length))), (115, .slice (some ⟨lb, lo, none⟩) Ln lc), (116, .int .i64 (k : Int)), (117, .pointer (some ⟨lb, lo + k * 3, none⟩)), (118, .pointer (some ⟨lb, lo + k * 3 + 2, none⟩)), (119, .slice AB LB cB), (120, .string (str Nn)), (121, .int .i64 (Nn.length : Int)), (122, .string (str Bb)), (123, .int .i64 (Bb.length : Int)), (124, .int .i64 (m : Int)), (125, .slice AB m cB), (126, .string (str (x.take m))), (127, .bool false), (128, .bool false), (129, .bool false), (130, .bool false), (131, .int .i64 0), (132, .bool true), (133, .bool true), (134, .string (str Nn)), (135, .int .i64 (Nn.length : Int)), (136, .string (str Bb)), (137, .int .i64 (Bb.length : Int)), (138, .slice (some ⟨lb, lo, none⟩) Ln lc), (139, .int .i64 (k : Int)), (140, .pointer (some ⟨lb, lo + k * 3, none⟩)), (141, .pointer (some ⟨lb, lo + k * 3 + 2, none⟩)), (142, .slice AB LB cB), (143, .int .i64 (LB : Int)), (144, .int .i64 ((Bb.length : Int) + (LB : Int))), (145, .bool false), (146, .bool false), (147, .bool false), (148, .bool false), (149, .int .i64 0), (150, .bool false), (151, .bool false), (152, undef), (153, undef), (154, undef), (155, .bool false), (156, .bool false), (157, .bool false)] ?_ rfl (by rw [hN]; rfl)]
    · exact hQ  w'  hR.undraw
    · intro x hx
      simp only [List.mem_cons, List.not_mem_nil, or_false] at hx
      rcases hx with rfl | rfl | rfl | rfl | rfl | rfl | rfl | rfl | rfl | rfl | rfl | rfl | rfl | rfl | rfl | rfl | rfl | rfl | rfl | rfl | rfl | rfl | rfl | rfl | rfl | rfl | rfl | rfl | rfl | rfl | rfl | rfl | rfl | rfl | rfl | rfl | rfl | rfl | rfl | rfl | rfl | rfl | rfl | rfl | rfl | rfl | rfl | rfl | rfl | rfl | rfl | rfl | rfl | rfl | rfl | rfl | rfl | rfl | rfl | rfl | rfl
      · exact e0
      · exact e1
      · exact e2
      · exact e3
      · exact e4
      · exact e5
      · exact e6
      · exact e7
      · exact e8
      · exact e9
      · exact e10
      · exact e11
      · exact e12
      · exact e13
      · exact e14
      · exact e15
      · exact e16
      · exact e17
      · exact e18
      · exact e19
      · exact e20
      · exact e21
      · exact e22
      · exact e23
      · exact e24
      · exact e25
      · exact e26
      · exact e27
      · exact e28
      · exact e29
      · exact e30
      · exact e31
      · exact e32
      · exact e33
      · exact e34
      · exact e35
      · exact e36
      · exact e37
      · exact e38
      · exact e39
      · exact e40
      · exact e41
      · exact e42
      · exact e43
      · exact e44
      · exact e45
      · exact e46
      · exact e47
      · exact e48
      · exact e49
      · exact e50
      · exact e51
      · exact e52
      · exact e53
      · exact e54
      · exact e55
      · exact e56
      · exact e57
      · exact e58
      · exact e59
      · exact e60
def oKT0 (p : String) : Oper := { dst := some 97, op := Op.move (Operand.tmp 0), type := 22, pos := p, after := #[], guard := none }
def oKT1 (p : String) : Oper := { dst := some 98, op := Op.move (Operand.tmp 5), type := 3, pos := p, after := #[], guard := none }
def oKT2 (p : String) : Oper := { dst := some 99, op := Op.indexAddr 22 (Operand.tmp 97) (Operand.tmp 98), type := 0, pos := p, after := #[{ on := 0, ground := Ground.data }, { on := 1, ground := Ground.data }], guard := none }
def oKT3 (p : String) : Oper := { dst := some 100, op := Op.fieldAddr 29 (Operand.tmp 99) 0, type := 0, pos := p, after := #[{ on := 2, ground := Ground.data }], guard := none }
def oKT4 (p : String) : Oper := { dst := some 101, op := Op.load 5 (Operand.tmp 100), type := 5, pos := p, after := #[{ on := 3, ground := Ground.data }], guard := none }
def oKT5 (p : String) : Oper := { dst := some 102, op := Op.binOp BinOp.rem 5 (Operand.tmp 101) (Operand.const (Value.int IntKind.u8 7)) 5, type := 5, pos := p, after := #[{ on := 4, ground := Ground.data }], guard := none }
def oKT6 (p : String) : Oper := { dst := some 103, op := Op.binOp BinOp.eql 5 (Operand.tmp 102) (Operand.const (Value.int IntKind.u8 0)) 5, type := 4, pos := p, after := #[{ on := 5, ground := Ground.data }], guard := none }
def oKT7 (p : String) : Oper := { dst := some 104, op := Op.move (Operand.tmp 103), type := 4, pos := p, after := #[{ on := 6, ground := Ground.data }], guard := none }
def oKT8 (p : String) : Oper := { dst := some 105, op := Op.move (Operand.tmp 10), type := 4, pos := p, after := #[{ on := 7, ground := Ground.guard }], guard := some (7, true) }
def oKT9 (p : String) : Oper := { dst := some 106, op := Op.unOp UnOp.not 4 (Operand.tmp 105), type := 4, pos := p, after := #[{ on := 8, ground := Ground.data }, { on := 7, ground := Ground.guard }], guard := some (7, true) }
def oKT10 (p : String) : Oper := { dst := some 107, op := Op.move (Operand.tmp 106), type := 4, pos := p, after := #[{ on := 9, ground := Ground.data }, { on := 7, ground := Ground.chain }, { on := 7, ground := Ground.guard }], guard := some (7, true) }
def oKT11 (p : String) : Oper := { dst := some 108, op := Op.move (Operand.tmp 8), type := 31, pos := p, after := #[{ on := 10, ground := Ground.guard }], guard := some (10, false) }
def oKT12 (p : String) : Oper := { dst := some 109, op := Op.binOp BinOp.neq 31 (Operand.tmp 108) (Operand.const (Value.int IntKind.i64 20)) 31, type := 4, pos := p, after := #[{ on := 11, ground := Ground.data }, { on := 10, ground := Ground.guard }], guard := some (10, false) }
def oKT13 (p : String) : Oper := { dst := some 110, op := Op.move (Operand.tmp 109), type := 4, pos := p, after := #[{ on := 12, ground := Ground.data }, { on := 10, ground := Ground.chain }, { on := 10, ground := Ground.guard }], guard := some (10, false) }
def oKT14 (p : String) : Oper := { dst := some 111, op := Op.move (Operand.tmp 9), type := 9, pos := p, after := #[{ on := 13, ground := Ground.guard }], guard := some (13, true) }
def oKT15 (p : String) : Oper := { dst := some 112, op := Op.move (Operand.tmp 6), type := 9, pos := p, after := #[{ on := 13, ground := Ground.guard }], guard := some (13, true) }
def oKT16 (p : String) : Oper := { dst := some 113, op := Op.call { callee := Callee.builtin Builtin.len, args := #[Operand.tmp 112], argTypes := #[9] }, type := 3, pos := p, after := #[{ on := 15, ground := Ground.data }, { on := 13, ground := Ground.guard }], guard := some (13, true) }
def oKT17 (p : String) : Oper := { dst := some 114, op := Op.slice 9 (Operand.tmp 111) (some (Operand.tmp 113)) none none, type := 9, pos := p, after := #[{ on := 14, ground := Ground.data }, { on := 16, ground := Ground.data }, { on := 13, ground := Ground.guard }], guard := some (13, true) }
def oKT18 (p : String) : Oper := { dst := some 115, op := Op.move (Operand.tmp 0), type := 22, pos := p, after := #[{ on := 13, ground := Ground.guard }], guard := some (13, true) }
def oKT19 (p : String) : Oper := { dst := some 116, op := Op.move (Operand.tmp 5), type := 3, pos := p, after := #[{ on := 13, ground := Ground.guard }], guard := some (13, true) }
def oKT20 (p : String) : Oper := { dst := some 117, op := Op.indexAddr 22 (Operand.tmp 115) (Operand.tmp 116), type := 0, pos := p, after := #[{ on := 18, ground := Ground.data }, { on := 19, ground := Ground.data }, { on := 13, ground := Ground.guard }], guard := some (13, true) }
def oKT21 (p : String) : Oper := { dst := some 118, op := Op.fieldAddr 29 (Operand.tmp 117) 2, type := 0, pos := p, after := #[{ on := 20, ground := Ground.data }, { on := 13, ground := Ground.guard }], guard := some (13, true) }
def oKT22 (p : String) : Oper := { dst := some 119, op := Op.load 27 (Operand.tmp 118), type := 27, pos := p, after := #[{ on := 21, ground := Ground.data }, { on := 13, ground := Ground.guard }], guard := some (13, true) }
def oKT23 (p : String) : Oper := { dst := some 120, op := Op.move (Operand.tmp 9), type := 9, pos := p, after := #[{ on := 13, ground := Ground.guard }], guard := some (13, true) }
def oKT24 (p : String) : Oper := { dst := some 121, op := Op.call { callee := Callee.builtin Builtin.len, args := #[Operand.tmp 120], argTypes := #[9] }, type := 3, pos := p, after := #[{ on := 23, ground := Ground.data }, { on := 13, ground := Ground.guard }], guard := some (13, true) }
def oKT25 (p : String) : Oper := { dst := some 122, op := Op.move (Operand.tmp 6), type := 9, pos := p, after := #[{ on := 13, ground := Ground.guard }], guard := some (13, true) }
def oKT26 (p : String) : Oper := { dst := some 123, op := Op.call { callee := Callee.builtin Builtin.len, args := #[Operand.tmp 122], argTypes := #[9] }, type := 3, pos := p, after := #[{ on := 25, ground := Ground.data }, { on := 13, ground := Ground.guard }], guard := some (13, true) }
def oKT27 (p : String) : Oper := { dst := some 124, op := Op.binOp BinOp.sub 3 (Operand.tmp 121) (Operand.tmp 123) 3, type := 3, pos := p, after := #[{ on := 24, ground := Ground.data }, { on := 26, ground := Ground.data }, { on := 13, ground := Ground.guard }], guard := some (13, true) }
def oKT28 (p : String) : Oper := { dst := some 125, op := Op.slice 27 (Operand.tmp 119) none (some (Operand.tmp 124)) none, type := 27, pos := p, after := #[{ on := 22, ground := Ground.data }, { on := 27, ground := Ground.data }, { on := 13, ground := Ground.guard }], guard := some (13, true) }
def oKT29 (p : String) : Oper := { dst := some 126, op := Op.convert 27 9 (Operand.tmp 125), type := 9, pos := p, after := #[{ on := 28, ground := Ground.data }, { on := 13, ground := Ground.guard }], guard := some (13, true) }
def oKT30 (p : String) : Oper := { dst := some 127, op := Op.binOp BinOp.neq 9 (Operand.tmp 114) (Operand.tmp 126) 9, type := 4, pos := p, after := #[{ on := 17, ground := Ground.data }, { on := 29, ground := Ground.data }, { on := 13, ground := Ground.guard }], guard := some (13, true) }
def oKT31 (p : String) : Oper := { dst := some 128, op := Op.pick (Operand.tmp 110) (Operand.tmp 127) (Operand.const (Value.bool false)), type := 4, pos := p, after := #[{ on := 13, ground := Ground.data }, { on := 30, ground := Ground.data }, { on := 10, ground := Ground.guard }], guard := some (10, false) }
def oKT32 (p : String) : Oper := { dst := some 129, op := Op.pick (Operand.tmp 107) (Operand.const (Value.bool true)) (Operand.tmp 128), type := 4, pos := p, after := #[{ on := 10, ground := Ground.data }, { on := 31, ground := Ground.data }, { on := 7, ground := Ground.guard }], guard := some (7, true) }
def oKT33 (p : String) : Oper := { dst := some 130, op := Op.move (Operand.tmp 129), type := 4, pos := p, after := #[{ on := 32, ground := Ground.data }, { on := 13, ground := Ground.chain }, { on := 7, ground := Ground.guard }], guard := some (7, true) }
def oKT34 (p : String) : Oper := { dst := some 131, op := Op.move (Operand.tmp 8), type := 31, pos := p, after := #[{ on := 33, ground := Ground.guard }], guard := some (33, false) }
def oKT35 (p : String) : Oper := { dst := some 132, op := Op.binOp BinOp.eql 31 (Operand.tmp 131) (Operand.const (Value.int IntKind.i64 0)) 31, type := 4, pos := p, after := #[{ on := 34, ground := Ground.data }, { on := 33, ground := Ground.guard }], guard := some (33, false) }
def oKT36 (p : String) : Oper := { dst := some 133, op := Op.move (Operand.tmp 132), type := 4, pos := p, after := #[{ on := 35, ground := Ground.data }, { on := 33, ground := Ground.chain }, { on := 33, ground := Ground.guard }], guard := some (33, false) }
def oKT37 (p : String) : Oper := { dst := some 134, op := Op.move (Operand.tmp 9), type := 9, pos := p, after := #[{ on := 36, ground := Ground.guard }], guard := some (36, true) }
def oKT38 (p : String) : Oper := { dst := some 135, op := Op.call { callee := Callee.builtin Builtin.len, args := #[Operand.tmp 134], argTypes := #[9] }, type := 3, pos := p, after := #[{ on := 37, ground := Ground.data }, { on := 36, ground := Ground.guard }], guard := some (36, true) }
def oKT39 (p : String) : Oper := { dst := some 136, op := Op.move (Operand.tmp 6), type := 9, pos := p, after := #[{ on := 36, ground := Ground.guard }], guard := some (36, true) }
def oKT40 (p : String) : Oper := { dst := some 137, op := Op.call { callee := Callee.builtin Builtin.len, args := #[Operand.tmp 136], argTypes := #[9] }, type := 3, pos := p, after := #[{ on := 39, ground := Ground.data }, { on := 36, ground := Ground.guard }], guard := some (36, true) }
def oKT41 (p : String) : Oper := { dst := some 138, op := Op.move (Operand.tmp 0), type := 22, pos := p, after := #[{ on := 36, ground := Ground.guard }], guard := some (36, true) }
def oKT42 (p : String) : Oper := { dst := some 139, op := Op.move (Operand.tmp 5), type := 3, pos := p, after := #[{ on := 36, ground := Ground.guard }], guard := some (36, true) }
def oKT43 (p : String) : Oper := { dst := some 140, op := Op.indexAddr 22 (Operand.tmp 138) (Operand.tmp 139), type := 0, pos := p, after := #[{ on := 41, ground := Ground.data }, { on := 42, ground := Ground.data }, { on := 36, ground := Ground.guard }], guard := some (36, true) }
def oKT44 (p : String) : Oper := { dst := some 141, op := Op.fieldAddr 29 (Operand.tmp 140) 2, type := 0, pos := p, after := #[{ on := 43, ground := Ground.data }, { on := 36, ground := Ground.guard }], guard := some (36, true) }
def oKT45 (p : String) : Oper := { dst := some 142, op := Op.load 27 (Operand.tmp 141), type := 27, pos := p, after := #[{ on := 44, ground := Ground.data }, { on := 36, ground := Ground.guard }], guard := some (36, true) }
def oKT46 (p : String) : Oper := { dst := some 143, op := Op.call { callee := Callee.builtin Builtin.len, args := #[Operand.tmp 142], argTypes := #[27] }, type := 3, pos := p, after := #[{ on := 45, ground := Ground.data }, { on := 36, ground := Ground.guard }], guard := some (36, true) }
def oKT47 (p : String) : Oper := { dst := some 144, op := Op.binOp BinOp.add 3 (Operand.tmp 137) (Operand.tmp 143) 3, type := 3, pos := p, after := #[{ on := 40, ground := Ground.data }, { on := 46, ground := Ground.data }, { on := 36, ground := Ground.guard }], guard := some (36, true) }
def oKT48 (p : String) : Oper := { dst := some 145, op := Op.binOp BinOp.neq 3 (Operand.tmp 135) (Operand.tmp 144) 3, type := 4, pos := p, after := #[{ on := 38, ground := Ground.data }, { on := 47, ground := Ground.data }, { on := 36, ground := Ground.guard }], guard := some (36, true) }
def oKT49 (p : String) : Oper := { dst := some 146, op := Op.pick (Operand.tmp 133) (Operand.tmp 145) (Operand.const (Value.bool false)), type := 4, pos := p, after := #[{ on := 36, ground := Ground.data }, { on := 48, ground := Ground.data }, { on := 33, ground := Ground.guard }], guard := some (33, false) }
def oKT50 (p : String) : Oper := { dst := some 147, op := Op.pick (Operand.tmp 130) (Operand.const (Value.bool true)) (Operand.tmp 146), type := 4, pos := p, after := #[{ on := 33, ground := Ground.data }, { on := 49, ground := Ground.data }, { on := 7, ground := Ground.guard }], guard := some (7, true) }
def oKT51 (p : String) : Oper := { dst := some 148, op := Op.move (Operand.tmp 147), type := 4, pos := p, after := #[{ on := 50, ground := Ground.data }, { on := 36, ground := Ground.chain }, { on := 7, ground := Ground.guard }], guard := some (7, true) }
def oKT52 (p : String) : Oper := { dst := some 149, op := Op.move (Operand.tmp 8), type := 31, pos := p, after := #[{ on := 51, ground := Ground.guard }], guard := some (51, false) }
def oKT53 (p : String) : Oper := { dst := some 150, op := Op.binOp BinOp.eql 31 (Operand.tmp 149) (Operand.const (Value.int IntKind.i64 21)) 31, type := 4, pos := p, after := #[{ on := 52, ground := Ground.data }, { on := 51, ground := Ground.guard }], guard := some (51, false) }
def oKT54 (p : String) : Oper := { dst := some 151, op := Op.move (Operand.tmp 150), type := 4, pos := p, after := #[{ on := 53, ground := Ground.data }, { on := 51, ground := Ground.chain }, { on := 51, ground := Ground.guard }], guard := some (51, false) }
def oKT55 (p : String) : Oper := { dst := some 152, op := Op.move (Operand.tmp 3), type := 25, pos := p, after := #[{ on := 54, ground := Ground.guard }], guard := some (54, true) }
def oKT56 (p : String) : Oper := { dst := some 153, op := Op.call { callee := Callee.value (Operand.func 8), args := #[Operand.tmp 152], argTypes := #[25] }, type := 4, pos := p, after := #[{ on := 55, ground := Ground.data }, { on := 54, ground := Ground.chain }, { on := 54, ground := Ground.guard }], guard := some (54, true) }
def oKT57 (p : String) : Oper := { dst := some 154, op := Op.unOp UnOp.not 4 (Operand.tmp 153), type := 4, pos := p, after := #[{ on := 56, ground := Ground.data }, { on := 54, ground := Ground.guard }], guard := some (54, true) }
def oKT58 (p : String) : Oper := { dst := some 155, op := Op.pick (Operand.tmp 151) (Operand.tmp 154) (Operand.const (Value.bool false)), type := 4, pos := p, after := #[{ on := 54, ground := Ground.data }, { on := 57, ground := Ground.data }, { on := 51, ground := Ground.guard }], guard := some (51, false) }
def oKT59 (p : String) : Oper := { dst := some 156, op := Op.pick (Operand.tmp 148) (Operand.const (Value.bool true)) (Operand.tmp 155), type := 4, pos := p, after := #[{ on := 51, ground := Ground.data }, { on := 58, ground := Ground.data }, { on := 7, ground := Ground.guard }], guard := some (7, true) }
def oKT60 (p : String) : Oper := { dst := some 157, op := Op.pick (Operand.tmp 104) (Operand.tmp 156) (Operand.const (Value.bool false)), type := 4, pos := p, after := #[{ on := 7, ground := Ground.data }, { on := 59, ground := Ground.data }], guard := none }
def opsKT (p : String) : List Oper := [oKT0 p, oKT1 p, oKT2 p, oKT3 p, oKT4 p, oKT5 p, oKT6 p, oKT7 p, oKT8 p, oKT9 p, oKT10 p, oKT11 p, oKT12 p, oKT13 p, oKT14 p, oKT15 p, oKT16 p, oKT17 p, oKT18 p, oKT19 p, oKT20 p, oKT21 p, oKT22 p, oKT23 p, oKT24 p, oKT25 p, oKT26 p, oKT27 p, oKT28 p, oKT29 p, oKT30 p, oKT31 p, oKT32 p, oKT33 p, oKT34 p, oKT35 p, oKT36 p, oKT37 p, oKT38 p, oKT39 p, oKT40 p, oKT41 p, oKT42 p, oKT43 p, oKT44 p, oKT45 p, oKT46 p, oKT47 p, oKT48 p, oKT49 p, oKT50 p, oKT51 p, oKT52 p, oKT53 p, oKT54 p, oKT55 p, oKT56 p, oKT57 p, oKT58 p, oKT59 p, oKT60 p]
theorem opsKT_back (p : String) : backwards (opsKT p) = true := by kernel_rfl
theorem opsKT_slots (p : String) : slotsOk 176 (opsKT p) = true := by kernel_rfl
/-- What each slot comes to. -/
def psiKT (P : DiskK) (w0 : World) (R : Nat) (t : DS) (lb lo Ln lc k d q : Nat) (Nn Bb x : List UInt8) (AB : Option Addr) (LB cB m : Nat) (b : Bool) : Nat → Value → World → Prop
  | 0, v, _ => v = .slice (some ⟨lb, lo, none⟩) Ln lc
  | 1, v, _ => v = .int .i64 (k : Int)
  | 2, v, _ => v = .pointer (some ⟨lb, lo + k * 3, none⟩)
  | 3, v, _ => v = .pointer (some ⟨lb, lo + k * 3, none⟩)
  | 4, v, _ => v = .int .u8 (d : Int)
  | 5, v, _ => v = .int .u8 (q : Int)
  | 6, v, _ => v = .bool true
  | 7, v, _ => v = .bool true
  | 8, v, _ => v = .bool true
  | 9, v, _ => v = .bool false
  | 10, v, _ => v = .bool false
  | 11, v, _ => v = .int .i64 21
  | 12, v, _ => v = .bool true
  | 13, v, _ => v = .bool true
  | 14, v, _ => v = .string (str Nn)
  | 15, v, _ => v = .string (str Bb)
  | 16, v, _ => v = .int .i64 (Bb.length : Int)
  | 17, v, _ => v = .string (str (Nn.drop Bb.length))
  | 18, v, _ => v = .slice (some ⟨lb, lo, none⟩) Ln lc
  | 19, v, _ => v = .int .i64 (k : Int)
  | 20, v, _ => v = .pointer (some ⟨lb, lo + k * 3, none⟩)
  | 21, v, _ => v = .pointer (some ⟨lb, lo + k * 3 + 2, none⟩)
  | 22, v, _ => v = .slice AB LB cB
  | 23, v, _ => v = .string (str Nn)
  | 24, v, _ => v = .int .i64 (Nn.length : Int)
  | 25, v, _ => v = .string (str Bb)
  | 26, v, _ => v = .int .i64 (Bb.length : Int)
  | 27, v, _ => v = .int .i64 (m : Int)
  | 28, v, _ => v = .slice AB m cB
  | 29, v, _ => v = .string (str (x.take m))
  | 30, v, _ => v = .bool false
  | 31, v, _ => v = .bool false
  | 32, v, _ => v = .bool false
  | 33, v, _ => v = .bool false
  | 34, v, _ => v = .int .i64 21
  | 35, v, _ => v = .bool false
  | 36, v, _ => v = .bool false
  | 37, v, _ => v = undef
  | 38, v, _ => v = undef
  | 39, v, _ => v = undef
  | 40, v, _ => v = undef
  | 41, v, _ => v = undef
  | 42, v, _ => v = undef
  | 43, v, _ => v = undef
  | 44, v, _ => v = undef
  | 45, v, _ => v = undef
  | 46, v, _ => v = undef
  | 47, v, _ => v = undef
  | 48, v, _ => v = undef
  | 49, v, _ => v = .bool false
  | 50, v, _ => v = .bool false
  | 51, v, _ => v = .bool false
  | 52, v, _ => v = .int .i64 21
  | 53, v, _ => v = .bool true
  | 54, v, _ => v = .bool true
  | 55, v, _ => v = .pointer (some ⟨R, 0, none⟩)
  | 56, v, _ => v = .bool true
  | 57, v, _ => v = .bool false
  | 58, v, _ => v = .bool false
  | 59, v, _ => v = .bool false
  | 60, v, _ => v = .bool false
  | _, _, _ => True
theorem psiKT_grew (P : DiskK) (w0 : World) (R : Nat) (t : DS) (lb lo Ln lc k d q : Nat) (Nn Bb x : List UInt8) (AB : Option Addr) (LB cB m : Nat) (b : Bool) : ∀ i v w w', psiKT P w0 R t lb lo Ln lc k d q Nn Bb x AB LB cB m b i v w → Grew w w' → psiKT P w0 R t lb lo Ln lc k d q Nn Bb x AB LB cB m b i v w' := by
  intro i v w w' h hg
  rcases i with _ | _ | _ | _ | _ | _ | _ | _ | _ | _ | _ | _ | _ | _ | _ | _ | _ | _ | _ | _ | _ | _ | _ | _ | _ | _ | _ | _ | _ | _ | _ | _ | _ | _ | _ | _ | _ | _ | _ | _ | _ | _ | _ | _ | _ | _ | _ | _ | _ | _ | _ | _ | _ | _ | _ | _ | _ | _ | _ | _ | _ | i
  · exact h
  · exact h
  · exact h
  · exact h
  · exact h
  · exact h
  · exact h
  · exact h
  · exact h
  · exact h
  · exact h
  · exact h
  · exact h
  · exact h
  · exact h
  · exact h
  · exact h
  · exact h
  · exact h
  · exact h
  · exact h
  · exact h
  · exact h
  · exact h
  · exact h
  · exact h
  · exact h
  · exact h
  · exact h
  · exact h
  · exact h
  · exact h
  · exact h
  · exact h
  · exact h
  · exact h
  · exact h
  · exact h
  · exact h
  · exact h
  · exact h
  · exact h
  · exact h
  · exact h
  · exact h
  · exact h
  · exact h
  · exact h
  · exact h
  · exact h
  · exact h
  · exact h
  · exact h
  · exact h
  · exact h
  · exact h
  · exact h
  · exact h
  · exact h
  · exact h
  · exact h
  · trivial
set_option maxRecDepth 100000 in
set_option maxHeartbeats 4000000 in
theorem keeps_torn {p : String} (P : DiskK) (w0 : World) (R : Nat) (t : DS) (lb lo Ln lc k d q : Nat) (Nn Bb x : List UInt8) (AB : Option Addr) (LB cB m : Nat) (b : Bool) (hk : k < Ln) (hd8 : d < 256) (hq : d % 7 = q) (hq0 : q = 0) (hN : Nn.length = Bb.length + m) (hmL : m ≤ LB) (hLc : LB ≤ cB) (hLx : LB = x.length) (hb4 : Bb.length ≤ 10000) (hL4 : LB ≤ 10000) (hYx : Nn.drop Bb.length = x.take m) (hdd : t.dead = true) (a : Act) (w : World) (Q : Exit → Act → World → Prop) (hN : a.tmps.size = 176) (h0 : a.tmps.getD 0 undef = .slice (some ⟨lb, lo, none⟩) Ln lc) (h3 : a.tmps.getD 3 undef = .pointer (some ⟨R, 0, none⟩)) (h5 : a.tmps.getD 5 undef = .int .i64 (k : Int)) (h6 : a.tmps.getD 6 undef = .string (str Bb)) (h8 : a.tmps.getD 8 undef = .int .i64 21) (h9 : a.tmps.getD 9 undef = .string (str Nn)) (h10 : a.tmps.getD 10 undef = .bool true) (hlb : lb < w.heap.size) (hk0 : w.cell? ⟨lb, lo + k * 3, none⟩ = some (.int .u8 (d : Int))) (hk2 : w.cell? ⟨lb, lo + k * 3 + 2, none⟩ = some (.slice AB LB cB)) (hA : HasA w w.heap.size AB x) (hl : LiveD P w0 R t w) (hQ : ∀ (w' : World), Grew w w' → Q .normal (puts [(97, .slice (some ⟨lb, lo, none⟩) Ln lc), (98, .int .i64 (k : Int)), (99, .pointer (some ⟨lb, lo + k * 3, none⟩)), (100, .pointer (some ⟨lb, lo + k * 3, none⟩)), (101, .int .u8 (d : Int)), (102, .int .u8 (q : Int)), (103, .bool true), (104, .bool true), (105, .bool true), (106, .bool false), (107, .bool false), (108, .int .i64 21), (109, .bool true), (110, .bool true), (111, .string (str Nn)), (112, .string (str Bb)), (113, .int .i64 (Bb.length : Int)), (114, .string (str (Nn.drop Bb.length))), (115, .slice (some ⟨lb, lo, none⟩) Ln lc), (116, .int .i64 (k : Int)), (117, .pointer (some ⟨lb, lo + k * 3, none⟩)), (118, .pointer (some ⟨lb, lo + k * 3 + 2, none⟩)), (119, .slice AB LB cB), (120, .string (str Nn)), (121, .int .i64 (Nn.length : Int)), (122, .string (str Bb)), (123, .int .i64 (Bb.length : Int)), (124, .int .i64 (m : Int)), (125, .slice AB m cB), (126, .string (str (x.take m))), (127, .bool false), (128, .bool false), (129, .bool false), (130, .bool false), (131, .int .i64 21), (132, .bool false), (133, .bool false), (134, undef), (135, undef), (136, undef), (137, undef), (138, undef), (139, undef), (140, undef), (141, undef), (142, undef), (143, undef), (144, undef), (145, undef), (146, .bool false), (147, .bool false), (148, .bool false), (149, .int .i64 21), (150, .bool true), (151, .bool true), (152, .pointer (some ⟨R, 0, none⟩)), (153, .bool true), (154, .bool false), (155, .bool false), (156, .bool false), (157, .bool false)] a) w')
    : (Code.region 15 (opsKT p).toArray true).wp Try.prog Q a w := by
  refine (wpIn_wide (n := 1)).1 (wpIn_region_vals 176 hN follows (opsKT_back p) (opsKT_slots p) Grew Grew.refl Grew.trans (psiKT P w0 R t lb lo Ln lc k d q Nn Bb x AB LB cB m b) (psiKT_grew P w0 R t lb lo Ln lc k d q Nn Bb x AB LB cB m b) ?_ ?_)
  · intro i o d ho hd a' w' hF hR hp
    rcases i with _ | _ | _ | _ | _ | _ | _ | _ | _ | _ | _ | _ | _ | _ | _ | _ | _ | _ | _ | _ | _ | _ | _ | _ | _ | _ | _ | _ | _ | _ | _ | _ | _ | _ | _ | _ | _ | _ | _ | _ | _ | _ | _ | _ | _ | _ | _ | _ | _ | _ | _ | _ | _ | _ | _ | _ | _ | _ | _ | _ | _ | i
    · obtain rfl : oKT0 p = o := Option.some.inj ho
      obtain rfl : 97 = d := Option.some.inj hd
      exact step_move rfl rfl rfl (hF.at 0 rfl h0) ⟨_, rfl, rfl, Grew.refl _⟩
    · obtain rfl : oKT1 p = o := Option.some.inj ho
      obtain rfl : 98 = d := Option.some.inj hd
      exact step_move rfl rfl rfl (hF.at 5 rfl h5) ⟨_, rfl, rfl, Grew.refl _⟩
    · obtain rfl : oKT2 p = o := Option.some.inj ho
      obtain rfl : 99 = d := Option.some.inj hd
      have q0 : a'.tmps.getD 97 undef = .slice (some ⟨lb, lo, none⟩) Ln lc := hp 0 (oKT0 p) 97 rfl rfl rfl
      have q1 : a'.tmps.getD 98 undef = .int .i64 (k : Int) := hp 1 (oKT1 p) 98 rfl rfl rfl
      exact step_index rfl rfl rfl q0 q1 (run_ixD _ _ _ _ _ _ hk) ⟨_, rfl, rfl, Grew.refl _⟩
    · obtain rfl : oKT3 p = o := Option.some.inj ho
      obtain rfl : 100 = d := Option.some.inj hd
      have q2 : a'.tmps.getD 99 undef = .pointer (some ⟨lb, lo + k * 3, none⟩) := hp 2 (oKT2 p) 99 rfl rfl rfl
      exact step_field rfl rfl rfl q2 (run_fd0 _ _ _) ⟨_, rfl, rfl, Grew.refl _⟩
    · obtain rfl : oKT4 p = o := Option.some.inj ho
      obtain rfl : 101 = d := Option.some.inj hd
      have q3 : a'.tmps.getD 100 undef = .pointer (some ⟨lb, lo + k * 3, none⟩) := hp 3 (oKT3 p) 100 rfl rfl rfl
      exact step_load rfl rfl rfl q3 (run_ldU8 _ _ _ ((Below.cell hR.undraw (p := ⟨lb, lo + k * 3, none⟩) hlb).trans hk0)) ⟨_, rfl, rfl, Grew.refl _⟩
    · obtain rfl : oKT5 p = o := Option.some.inj ho
      obtain rfl : 102 = d := Option.some.inj hd
      have q4 : a'.tmps.getD 101 undef = .int .u8 (d : Int) := hp 4 (oKT4 p) 101 rfl rfl rfl
      exact step_bin rfl rfl rfl q4 rfl (guard_int _ _ _ _ _ _ _ _ _) (run_rem7 _ _ _ hd8 hq) ⟨_, rfl, rfl, Grew.refl _⟩
    · obtain rfl : oKT6 p = o := Option.some.inj ho
      obtain rfl : 103 = d := Option.some.inj hd
      have q5 : a'.tmps.getD 102 undef = .int .u8 (q : Int) := hp 5 (oKT5 p) 102 rfl rfl rfl
      exact step_bin rfl rfl rfl q5 rfl (guard_int _ _ _ _ _ _ _ _ _) ((run_eqi _ _ _ _ _).trans (by simp; omega)) ⟨_, rfl, rfl, Grew.refl _⟩
    · obtain rfl : oKT7 p = o := Option.some.inj ho
      obtain rfl : 104 = d := Option.some.inj hd
      have q6 : a'.tmps.getD 103 undef = .bool true := hp 6 (oKT6 p) 103 rfl rfl rfl
      exact step_move rfl rfl rfl q6 ⟨_, rfl, rfl, Grew.refl _⟩
    · obtain rfl : oKT8 p = o := Option.some.inj ho
      obtain rfl : 105 = d := Option.some.inj hd
      have q7 : a'.tmps.getD 104 undef = .bool true := hp 7 (oKT7 p) 104 rfl rfl rfl
      exact step_move rfl (wanted_on rfl (show (opsKT p).toArray[7]? = some (oKT7 p) from rfl) rfl q7) rfl (hF.at 10 rfl h10) ⟨_, rfl, rfl, Grew.refl _⟩
    · obtain rfl : oKT9 p = o := Option.some.inj ho
      obtain rfl : 106 = d := Option.some.inj hd
      have q7 : a'.tmps.getD 104 undef = .bool true := hp 7 (oKT7 p) 104 rfl rfl rfl
      have q8 : a'.tmps.getD 105 undef = .bool true := hp 8 (oKT8 p) 105 rfl rfl rfl
      exact step_un rfl (wanted_on rfl (show (opsKT p).toArray[7]? = some (oKT7 p) from rfl) rfl q7) rfl q8 (run_not _ _) ⟨_, rfl, rfl, Grew.refl _⟩
    · obtain rfl : oKT10 p = o := Option.some.inj ho
      obtain rfl : 107 = d := Option.some.inj hd
      have q7 : a'.tmps.getD 104 undef = .bool true := hp 7 (oKT7 p) 104 rfl rfl rfl
      have q9 : a'.tmps.getD 106 undef = .bool false := hp 9 (oKT9 p) 106 rfl rfl rfl
      exact step_move rfl (wanted_on rfl (show (opsKT p).toArray[7]? = some (oKT7 p) from rfl) rfl q7) rfl q9 ⟨_, rfl, rfl, Grew.refl _⟩
    · obtain rfl : oKT11 p = o := Option.some.inj ho
      obtain rfl : 108 = d := Option.some.inj hd
      have q10 : a'.tmps.getD 107 undef = .bool false := hp 10 (oKT10 p) 107 rfl rfl rfl
      exact step_move rfl (wanted_on rfl (show (opsKT p).toArray[10]? = some (oKT10 p) from rfl) rfl q10) rfl (hF.at 8 rfl h8) ⟨_, rfl, rfl, Grew.refl _⟩
    · obtain rfl : oKT12 p = o := Option.some.inj ho
      obtain rfl : 109 = d := Option.some.inj hd
      have q10 : a'.tmps.getD 107 undef = .bool false := hp 10 (oKT10 p) 107 rfl rfl rfl
      have q11 : a'.tmps.getD 108 undef = .int .i64 21 := hp 11 (oKT11 p) 108 rfl rfl rfl
      exact step_bin rfl (wanted_on rfl (show (opsKT p).toArray[10]? = some (oKT10 p) from rfl) rfl q10) rfl q11 rfl (guard_int _ _ _ _ _ _ _ _ _) ((run_nei _ _ _ _).trans (by simp)) ⟨_, rfl, rfl, Grew.refl _⟩
    · obtain rfl : oKT13 p = o := Option.some.inj ho
      obtain rfl : 110 = d := Option.some.inj hd
      have q10 : a'.tmps.getD 107 undef = .bool false := hp 10 (oKT10 p) 107 rfl rfl rfl
      have q12 : a'.tmps.getD 109 undef = .bool true := hp 12 (oKT12 p) 109 rfl rfl rfl
      exact step_move rfl (wanted_on rfl (show (opsKT p).toArray[10]? = some (oKT10 p) from rfl) rfl q10) rfl q12 ⟨_, rfl, rfl, Grew.refl _⟩
    · obtain rfl : oKT14 p = o := Option.some.inj ho
      obtain rfl : 111 = d := Option.some.inj hd
      have q13 : a'.tmps.getD 110 undef = .bool true := hp 13 (oKT13 p) 110 rfl rfl rfl
      exact step_move rfl (wanted_on rfl (show (opsKT p).toArray[13]? = some (oKT13 p) from rfl) rfl q13) rfl (hF.at 9 rfl h9) ⟨_, rfl, rfl, Grew.refl _⟩
    · obtain rfl : oKT15 p = o := Option.some.inj ho
      obtain rfl : 112 = d := Option.some.inj hd
      have q13 : a'.tmps.getD 110 undef = .bool true := hp 13 (oKT13 p) 110 rfl rfl rfl
      exact step_move rfl (wanted_on rfl (show (opsKT p).toArray[13]? = some (oKT13 p) from rfl) rfl q13) rfl (hF.at 6 rfl h6) ⟨_, rfl, rfl, Grew.refl _⟩
    · obtain rfl : oKT16 p = o := Option.some.inj ho
      obtain rfl : 113 = d := Option.some.inj hd
      have q13 : a'.tmps.getD 110 undef = .bool true := hp 13 (oKT13 p) 110 rfl rfl rfl
      have q15 : a'.tmps.getD 112 undef = .string (str Bb) := hp 15 (oKT15 p) 112 rfl rfl rfl
      exact step_slen rfl (wanted_on rfl (show (opsKT p).toArray[13]? = some (oKT13 p) from rfl) rfl q13) rfl q15 ⟨_, rfl, rfl, Grew.refl _⟩
    · obtain rfl : oKT17 p = o := Option.some.inj ho
      obtain rfl : 114 = d := Option.some.inj hd
      have q13 : a'.tmps.getD 110 undef = .bool true := hp 13 (oKT13 p) 110 rfl rfl rfl
      have q14 : a'.tmps.getD 111 undef = .string (str Nn) := hp 14 (oKT14 p) 111 rfl rfl rfl
      have q16 : a'.tmps.getD 113 undef = .int .i64 (Bb.length : Int) := hp 16 (oKT16 p) 113 rfl rfl rfl
      exact step_from rfl (wanted_on rfl (show (opsKT p).toArray[13]? = some (oKT13 p) from rfl) rfl q13) rfl q14 q16 (run_sfrom _ _ _ (by omega) (by omega)) ⟨_, rfl, rfl, Grew.refl _⟩
    · obtain rfl : oKT18 p = o := Option.some.inj ho
      obtain rfl : 115 = d := Option.some.inj hd
      have q13 : a'.tmps.getD 110 undef = .bool true := hp 13 (oKT13 p) 110 rfl rfl rfl
      exact step_move rfl (wanted_on rfl (show (opsKT p).toArray[13]? = some (oKT13 p) from rfl) rfl q13) rfl (hF.at 0 rfl h0) ⟨_, rfl, rfl, Grew.refl _⟩
    · obtain rfl : oKT19 p = o := Option.some.inj ho
      obtain rfl : 116 = d := Option.some.inj hd
      have q13 : a'.tmps.getD 110 undef = .bool true := hp 13 (oKT13 p) 110 rfl rfl rfl
      exact step_move rfl (wanted_on rfl (show (opsKT p).toArray[13]? = some (oKT13 p) from rfl) rfl q13) rfl (hF.at 5 rfl h5) ⟨_, rfl, rfl, Grew.refl _⟩
    · obtain rfl : oKT20 p = o := Option.some.inj ho
      obtain rfl : 117 = d := Option.some.inj hd
      have q13 : a'.tmps.getD 110 undef = .bool true := hp 13 (oKT13 p) 110 rfl rfl rfl
      have q18 : a'.tmps.getD 115 undef = .slice (some ⟨lb, lo, none⟩) Ln lc := hp 18 (oKT18 p) 115 rfl rfl rfl
      have q19 : a'.tmps.getD 116 undef = .int .i64 (k : Int) := hp 19 (oKT19 p) 116 rfl rfl rfl
      exact step_index rfl (wanted_on rfl (show (opsKT p).toArray[13]? = some (oKT13 p) from rfl) rfl q13) rfl q18 q19 (run_ixD _ _ _ _ _ _ hk) ⟨_, rfl, rfl, Grew.refl _⟩
    · obtain rfl : oKT21 p = o := Option.some.inj ho
      obtain rfl : 118 = d := Option.some.inj hd
      have q13 : a'.tmps.getD 110 undef = .bool true := hp 13 (oKT13 p) 110 rfl rfl rfl
      have q20 : a'.tmps.getD 117 undef = .pointer (some ⟨lb, lo + k * 3, none⟩) := hp 20 (oKT20 p) 117 rfl rfl rfl
      exact step_field rfl (wanted_on rfl (show (opsKT p).toArray[13]? = some (oKT13 p) from rfl) rfl q13) rfl q20 (run_fd2 _ _ _) ⟨_, rfl, rfl, Grew.refl _⟩
    · obtain rfl : oKT22 p = o := Option.some.inj ho
      obtain rfl : 119 = d := Option.some.inj hd
      have q13 : a'.tmps.getD 110 undef = .bool true := hp 13 (oKT13 p) 110 rfl rfl rfl
      have q21 : a'.tmps.getD 118 undef = .pointer (some ⟨lb, lo + k * 3 + 2, none⟩) := hp 21 (oKT21 p) 118 rfl rfl rfl
      exact step_load rfl (wanted_on rfl (show (opsKT p).toArray[13]? = some (oKT13 p) from rfl) rfl q13) rfl q21 (run_ldSl _ _ _ _ _ ((Below.cell hR.undraw (p := ⟨lb, lo + k * 3 + 2, none⟩) hlb).trans hk2)) ⟨_, rfl, rfl, Grew.refl _⟩
    · obtain rfl : oKT23 p = o := Option.some.inj ho
      obtain rfl : 120 = d := Option.some.inj hd
      have q13 : a'.tmps.getD 110 undef = .bool true := hp 13 (oKT13 p) 110 rfl rfl rfl
      exact step_move rfl (wanted_on rfl (show (opsKT p).toArray[13]? = some (oKT13 p) from rfl) rfl q13) rfl (hF.at 9 rfl h9) ⟨_, rfl, rfl, Grew.refl _⟩
    · obtain rfl : oKT24 p = o := Option.some.inj ho
      obtain rfl : 121 = d := Option.some.inj hd
      have q13 : a'.tmps.getD 110 undef = .bool true := hp 13 (oKT13 p) 110 rfl rfl rfl
      have q23 : a'.tmps.getD 120 undef = .string (str Nn) := hp 23 (oKT23 p) 120 rfl rfl rfl
      exact step_slen rfl (wanted_on rfl (show (opsKT p).toArray[13]? = some (oKT13 p) from rfl) rfl q13) rfl q23 ⟨_, rfl, rfl, Grew.refl _⟩
    · obtain rfl : oKT25 p = o := Option.some.inj ho
      obtain rfl : 122 = d := Option.some.inj hd
      have q13 : a'.tmps.getD 110 undef = .bool true := hp 13 (oKT13 p) 110 rfl rfl rfl
      exact step_move rfl (wanted_on rfl (show (opsKT p).toArray[13]? = some (oKT13 p) from rfl) rfl q13) rfl (hF.at 6 rfl h6) ⟨_, rfl, rfl, Grew.refl _⟩
    · obtain rfl : oKT26 p = o := Option.some.inj ho
      obtain rfl : 123 = d := Option.some.inj hd
      have q13 : a'.tmps.getD 110 undef = .bool true := hp 13 (oKT13 p) 110 rfl rfl rfl
      have q25 : a'.tmps.getD 122 undef = .string (str Bb) := hp 25 (oKT25 p) 122 rfl rfl rfl
      exact step_slen rfl (wanted_on rfl (show (opsKT p).toArray[13]? = some (oKT13 p) from rfl) rfl q13) rfl q25 ⟨_, rfl, rfl, Grew.refl _⟩
    · obtain rfl : oKT27 p = o := Option.some.inj ho
      obtain rfl : 124 = d := Option.some.inj hd
      have q13 : a'.tmps.getD 110 undef = .bool true := hp 13 (oKT13 p) 110 rfl rfl rfl
      have q24 : a'.tmps.getD 121 undef = .int .i64 (Nn.length : Int) := hp 24 (oKT24 p) 121 rfl rfl rfl
      have q26 : a'.tmps.getD 123 undef = .int .i64 (Bb.length : Int) := hp 26 (oKT26 p) 123 rfl rfl rfl
      exact step_bin rfl (wanted_on rfl (show (opsKT p).toArray[13]? = some (oKT13 p) from rfl) rfl q13) rfl q24 q26 (guard_int _ _ _ _ _ _ _ _ _) (by rw [run_subi _ _ _ _ (by omega) (by omega)]; congr 2; omega) ⟨_, rfl, rfl, Grew.refl _⟩
    · obtain rfl : oKT28 p = o := Option.some.inj ho
      obtain rfl : 125 = d := Option.some.inj hd
      have q13 : a'.tmps.getD 110 undef = .bool true := hp 13 (oKT13 p) 110 rfl rfl rfl
      have q22 : a'.tmps.getD 119 undef = .slice AB LB cB := hp 22 (oKT22 p) 119 rfl rfl rfl
      have q27 : a'.tmps.getD 124 undef = .int .i64 (m : Int) := hp 27 (oKT27 p) 124 rfl rfl rfl
      exact step_upto rfl (wanted_on rfl (show (opsKT p).toArray[13]? = some (oKT13 p) from rfl) rfl q13) rfl q22 q27 (run_upto _ _ _ _ _ (by omega) (by omega)) ⟨_, rfl, rfl, Grew.refl _⟩
    · obtain rfl : oKT29 p = o := Option.some.inj ho
      obtain rfl : 126 = d := Option.some.inj hd
      have q13 : a'.tmps.getD 110 undef = .bool true := hp 13 (oKT13 p) 110 rfl rfl rfl
      have q28 : a'.tmps.getD 125 undef = .slice AB m cB := hp 28 (oKT28 p) 125 rfl rfl rfl
      exact step_cv rfl (wanted_on rfl (show (opsKT p).toArray[13]? = some (oKT13 p) from rfl) rfl q13) rfl q28 (run_conv ((HasA.take hA m).below' hR.undraw) cB Try.underlying27 Try.underlying5 Try.underlying9 (by simp; omega)) ⟨_, rfl, rfl, Grew.refl _⟩
    · obtain rfl : oKT30 p = o := Option.some.inj ho
      obtain rfl : 127 = d := Option.some.inj hd
      have q13 : a'.tmps.getD 110 undef = .bool true := hp 13 (oKT13 p) 110 rfl rfl rfl
      have q17 : a'.tmps.getD 114 undef = .string (str (Nn.drop Bb.length)) := hp 17 (oKT17 p) 114 rfl rfl rfl
      have q29 : a'.tmps.getD 126 undef = .string (str (x.take m)) := hp 29 (oKT29 p) 126 rfl rfl rfl
      exact step_bin rfl (wanted_on rfl (show (opsKT p).toArray[13]? = some (oKT13 p) from rfl) rfl q13) rfl q17 q29 (guard_str _ _ _ _ _ _ _) (by rw [run_neq, hYx]; simp) ⟨_, rfl, rfl, Grew.refl _⟩
    · obtain rfl : oKT31 p = o := Option.some.inj ho
      obtain rfl : 128 = d := Option.some.inj hd
      have q10 : a'.tmps.getD 107 undef = .bool false := hp 10 (oKT10 p) 107 rfl rfl rfl
      have q13 : a'.tmps.getD 110 undef = .bool true := hp 13 (oKT13 p) 110 rfl rfl rfl
      have q30 : a'.tmps.getD 127 undef = .bool false := hp 30 (oKT30 p) 127 rfl rfl rfl
      exact step_pick rfl (wanted_on rfl (show (opsKT p).toArray[10]? = some (oKT10 p) from rfl) rfl q10) rfl q13 (show (if true = true then a'.tmps.getD 127 undef else _) = _ from q30) ⟨_, rfl, rfl, Grew.refl _⟩
    · obtain rfl : oKT32 p = o := Option.some.inj ho
      obtain rfl : 129 = d := Option.some.inj hd
      have q7 : a'.tmps.getD 104 undef = .bool true := hp 7 (oKT7 p) 104 rfl rfl rfl
      have q10 : a'.tmps.getD 107 undef = .bool false := hp 10 (oKT10 p) 107 rfl rfl rfl
      have q31 : a'.tmps.getD 128 undef = .bool false := hp 31 (oKT31 p) 128 rfl rfl rfl
      exact step_pick rfl (wanted_on rfl (show (opsKT p).toArray[7]? = some (oKT7 p) from rfl) rfl q7) rfl q10 (show (if false = true then _ else a'.tmps.getD 128 undef) = _ from q31) ⟨_, rfl, rfl, Grew.refl _⟩
    · obtain rfl : oKT33 p = o := Option.some.inj ho
      obtain rfl : 130 = d := Option.some.inj hd
      have q7 : a'.tmps.getD 104 undef = .bool true := hp 7 (oKT7 p) 104 rfl rfl rfl
      have q32 : a'.tmps.getD 129 undef = .bool false := hp 32 (oKT32 p) 129 rfl rfl rfl
      exact step_move rfl (wanted_on rfl (show (opsKT p).toArray[7]? = some (oKT7 p) from rfl) rfl q7) rfl q32 ⟨_, rfl, rfl, Grew.refl _⟩
    · obtain rfl : oKT34 p = o := Option.some.inj ho
      obtain rfl : 131 = d := Option.some.inj hd
      have q33 : a'.tmps.getD 130 undef = .bool false := hp 33 (oKT33 p) 130 rfl rfl rfl
      exact step_move rfl (wanted_on rfl (show (opsKT p).toArray[33]? = some (oKT33 p) from rfl) rfl q33) rfl (hF.at 8 rfl h8) ⟨_, rfl, rfl, Grew.refl _⟩
    · obtain rfl : oKT35 p = o := Option.some.inj ho
      obtain rfl : 132 = d := Option.some.inj hd
      have q33 : a'.tmps.getD 130 undef = .bool false := hp 33 (oKT33 p) 130 rfl rfl rfl
      have q34 : a'.tmps.getD 131 undef = .int .i64 21 := hp 34 (oKT34 p) 131 rfl rfl rfl
      exact step_bin rfl (wanted_on rfl (show (opsKT p).toArray[33]? = some (oKT33 p) from rfl) rfl q33) rfl q34 rfl (guard_int _ _ _ _ _ _ _ _ _) ((run_eqi _ _ _ _ _).trans (by simp)) ⟨_, rfl, rfl, Grew.refl _⟩
    · obtain rfl : oKT36 p = o := Option.some.inj ho
      obtain rfl : 133 = d := Option.some.inj hd
      have q33 : a'.tmps.getD 130 undef = .bool false := hp 33 (oKT33 p) 130 rfl rfl rfl
      have q35 : a'.tmps.getD 132 undef = .bool false := hp 35 (oKT35 p) 132 rfl rfl rfl
      exact step_move rfl (wanted_on rfl (show (opsKT p).toArray[33]? = some (oKT33 p) from rfl) rfl q33) rfl q35 ⟨_, rfl, rfl, Grew.refl _⟩
    · obtain rfl : oKT37 p = o := Option.some.inj ho
      obtain rfl : 134 = d := Option.some.inj hd
      have q36 : a'.tmps.getD 133 undef = .bool false := hp 36 (oKT36 p) 133 rfl rfl rfl
      exact step_off rfl (wanted_off rfl (show (opsKT p).toArray[36]? = some (oKT36 p) from rfl) rfl q36) ⟨_, rfl, rfl, Grew.refl _⟩
    · obtain rfl : oKT38 p = o := Option.some.inj ho
      obtain rfl : 135 = d := Option.some.inj hd
      have q36 : a'.tmps.getD 133 undef = .bool false := hp 36 (oKT36 p) 133 rfl rfl rfl
      exact step_off rfl (wanted_off rfl (show (opsKT p).toArray[36]? = some (oKT36 p) from rfl) rfl q36) ⟨_, rfl, rfl, Grew.refl _⟩
    · obtain rfl : oKT39 p = o := Option.some.inj ho
      obtain rfl : 136 = d := Option.some.inj hd
      have q36 : a'.tmps.getD 133 undef = .bool false := hp 36 (oKT36 p) 133 rfl rfl rfl
      exact step_off rfl (wanted_off rfl (show (opsKT p).toArray[36]? = some (oKT36 p) from rfl) rfl q36) ⟨_, rfl, rfl, Grew.refl _⟩
    · obtain rfl : oKT40 p = o := Option.some.inj ho
      obtain rfl : 137 = d := Option.some.inj hd
      have q36 : a'.tmps.getD 133 undef = .bool false := hp 36 (oKT36 p) 133 rfl rfl rfl
      exact step_off rfl (wanted_off rfl (show (opsKT p).toArray[36]? = some (oKT36 p) from rfl) rfl q36) ⟨_, rfl, rfl, Grew.refl _⟩
    · obtain rfl : oKT41 p = o := Option.some.inj ho
      obtain rfl : 138 = d := Option.some.inj hd
      have q36 : a'.tmps.getD 133 undef = .bool false := hp 36 (oKT36 p) 133 rfl rfl rfl
      exact step_off rfl (wanted_off rfl (show (opsKT p).toArray[36]? = some (oKT36 p) from rfl) rfl q36) ⟨_, rfl, rfl, Grew.refl _⟩
    · obtain rfl : oKT42 p = o := Option.some.inj ho
      obtain rfl : 139 = d := Option.some.inj hd
      have q36 : a'.tmps.getD 133 undef = .bool false := hp 36 (oKT36 p) 133 rfl rfl rfl
      exact step_off rfl (wanted_off rfl (show (opsKT p).toArray[36]? = some (oKT36 p) from rfl) rfl q36) ⟨_, rfl, rfl, Grew.refl _⟩
    · obtain rfl : oKT43 p = o := Option.some.inj ho
      obtain rfl : 140 = d := Option.some.inj hd
      have q36 : a'.tmps.getD 133 undef = .bool false := hp 36 (oKT36 p) 133 rfl rfl rfl
      exact step_off rfl (wanted_off rfl (show (opsKT p).toArray[36]? = some (oKT36 p) from rfl) rfl q36) ⟨_, rfl, rfl, Grew.refl _⟩
    · obtain rfl : oKT44 p = o := Option.some.inj ho
      obtain rfl : 141 = d := Option.some.inj hd
      have q36 : a'.tmps.getD 133 undef = .bool false := hp 36 (oKT36 p) 133 rfl rfl rfl
      exact step_off rfl (wanted_off rfl (show (opsKT p).toArray[36]? = some (oKT36 p) from rfl) rfl q36) ⟨_, rfl, rfl, Grew.refl _⟩
    · obtain rfl : oKT45 p = o := Option.some.inj ho
      obtain rfl : 142 = d := Option.some.inj hd
      have q36 : a'.tmps.getD 133 undef = .bool false := hp 36 (oKT36 p) 133 rfl rfl rfl
      exact step_off rfl (wanted_off rfl (show (opsKT p).toArray[36]? = some (oKT36 p) from rfl) rfl q36) ⟨_, rfl, rfl, Grew.refl _⟩
    · obtain rfl : oKT46 p = o := Option.some.inj ho
      obtain rfl : 143 = d := Option.some.inj hd
      have q36 : a'.tmps.getD 133 undef = .bool false := hp 36 (oKT36 p) 133 rfl rfl rfl
      exact step_off rfl (wanted_off rfl (show (opsKT p).toArray[36]? = some (oKT36 p) from rfl) rfl q36) ⟨_, rfl, rfl, Grew.refl _⟩
    · obtain rfl : oKT47 p = o := Option.some.inj ho
      obtain rfl : 144 = d := Option.some.inj hd
      have q36 : a'.tmps.getD 133 undef = .bool false := hp 36 (oKT36 p) 133 rfl rfl rfl
      exact step_off rfl (wanted_off rfl (show (opsKT p).toArray[36]? = some (oKT36 p) from rfl) rfl q36) ⟨_, rfl, rfl, Grew.refl _⟩
    · obtain rfl : oKT48 p = o := Option.some.inj ho
      obtain rfl : 145 = d := Option.some.inj hd
      have q36 : a'.tmps.getD 133 undef = .bool false := hp 36 (oKT36 p) 133 rfl rfl rfl
      exact step_off rfl (wanted_off rfl (show (opsKT p).toArray[36]? = some (oKT36 p) from rfl) rfl q36) ⟨_, rfl, rfl, Grew.refl _⟩
    · obtain rfl : oKT49 p = o := Option.some.inj ho
      obtain rfl : 146 = d := Option.some.inj hd
      have q33 : a'.tmps.getD 130 undef = .bool false := hp 33 (oKT33 p) 130 rfl rfl rfl
      have q36 : a'.tmps.getD 133 undef = .bool false := hp 36 (oKT36 p) 133 rfl rfl rfl
      exact step_pick rfl (wanted_on rfl (show (opsKT p).toArray[33]? = some (oKT33 p) from rfl) rfl q33) rfl q36 rfl ⟨_, rfl, rfl, Grew.refl _⟩
    · obtain rfl : oKT50 p = o := Option.some.inj ho
      obtain rfl : 147 = d := Option.some.inj hd
      have q7 : a'.tmps.getD 104 undef = .bool true := hp 7 (oKT7 p) 104 rfl rfl rfl
      have q33 : a'.tmps.getD 130 undef = .bool false := hp 33 (oKT33 p) 130 rfl rfl rfl
      have q49 : a'.tmps.getD 146 undef = .bool false := hp 49 (oKT49 p) 146 rfl rfl rfl
      exact step_pick rfl (wanted_on rfl (show (opsKT p).toArray[7]? = some (oKT7 p) from rfl) rfl q7) rfl q33 (show (if false = true then _ else a'.tmps.getD 146 undef) = _ from q49) ⟨_, rfl, rfl, Grew.refl _⟩
    · obtain rfl : oKT51 p = o := Option.some.inj ho
      obtain rfl : 148 = d := Option.some.inj hd
      have q7 : a'.tmps.getD 104 undef = .bool true := hp 7 (oKT7 p) 104 rfl rfl rfl
      have q50 : a'.tmps.getD 147 undef = .bool false := hp 50 (oKT50 p) 147 rfl rfl rfl
      exact step_move rfl (wanted_on rfl (show (opsKT p).toArray[7]? = some (oKT7 p) from rfl) rfl q7) rfl q50 ⟨_, rfl, rfl, Grew.refl _⟩
    · obtain rfl : oKT52 p = o := Option.some.inj ho
      obtain rfl : 149 = d := Option.some.inj hd
      have q51 : a'.tmps.getD 148 undef = .bool false := hp 51 (oKT51 p) 148 rfl rfl rfl
      exact step_move rfl (wanted_on rfl (show (opsKT p).toArray[51]? = some (oKT51 p) from rfl) rfl q51) rfl (hF.at 8 rfl h8) ⟨_, rfl, rfl, Grew.refl _⟩
    · obtain rfl : oKT53 p = o := Option.some.inj ho
      obtain rfl : 150 = d := Option.some.inj hd
      have q51 : a'.tmps.getD 148 undef = .bool false := hp 51 (oKT51 p) 148 rfl rfl rfl
      have q52 : a'.tmps.getD 149 undef = .int .i64 21 := hp 52 (oKT52 p) 149 rfl rfl rfl
      exact step_bin rfl (wanted_on rfl (show (opsKT p).toArray[51]? = some (oKT51 p) from rfl) rfl q51) rfl q52 rfl (guard_int _ _ _ _ _ _ _ _ _) ((run_eqi _ _ _ _ _).trans (by simp)) ⟨_, rfl, rfl, Grew.refl _⟩
    · obtain rfl : oKT54 p = o := Option.some.inj ho
      obtain rfl : 151 = d := Option.some.inj hd
      have q51 : a'.tmps.getD 148 undef = .bool false := hp 51 (oKT51 p) 148 rfl rfl rfl
      have q53 : a'.tmps.getD 150 undef = .bool true := hp 53 (oKT53 p) 150 rfl rfl rfl
      exact step_move rfl (wanted_on rfl (show (opsKT p).toArray[51]? = some (oKT51 p) from rfl) rfl q51) rfl q53 ⟨_, rfl, rfl, Grew.refl _⟩
    · obtain rfl : oKT55 p = o := Option.some.inj ho
      obtain rfl : 152 = d := Option.some.inj hd
      have q54 : a'.tmps.getD 151 undef = .bool true := hp 54 (oKT54 p) 151 rfl rfl rfl
      exact step_move rfl (wanted_on rfl (show (opsKT p).toArray[54]? = some (oKT54 p) from rfl) rfl q54) rfl (hF.at 3 rfl h3) ⟨_, rfl, rfl, Grew.refl _⟩
    · obtain rfl : oKT56 p = o := Option.some.inj ho
      obtain rfl : 153 = d := Option.some.inj hd
      have q54 : a'.tmps.getD 151 undef = .bool true := hp 54 (oKT54 p) 151 rfl rfl rfl
      have q55 : a'.tmps.getD 152 undef = .pointer (some ⟨R, 0, none⟩) := hp 55 (oKT55 p) 152 rfl rfl rfl
      refine step_callP rfl (wanted_on rfl (show (opsKT p).toArray[54]? = some (oKT54 p) from rfl) rfl q54) rfl (enters_of Try.func8 (by kernel_rfl) rfl) (show Array.map a'.eval #[.tmp 152] = _ from by simp only [List.map_toArray, List.map_cons, List.map_nil, Act.eval, q55]) ((LiveD.isdead (hl.grew hR.undraw)).mono ?_)
      rintro e w'' ⟨rfl, _, hb⟩
      exact ⟨_, rfl, _, rfl, by rw [hdd]; rfl, hb⟩
    · obtain rfl : oKT57 p = o := Option.some.inj ho
      obtain rfl : 154 = d := Option.some.inj hd
      have q54 : a'.tmps.getD 151 undef = .bool true := hp 54 (oKT54 p) 151 rfl rfl rfl
      have q56 : a'.tmps.getD 153 undef = .bool true := hp 56 (oKT56 p) 153 rfl rfl rfl
      exact step_un rfl (wanted_on rfl (show (opsKT p).toArray[54]? = some (oKT54 p) from rfl) rfl q54) rfl q56 (run_not _ _) ⟨_, rfl, rfl, Grew.refl _⟩
    · obtain rfl : oKT58 p = o := Option.some.inj ho
      obtain rfl : 155 = d := Option.some.inj hd
      have q51 : a'.tmps.getD 148 undef = .bool false := hp 51 (oKT51 p) 148 rfl rfl rfl
      have q54 : a'.tmps.getD 151 undef = .bool true := hp 54 (oKT54 p) 151 rfl rfl rfl
      have q57 : a'.tmps.getD 154 undef = .bool false := hp 57 (oKT57 p) 154 rfl rfl rfl
      exact step_pick rfl (wanted_on rfl (show (opsKT p).toArray[51]? = some (oKT51 p) from rfl) rfl q51) rfl q54 (show (if true = true then a'.tmps.getD 154 undef else _) = _ from q57) ⟨_, rfl, rfl, Grew.refl _⟩
    · obtain rfl : oKT59 p = o := Option.some.inj ho
      obtain rfl : 156 = d := Option.some.inj hd
      have q7 : a'.tmps.getD 104 undef = .bool true := hp 7 (oKT7 p) 104 rfl rfl rfl
      have q51 : a'.tmps.getD 148 undef = .bool false := hp 51 (oKT51 p) 148 rfl rfl rfl
      have q58 : a'.tmps.getD 155 undef = .bool false := hp 58 (oKT58 p) 155 rfl rfl rfl
      exact step_pick rfl (wanted_on rfl (show (opsKT p).toArray[7]? = some (oKT7 p) from rfl) rfl q7) rfl q51 (show (if false = true then _ else a'.tmps.getD 155 undef) = _ from q58) ⟨_, rfl, rfl, Grew.refl _⟩
    · obtain rfl : oKT60 p = o := Option.some.inj ho
      obtain rfl : 157 = d := Option.some.inj hd
      have q7 : a'.tmps.getD 104 undef = .bool true := hp 7 (oKT7 p) 104 rfl rfl rfl
      have q59 : a'.tmps.getD 156 undef = .bool false := hp 59 (oKT59 p) 156 rfl rfl rfl
      exact step_pick rfl rfl rfl q7 (show (if true = true then a'.tmps.getD 156 undef else _) = _ from q59) ⟨_, rfl, rfl, Grew.refl _⟩
    · exact absurd ((Array.getElem?_eq_some_iff.1 ho).1) (by simp [opsKT])
  · intro a' w' hF hR hp
    have e0 : psiKT P w0 R t lb lo Ln lc k d q Nn Bb x AB LB cB m b 0 (a'.tmps.getD 97 undef) w' := hp 0 (oKT0 p) 97 rfl rfl
    have e1 : psiKT P w0 R t lb lo Ln lc k d q Nn Bb x AB LB cB m b 1 (a'.tmps.getD 98 undef) w' := hp 1 (oKT1 p) 98 rfl rfl
    have e2 : psiKT P w0 R t lb lo Ln lc k d q Nn Bb x AB LB cB m b 2 (a'.tmps.getD 99 undef) w' := hp 2 (oKT2 p) 99 rfl rfl
    have e3 : psiKT P w0 R t lb lo Ln lc k d q Nn Bb x AB LB cB m b 3 (a'.tmps.getD 100 undef) w' := hp 3 (oKT3 p) 100 rfl rfl
    have e4 : psiKT P w0 R t lb lo Ln lc k d q Nn Bb x AB LB cB m b 4 (a'.tmps.getD 101 undef) w' := hp 4 (oKT4 p) 101 rfl rfl
    have e5 : psiKT P w0 R t lb lo Ln lc k d q Nn Bb x AB LB cB m b 5 (a'.tmps.getD 102 undef) w' := hp 5 (oKT5 p) 102 rfl rfl
    have e6 : psiKT P w0 R t lb lo Ln lc k d q Nn Bb x AB LB cB m b 6 (a'.tmps.getD 103 undef) w' := hp 6 (oKT6 p) 103 rfl rfl
    have e7 : psiKT P w0 R t lb lo Ln lc k d q Nn Bb x AB LB cB m b 7 (a'.tmps.getD 104 undef) w' := hp 7 (oKT7 p) 104 rfl rfl
    have e8 : psiKT P w0 R t lb lo Ln lc k d q Nn Bb x AB LB cB m b 8 (a'.tmps.getD 105 undef) w' := hp 8 (oKT8 p) 105 rfl rfl
    have e9 : psiKT P w0 R t lb lo Ln lc k d q Nn Bb x AB LB cB m b 9 (a'.tmps.getD 106 undef) w' := hp 9 (oKT9 p) 106 rfl rfl
    have e10 : psiKT P w0 R t lb lo Ln lc k d q Nn Bb x AB LB cB m b 10 (a'.tmps.getD 107 undef) w' := hp 10 (oKT10 p) 107 rfl rfl
    have e11 : psiKT P w0 R t lb lo Ln lc k d q Nn Bb x AB LB cB m b 11 (a'.tmps.getD 108 undef) w' := hp 11 (oKT11 p) 108 rfl rfl
    have e12 : psiKT P w0 R t lb lo Ln lc k d q Nn Bb x AB LB cB m b 12 (a'.tmps.getD 109 undef) w' := hp 12 (oKT12 p) 109 rfl rfl
    have e13 : psiKT P w0 R t lb lo Ln lc k d q Nn Bb x AB LB cB m b 13 (a'.tmps.getD 110 undef) w' := hp 13 (oKT13 p) 110 rfl rfl
    have e14 : psiKT P w0 R t lb lo Ln lc k d q Nn Bb x AB LB cB m b 14 (a'.tmps.getD 111 undef) w' := hp 14 (oKT14 p) 111 rfl rfl
    have e15 : psiKT P w0 R t lb lo Ln lc k d q Nn Bb x AB LB cB m b 15 (a'.tmps.getD 112 undef) w' := hp 15 (oKT15 p) 112 rfl rfl
    have e16 : psiKT P w0 R t lb lo Ln lc k d q Nn Bb x AB LB cB m b 16 (a'.tmps.getD 113 undef) w' := hp 16 (oKT16 p) 113 rfl rfl
    have e17 : psiKT P w0 R t lb lo Ln lc k d q Nn Bb x AB LB cB m b 17 (a'.tmps.getD 114 undef) w' := hp 17 (oKT17 p) 114 rfl rfl
    have e18 : psiKT P w0 R t lb lo Ln lc k d q Nn Bb x AB LB cB m b 18 (a'.tmps.getD 115 undef) w' := hp 18 (oKT18 p) 115 rfl rfl
    have e19 : psiKT P w0 R t lb lo Ln lc k d q Nn Bb x AB LB cB m b 19 (a'.tmps.getD 116 undef) w' := hp 19 (oKT19 p) 116 rfl rfl
    have e20 : psiKT P w0 R t lb lo Ln lc k d q Nn Bb x AB LB cB m b 20 (a'.tmps.getD 117 undef) w' := hp 20 (oKT20 p) 117 rfl rfl
    have e21 : psiKT P w0 R t lb lo Ln lc k d q Nn Bb x AB LB cB m b 21 (a'.tmps.getD 118 undef) w' := hp 21 (oKT21 p) 118 rfl rfl
    have e22 : psiKT P w0 R t lb lo Ln lc k d q Nn Bb x AB LB cB m b 22 (a'.tmps.getD 119 undef) w' := hp 22 (oKT22 p) 119 rfl rfl
    have e23 : psiKT P w0 R t lb lo Ln lc k d q Nn Bb x AB LB cB m b 23 (a'.tmps.getD 120 undef) w' := hp 23 (oKT23 p) 120 rfl rfl
    have e24 : psiKT P w0 R t lb lo Ln lc k d q Nn Bb x AB LB cB m b 24 (a'.tmps.getD 121 undef) w' := hp 24 (oKT24 p) 121 rfl rfl
    have e25 : psiKT P w0 R t lb lo Ln lc k d q Nn Bb x AB LB cB m b 25 (a'.tmps.getD 122 undef) w' := hp 25 (oKT25 p) 122 rfl rfl
    have e26 : psiKT P w0 R t lb lo Ln lc k d q Nn Bb x AB LB cB m b 26 (a'.tmps.getD 123 undef) w' := hp 26 (oKT26 p) 123 rfl rfl
    have e27 : psiKT P w0 R t lb lo Ln lc k d q Nn Bb x AB LB cB m b 27 (a'.tmps.getD 124 undef) w' := hp 27 (oKT27 p) 124 rfl rfl
    have e28 : psiKT P w0 R t lb lo Ln lc k d q Nn Bb x AB LB cB m b 28 (a'.tmps.getD 125 undef) w' := hp 28 (oKT28 p) 125 rfl rfl
    have e29 : psiKT P w0 R t lb lo Ln lc k d q Nn Bb x AB LB cB m b 29 (a'.tmps.getD 126 undef) w' := hp 29 (oKT29 p) 126 rfl rfl
    have e30 : psiKT P w0 R t lb lo Ln lc k d q Nn Bb x AB LB cB m b 30 (a'.tmps.getD 127 undef) w' := hp 30 (oKT30 p) 127 rfl rfl
    have e31 : psiKT P w0 R t lb lo Ln lc k d q Nn Bb x AB LB cB m b 31 (a'.tmps.getD 128 undef) w' := hp 31 (oKT31 p) 128 rfl rfl
    have e32 : psiKT P w0 R t lb lo Ln lc k d q Nn Bb x AB LB cB m b 32 (a'.tmps.getD 129 undef) w' := hp 32 (oKT32 p) 129 rfl rfl
    have e33 : psiKT P w0 R t lb lo Ln lc k d q Nn Bb x AB LB cB m b 33 (a'.tmps.getD 130 undef) w' := hp 33 (oKT33 p) 130 rfl rfl
    have e34 : psiKT P w0 R t lb lo Ln lc k d q Nn Bb x AB LB cB m b 34 (a'.tmps.getD 131 undef) w' := hp 34 (oKT34 p) 131 rfl rfl
    have e35 : psiKT P w0 R t lb lo Ln lc k d q Nn Bb x AB LB cB m b 35 (a'.tmps.getD 132 undef) w' := hp 35 (oKT35 p) 132 rfl rfl
    have e36 : psiKT P w0 R t lb lo Ln lc k d q Nn Bb x AB LB cB m b 36 (a'.tmps.getD 133 undef) w' := hp 36 (oKT36 p) 133 rfl rfl
    have e37 : psiKT P w0 R t lb lo Ln lc k d q Nn Bb x AB LB cB m b 37 (a'.tmps.getD 134 undef) w' := hp 37 (oKT37 p) 134 rfl rfl
    have e38 : psiKT P w0 R t lb lo Ln lc k d q Nn Bb x AB LB cB m b 38 (a'.tmps.getD 135 undef) w' := hp 38 (oKT38 p) 135 rfl rfl
    have e39 : psiKT P w0 R t lb lo Ln lc k d q Nn Bb x AB LB cB m b 39 (a'.tmps.getD 136 undef) w' := hp 39 (oKT39 p) 136 rfl rfl
    have e40 : psiKT P w0 R t lb lo Ln lc k d q Nn Bb x AB LB cB m b 40 (a'.tmps.getD 137 undef) w' := hp 40 (oKT40 p) 137 rfl rfl
    have e41 : psiKT P w0 R t lb lo Ln lc k d q Nn Bb x AB LB cB m b 41 (a'.tmps.getD 138 undef) w' := hp 41 (oKT41 p) 138 rfl rfl
    have e42 : psiKT P w0 R t lb lo Ln lc k d q Nn Bb x AB LB cB m b 42 (a'.tmps.getD 139 undef) w' := hp 42 (oKT42 p) 139 rfl rfl
    have e43 : psiKT P w0 R t lb lo Ln lc k d q Nn Bb x AB LB cB m b 43 (a'.tmps.getD 140 undef) w' := hp 43 (oKT43 p) 140 rfl rfl
    have e44 : psiKT P w0 R t lb lo Ln lc k d q Nn Bb x AB LB cB m b 44 (a'.tmps.getD 141 undef) w' := hp 44 (oKT44 p) 141 rfl rfl
    have e45 : psiKT P w0 R t lb lo Ln lc k d q Nn Bb x AB LB cB m b 45 (a'.tmps.getD 142 undef) w' := hp 45 (oKT45 p) 142 rfl rfl
    have e46 : psiKT P w0 R t lb lo Ln lc k d q Nn Bb x AB LB cB m b 46 (a'.tmps.getD 143 undef) w' := hp 46 (oKT46 p) 143 rfl rfl
    have e47 : psiKT P w0 R t lb lo Ln lc k d q Nn Bb x AB LB cB m b 47 (a'.tmps.getD 144 undef) w' := hp 47 (oKT47 p) 144 rfl rfl
    have e48 : psiKT P w0 R t lb lo Ln lc k d q Nn Bb x AB LB cB m b 48 (a'.tmps.getD 145 undef) w' := hp 48 (oKT48 p) 145 rfl rfl
    have e49 : psiKT P w0 R t lb lo Ln lc k d q Nn Bb x AB LB cB m b 49 (a'.tmps.getD 146 undef) w' := hp 49 (oKT49 p) 146 rfl rfl
    have e50 : psiKT P w0 R t lb lo Ln lc k d q Nn Bb x AB LB cB m b 50 (a'.tmps.getD 147 undef) w' := hp 50 (oKT50 p) 147 rfl rfl
    have e51 : psiKT P w0 R t lb lo Ln lc k d q Nn Bb x AB LB cB m b 51 (a'.tmps.getD 148 undef) w' := hp 51 (oKT51 p) 148 rfl rfl
    have e52 : psiKT P w0 R t lb lo Ln lc k d q Nn Bb x AB LB cB m b 52 (a'.tmps.getD 149 undef) w' := hp 52 (oKT52 p) 149 rfl rfl
    have e53 : psiKT P w0 R t lb lo Ln lc k d q Nn Bb x AB LB cB m b 53 (a'.tmps.getD 150 undef) w' := hp 53 (oKT53 p) 150 rfl rfl
    have e54 : psiKT P w0 R t lb lo Ln lc k d q Nn Bb x AB LB cB m b 54 (a'.tmps.getD 151 undef) w' := hp 54 (oKT54 p) 151 rfl rfl
    have e55 : psiKT P w0 R t lb lo Ln lc k d q Nn Bb x AB LB cB m b 55 (a'.tmps.getD 152 undef) w' := hp 55 (oKT55 p) 152 rfl rfl
    have e56 : psiKT P w0 R t lb lo Ln lc k d q Nn Bb x AB LB cB m b 56 (a'.tmps.getD 153 undef) w' := hp 56 (oKT56 p) 153 rfl rfl
    have e57 : psiKT P w0 R t lb lo Ln lc k d q Nn Bb x AB LB cB m b 57 (a'.tmps.getD 154 undef) w' := hp 57 (oKT57 p) 154 rfl rfl
    have e58 : psiKT P w0 R t lb lo Ln lc k d q Nn Bb x AB LB cB m b 58 (a'.tmps.getD 155 undef) w' := hp 58 (oKT58 p) 155 rfl rfl
    have e59 : psiKT P w0 R t lb lo Ln lc k d q Nn Bb x AB LB cB m b 59 (a'.tmps.getD 156 undef) w' := hp 59 (oKT59 p) 156 rfl rfl
    have e60 : psiKT P w0 R t lb lo Ln lc k d q Nn Bb x AB LB cB m b 60 (a'.tmps.getD 157 undef) w' := hp 60 (oKT60 p) 157 rfl rfl
    rw [hF.puts [(97, .slice (some ⟨lb, lo, none⟩) Ln lc), (98, .int .i64 (k : Int)), (99, .pointer (some ⟨lb, lo + k * 3, none⟩)), (100, .pointer (some ⟨lb, lo + k * 3, none⟩)), (101, .int .u8 (d : Int)), (102, .int .u8 (q : Int)), (103, .bool true), (104, .bool true), (105, .bool true), (106, .bool false), (107, .bool false), (108, .int .i64 21), (109, .bool true), (110, .bool true), (111, .string (str Nn)), (112, .string (str Bb)), (113, .int .i64 (Bb.length : Int)), (114, .string (str (Nn.drop Bb.length))), (115, .slice (some ⟨lb, lo, none⟩) Ln lc), (116, .int .i64 (k : Int)), (117, .pointer (some ⟨lb, lo + k * 3, none⟩)), (118, .pointer (some ⟨lb, lo + k * 3 + 2, none⟩)), (119, .slice AB LB cB), (120, .string (str Nn)), (121, .int .i64 (Nn.length : Int)), (122, .string (str Bb)), (123, .int .i64 (Bb.length : Int)), (124, .int .i64 (m : Int)), (125, .slice AB m cB), (126, .string (str (x.take m))), (127, .bool false), (128, .bool false), (129, .bool false), (130, .bool false), (131, .int .i64 21), (132, .bool false), (133, .bool false), (134, undef), (135, undef), (136, undef), (137, undef), (138, undef), (139, undef), (140, undef), (141, undef), (142, undef), (143, undef), (144, undef), (145, undef), (146, .bool false), (147, .bool false), (148, .bool false), (149, .int .i64 21), (150, .bool true), (151, .bool true), (152, .pointer (some ⟨R, 0, none⟩)), (153, .bool true), (154, .bool false), (155, .bool false), (156, .bool false), (157, .bool false)] ?_ rfl (by rw [hN]; rfl)]
    · exact hQ  w'  hR.undraw
    · intro x hx
      simp only [List.mem_cons, List.not_mem_nil, or_false] at hx
      rcases hx with rfl | rfl | rfl | rfl | rfl | rfl | rfl | rfl | rfl | rfl | rfl | rfl | rfl | rfl | rfl | rfl | rfl | rfl | rfl | rfl | rfl | rfl | rfl | rfl | rfl | rfl | rfl | rfl | rfl | rfl | rfl | rfl | rfl | rfl | rfl | rfl | rfl | rfl | rfl | rfl | rfl | rfl | rfl | rfl | rfl | rfl | rfl | rfl | rfl | rfl | rfl | rfl | rfl | rfl | rfl | rfl | rfl | rfl | rfl | rfl | rfl
      · exact e0
      · exact e1
      · exact e2
      · exact e3
      · exact e4
      · exact e5
      · exact e6
      · exact e7
      · exact e8
      · exact e9
      · exact e10
      · exact e11
      · exact e12
      · exact e13
      · exact e14
      · exact e15
      · exact e16
      · exact e17
      · exact e18
      · exact e19
      · exact e20
      · exact e21
      · exact e22
      · exact e23
      · exact e24
      · exact e25
      · exact e26
      · exact e27
      · exact e28
      · exact e29
      · exact e30
      · exact e31
      · exact e32
      · exact e33
      · exact e34
      · exact e35
      · exact e36
      · exact e37
      · exact e38
      · exact e39
      · exact e40
      · exact e41
      · exact e42
      · exact e43
      · exact e44
      · exact e45
      · exact e46
      · exact e47
      · exact e48
      · exact e49
      · exact e50
      · exact e51
      · exact e52
      · exact e53
      · exact e54
      · exact e55
      · exact e56
      · exact e57
      · exact e58
      · exact e59
      · exact e60
end Go.Proofs.Yteiednjhliobeaa
