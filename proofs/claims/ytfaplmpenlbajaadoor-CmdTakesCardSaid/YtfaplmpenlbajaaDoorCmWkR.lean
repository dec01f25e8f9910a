/- The law's wakes: the statement that holds all, whatever its order of evaluation. -/
import Derived.Test.YtfaplmpenlbajaaDoorCmBatch
import Derived.Test.YtfaplmpenlbajaaDoorCmAllR
namespace Go.Proofs.YtfaplmpenlbajaaDoor
open Go.RowKit

theorem run_eqS (w : World) (t : TypeId) (x : ByteArray) : (binOp .eql t (.string x) (.string x)).run Tryd.prog w = .ok (.bool true) w := by
  simp [go_sem]
/-- The command of nothing. -/
def zC : CmdV := ⟨0, 0, 0, none, 0, 0, [], ⟨#[]⟩, ⟨#[]⟩, 0⟩
theorem zC_ok (w : World) : zC.ok w := ⟨by decide, by decide, by decide, by decide, rfl, by decide, fun h => absurd rfl h, fun k hk => (by cases hk), by decide, by decide⟩
theorem zC_short : zC.m.Short := ⟨by decide, fun k hk => (by cases hk), by decide, by decide⟩
theorem zC_may : ¬ (zC.m.may = true) := fun h => by have := (CM.may_iff.1 h).cl; revert this; decide
theorem run_zeroC (w : World) : (Instr.build 26 #[]).run Tryd.prog w = .ok zC.val w := by
  simp [go_sem, Instr.build, zC, CmdV.val, CmdV.cells]
section
variable {n : Nat} {Q : Exit → Act → World → Prop} {ops : Array Oper} {i : Nat} {o : Oper} {a : Act} {w : World} {K : Act → World → Prop}
theorem step_zero (hi : ops[i]? = some o) (hw : Region.wanted o (yielded ops a.tmps) = true) (ho : o.op = .build 26 #[]) (h : K (a.put o.dst zC.val) w) : wpOpIn Fence.wide n Tryd.prog ops Q i K a w :=
  step_run hi hw (by rw [ho]; intro c h; cases h) (by simp [Oper.about, ho]) (by simp [execOp, ho, run_zeroC]) h
end
def oWK0 (p : String) : Oper := { dst := some 19, op := Op.load 26 (Operand.tmp 1), type := 26, pos := p, after := #[], guard := none }
def oWK1 (p : String) : Oper := { dst := some 20, op := Op.call { callee := Callee.value (Operand.func 10), args := #[Operand.tmp 19], argTypes := #[26] }, type := 30, pos := p, after := #[{ on := 0, ground := Ground.data }], guard := none }
def oWK2 (p : String) : Oper := { dst := some 21, op := Op.binOp BinOp.eql 30 (Operand.tmp 20) (Operand.const (Value.int IntKind.i64 0)) 30, type := 4, pos := p, after := #[{ on := 1, ground := Ground.data }], guard := none }
def oWK3 (p : String) : Oper := { dst := some 22, op := Op.move (Operand.tmp 21), type := 4, pos := p, after := #[{ on := 2, ground := Ground.data }, { on := 1, ground := Ground.chain }], guard := none }
def oWK4 (p : String) : Oper := { dst := some 23, op := Op.move (Operand.tmp 3), type := 30, pos := p, after := #[{ on := 3, ground := Ground.guard }], guard := some (3, true) }
def oWK5 (p : String) : Oper := { dst := some 24, op := Op.binOp BinOp.eql 30 (Operand.tmp 23) (Operand.const (Value.int IntKind.i64 0)) 30, type := 4, pos := p, after := #[{ on := 4, ground := Ground.data }, { on := 3, ground := Ground.guard }], guard := some (3, true) }
def oWK6 (p : String) : Oper := { dst := some 25, op := Op.pick (Operand.tmp 22) (Operand.tmp 24) (Operand.const (Value.bool false)), type := 4, pos := p, after := #[{ on := 3, ground := Ground.data }, { on := 5, ground := Ground.data }], guard := none }
def oWK7 (p : String) : Oper := { dst := some 26, op := Op.move (Operand.tmp 25), type := 4, pos := p, after := #[{ on := 6, ground := Ground.data }, { on := 3, ground := Ground.chain }], guard := none }
def oWK8 (p : String) : Oper := { dst := some 27, op := Op.move (Operand.tmp 2), type := 29, pos := p, after := #[{ on := 7, ground := Ground.guard }], guard := some (7, true) }
def oWK9 (p : String) : Oper := { dst := some 28, op := Op.convert 29 9 (Operand.tmp 27), type := 9, pos := p, after := #[{ on := 8, ground := Ground.data }, { on := 7, ground := Ground.guard }], guard := some (7, true) }
def oWK10 (p : String) : Oper := { dst := some 29, op := Op.binOp BinOp.eql 9 (Operand.tmp 28) (Operand.const (Value.string { data := #[1, 1, 1, 1, 1, 1, 107, 0, 1, 120, 0] })) 9, type := 4, pos := p, after := #[{ on := 9, ground := Ground.data }, { on := 7, ground := Ground.guard }], guard := some (7, true) }
def oWK11 (p : String) : Oper := { dst := some 30, op := Op.pick (Operand.tmp 26) (Operand.tmp 29) (Operand.const (Value.bool false)), type := 4, pos := p, after := #[{ on := 7, ground := Ground.data }, { on := 10, ground := Ground.data }], guard := none }
def oWK12 (p : String) : Oper := { dst := some 31, op := Op.move (Operand.tmp 30), type := 4, pos := p, after := #[{ on := 11, ground := Ground.data }, { on := 7, ground := Ground.chain }], guard := none }
def oWK13 (p : String) : Oper := { dst := some 32, op := Op.move (Operand.tmp 5), type := 30, pos := p, after := #[{ on := 12, ground := Ground.guard }], guard := some (12, true) }
def oWK14 (p : String) : Oper := { dst := some 33, op := Op.binOp BinOp.eql 30 (Operand.tmp 32) (Operand.const (Value.int IntKind.i64 0)) 30, type := 4, pos := p, after := #[{ on := 13, ground := Ground.data }, { on := 12, ground := Ground.guard }], guard := some (12, true) }
def oWK15 (p : String) : Oper := { dst := some 34, op := Op.pick (Operand.tmp 31) (Operand.tmp 33) (Operand.const (Value.bool false)), type := 4, pos := p, after := #[{ on := 12, ground := Ground.data }, { on := 14, ground := Ground.data }], guard := none }
def oWK16 (p : String) : Oper := { dst := some 35, op := Op.move (Operand.tmp 34), type := 4, pos := p, after := #[{ on := 15, ground := Ground.data }, { on := 12, ground := Ground.chain }], guard := none }
def oWK17 (p : String) : Oper := { dst := some 36, op := Op.move (Operand.tmp 4), type := 22, pos := p, after := #[{ on := 16, ground := Ground.guard }], guard := some (16, true) }
def oWK18 (p : String) : Oper := { dst := some 37, op := Op.call { callee := Callee.builtin Builtin.len, args := #[Operand.tmp 36], argTypes := #[22] }, type := 3, pos := p, after := #[{ on := 17, ground := Ground.data }, { on := 16, ground := Ground.guard }], guard := some (16, true) }
def oWK19 (p : String) : Oper := { dst := some 38, op := Op.binOp BinOp.eql 3 (Operand.tmp 37) (Operand.const (Value.int IntKind.i64 1)) 3, type := 4, pos := p, after := #[{ on := 18, ground := Ground.data }, { on := 16, ground := Ground.guard }], guard := some (16, true) }
def oWK20 (p : String) : Oper := { dst := some 39, op := Op.pick (Operand.tmp 35) (Operand.tmp 38) (Operand.const (Value.bool false)), type := 4, pos := p, after := #[{ on := 16, ground := Ground.data }, { on := 19, ground := Ground.data }], guard := none }
def oWK21 (p : String) : Oper := { dst := some 40, op := Op.move (Operand.tmp 39), type := 4, pos := p, after := #[{ on := 20, ground := Ground.data }, { on := 16, ground := Ground.chain }], guard := none }
def oWK22 (p : String) : Oper := { dst := some 41, op := Op.move (Operand.tmp 4), type := 22, pos := p, after := #[{ on := 21, ground := Ground.guard }], guard := some (21, true) }
def oWK23 (p : String) : Oper := { dst := some 42, op := Op.indexAddr 22 (Operand.tmp 41) (Operand.const (Value.int IntKind.i64 0)), type := 0, pos := p, after := #[{ on := 22, ground := Ground.data }, { on := 21, ground := Ground.guard }], guard := some (21, true) }
def oWK24 (p : String) : Oper := { dst := some 43, op := Op.load 26 (Operand.tmp 42), type := 26, pos := p, after := #[{ on := 23, ground := Ground.data }, { on := 21, ground := Ground.guard }], guard := some (21, true) }
def oWK25 (p : String) : Oper := { dst := some 44, op := Op.load 26 (Operand.tmp 1), type := 26, pos := p, after := #[{ on := 21, ground := Ground.guard }], guard := some (21, true) }
def oWK26 (p : String) : Oper := { dst := some 45, op := Op.call { callee := Callee.value (Operand.func 15), args := #[Operand.tmp 43, Operand.tmp 44], argTypes := #[26, 26] }, type := 4, pos := p, after := #[{ on := 24, ground := Ground.data }, { on := 25, ground := Ground.data }, { on := 21, ground := Ground.chain }, { on := 21, ground := Ground.guard }], guard := some (21, true) }
def oWK27 (p : String) : Oper := { dst := some 46, op := Op.pick (Operand.tmp 40) (Operand.tmp 45) (Operand.const (Value.bool false)), type := 4, pos := p, after := #[{ on := 21, ground := Ground.data }, { on := 26, ground := Ground.data }], guard := none }
def oWK28 (p : String) : Oper := { dst := some 47, op := Op.move (Operand.tmp 46), type := 4, pos := p, after := #[{ on := 27, ground := Ground.data }, { on := 26, ground := Ground.chain }], guard := none }
def oWK29 (p : String) : Oper := { dst := some 48, op := Op.build 26 #[], type := 26, pos := p, after := #[{ on := 28, ground := Ground.guard }], guard := some (28, true) }
def oWK30 (p : String) : Oper := { dst := some 49, op := Op.call { callee := Callee.value (Operand.func 10), args := #[Operand.tmp 48], argTypes := #[26] }, type := 30, pos := p, after := #[{ on := 29, ground := Ground.data }, { on := 28, ground := Ground.chain }, { on := 28, ground := Ground.guard }], guard := some (28, true) }
def oWK31 (p : String) : Oper := { dst := some 50, op := Op.binOp BinOp.eql 30 (Operand.tmp 49) (Operand.const (Value.int IntKind.i64 1)) 30, type := 4, pos := p, after := #[{ on := 30, ground := Ground.data }, { on := 28, ground := Ground.guard }], guard := some (28, true) }
def oWK32 (p : String) : Oper := { dst := some 51, op := Op.pick (Operand.tmp 47) (Operand.tmp 50) (Operand.const (Value.bool false)), type := 4, pos := p, after := #[{ on := 28, ground := Ground.data }, { on := 31, ground := Ground.data }], guard := none }
def oWK33 (p : String) : Oper := { dst := some 0, op := Op.assign (Operand.tmp 51), type := 4, pos := p, after := #[{ on := 32, ground := Ground.data }, { on := 30, ground := Ground.chain }, { on := 0, ground := Ground.phase }, { on := 1, ground := Ground.phase }, { on := 2, ground := Ground.phase }, { on := 3, ground := Ground.phase }, { on := 4, ground := Ground.phase }, { on := 5, ground := Ground.phase }, { on := 6, ground := Ground.phase }, { on := 7, ground := Ground.phase }, { on := 8, ground := Ground.phase }, { on := 9, ground := Ground.phase }, { on := 10, ground := Ground.phase }, { on := 11, ground := Ground.phase }, { on := 12, ground := Ground.phase }, { on := 13, ground := Ground.phase }, { on := 14, ground := Ground.phase }, { on := 15, ground := Ground.phase }, { on := 16, ground := Ground.phase }, { on := 17, ground := Ground.phase }, { on := 18, ground := Ground.phase }, { on := 19, ground := Ground.phase }, { on := 20, ground := Ground.phase }, { on := 21, ground := Ground.phase }, { on := 22, ground := Ground.phase }, { on := 23, ground := Ground.phase }, { on := 24, ground := Ground.phase }, { on := 25, ground := Ground.phase }, { on := 26, ground := Ground.phase }, { on := 27, ground := Ground.phase }, { on := 28, ground := Ground.phase }, { on := 29, ground := Ground.phase }, { on := 30, ground := Ground.phase }, { on := 31, ground := Ground.phase }, { on := 32, ground := Ground.phase }], guard := none }
def opsWK (p : String) : List Oper := [oWK0 p, oWK1 p, oWK2 p, oWK3 p, oWK4 p, oWK5 p, oWK6 p, oWK7 p, oWK8 p, oWK9 p, oWK10 p, oWK11 p, oWK12 p, oWK13 p, oWK14 p, oWK15 p, oWK16 p, oWK17 p, oWK18 p, oWK19 p, oWK20 p, oWK21 p, oWK22 p, oWK23 p, oWK24 p, oWK25 p, oWK26 p, oWK27 p, oWK28 p, oWK29 p, oWK30 p, oWK31 p, oWK32 p, oWK33 p]
theorem opsWK_back (p : String) : backwards (opsWK p) = true := by kernel_rfl
theorem opsWK_slots (p : String) : slotsOk 52 (opsWK p) = true := by kernel_rfl
/-- What each slot comes to. -/
def psiWK (T : World → Prop) (_K : CmdK T) (V x : CmdV) (_pc b1 o1 c1 : Nat) (A2 : Option Addr) (L2 c2 : Nat) (X : List UInt8) : Nat → Value → World → Prop
  | 0, v, _ => v = V.val
  | 1, v, _ => v = .int .i64 0
  | 2, v, _ => v = .bool true
  | 3, v, _ => v = .bool true
  | 4, v, _ => v = .int .i64 0
  | 5, v, _ => v = .bool true
  | 6, v, _ => v = .bool true
  | 7, v, _ => v = .bool true
  | 8, v, _ => v = .slice A2 L2 c2
  | 9, v, _ => v = .string (str X)
  | 10, v, _ => v = .bool true
  | 11, v, _ => v = .bool true
  | 12, v, _ => v = .bool true
  | 13, v, _ => v = .int .i64 0
  | 14, v, _ => v = .bool true
  | 15, v, _ => v = .bool true
  | 16, v, _ => v = .bool true
  | 17, v, _ => v = .slice (some ⟨b1, o1, none⟩) 1 c1
  | 18, v, _ => v = .int .i64 ((1 : Nat) : Int)
  | 19, v, _ => v = .bool true
  | 20, v, _ => v = .bool true
  | 21, v, _ => v = .bool true
  | 22, v, _ => v = .slice (some ⟨b1, o1, none⟩) 1 c1
  | 23, v, _ => v = .pointer (some ⟨b1, o1 + 0 * 7, none⟩)
  | 24, v, _ => v = x.val
  | 25, v, _ => v = V.val
  | 26, v, _ => v = .bool true
  | 27, v, _ => v = .bool true
  | 28, v, _ => v = .bool true
  | 29, v, _ => v = zC.val
  | 30, v, _ => v = .int .i64 1
  | 31, v, _ => v = .bool true
  | 32, v, _ => v = .bool true
  | 33, v, _ => v = .bool true
  | _, _, _ => True
theorem psiWK_grew (T : World → Prop) (K : CmdK T) (V x : CmdV) (pc b1 o1 c1 : Nat) (A2 : Option Addr) (L2 c2 : Nat) (X : List UInt8) : ∀ i v w w', psiWK T K V x pc b1 o1 c1 A2 L2 c2 X i v w → Grew w w' → psiWK T K V x pc b1 o1 c1 A2 L2 c2 X i v w' := by
  intro i v w w' h hg
  rcases i with _ | _ | _ | _ | _ | _ | _ | _ | _ | _ | _ | _ | _ | _ | _ | _ | _ | _ | _ | _ | _ | _ | _ | _ | _ | _ | _ | _ | _ | _ | _ | _ | _ | _ | i
  · exact h
  · exact h
  · exact h
  · exact h
  · exact h
  · exact h
  · exact h
  · exact h
  · exact h
  · exact h
  · exact h
  · exact h
  · exact h
  · exact h
  · exact h
  · exact h
  · exact h
  · exact h
  · exact h
  · exact h
  · exact h
  · exact h
  · exact h
  · exact h
  · exact h
  · exact h
  · exact h
  · exact h
  · exact h
  · exact h
  · exact h
  · exact h
  · exact h
  · exact h
  · trivial
set_option maxRecDepth 100000 in
set_option maxHeartbeats 4000000 in
theorem wakes_region {p : String} (T : World → Prop) (K : CmdK T) (V x : CmdV) (pc b1 o1 c1 : Nat) (A2 : Option Addr) (L2 c2 : Nat) (X : List UInt8) (hm : V.m.may = true) (hsh : V.m.Short) (hsame : x.same V = true) (hX : X = [1, 1, 1, 1, 1, 1, 107, 0, 1, 120, 0]) (hL2 : L2 = X.length) (a : Act) (w : World) (Q : Exit → Act → World → Prop) (hN : a.tmps.size = 52) (h1 : a.tmps.getD 1 undef = .pointer (some ⟨pc, 0, none⟩)) (h2 : a.tmps.getD 2 undef = .slice A2 L2 c2) (h3 : a.tmps.getD 3 undef = .int .i64 0) (h4 : a.tmps.getD 4 undef = .slice (some ⟨b1, o1, none⟩) 1 c1) (h5 : a.tmps.getD 5 undef = .int .i64 0) (hT : T w) (hV : V.ok w) (hpc : w.heap[pc]? = some (.cells V.cells 26 (0, 0))) (hx : x.ok w) (hb1 : b1 < w.heap.size) (hx1 : ∀ i u, x.cells[i]? = some u → w.cell? ⟨b1, o1 + 0 * 7 + i, none⟩ = some u) (hA2 : HasA w w.heap.size A2 X) (hQ : ∀ (w' : World), Grew w w' → Q .normal (puts [(19, V.val), (20, .int .i64 0), (21, .bool true), (22, .bool true), (23, .int .i64 0), (24, .bool true), (25, .bool true), (26, .bool true), (27, .slice A2 L2 c2), (28, .string (str X)), (29, .bool true), (30, .bool true), (31, .bool true), (32, .int .i64 0), (33, .bool true), (34, .bool true), (35, .bool true), (36, .slice (some ⟨b1, o1, none⟩) 1 c1), (37, .int .i64 ((1 : Nat) : Int)), (38, .bool true), (39, .bool true), (40, .bool true), (41, .slice (some ⟨b1, o1, none⟩) 1 c1), (42, .pointer (some ⟨b1, o1 + 0 * 7, none⟩)), (43, x.val), (44, V.val), (45, .bool true), (46, .bool true), (47, .bool true), (48, zC.val), (49, .int .i64 1), (50, .bool true), (51, .bool true), (0, .bool true)] a) w')
    : (Code.region 4 (opsWK p).toArray true).wp Tryd.prog Q a w := by
  refine (wpIn_wide (n := 1)).1 (wpIn_region_vals 52 hN follows (opsWK_back p) (opsWK_slots p) Grew Grew.refl Grew.trans (psiWK T K V x pc b1 o1 c1 A2 L2 c2 X) (psiWK_grew T K V x pc b1 o1 c1 A2 L2 c2 X) ?_ ?_)
  · intro i o d ho hd a' w' hF hR hp
    rcases i with _ | _ | _ | _ | _ | _ | _ | _ | _ | _ | _ | _ | _ | _ | _ | _ | _ | _ | _ | _ | _ | _ | _ | _ | _ | _ | _ | _ | _ | _ | _ | _ | _ | _ | i
    · obtain rfl : oWK0 p = o := Option.some.inj ho
      obtain rfl : 19 = d := Option.some.inj hd
      exact step_load rfl rfl rfl (hF.at 1 rfl h1) (run_ldC _ _ 0 _ (fun i u hu => by have h := (hR.undraw.block pc (Array.getElem?_eq_some_iff.1 hpc).1).trans hpc; rw [Nat.zero_add]; rw [blk_cell h]; exact hu)) ⟨_, rfl, rfl, Grew.refl _⟩
    · obtain rfl : oWK1 p = o := Option.some.inj ho
      obtain rfl : 20 = d := Option.some.inj hd
      have q0 : a'.tmps.getD 19 undef = V.val := hp 0 (oWK0 p) 19 rfl rfl rfl
      refine step_callC rfl rfl rfl (enters_of Tryd.func10 (by kernel_rfl) rfl) (show Array.map a'.eval #[.tmp 19] = _ from by simp only [List.map_toArray, List.map_cons, List.map_nil, Act.eval, q0]) ((K.check V _ (K.grew hT hR.undraw) (hV.below hR.undraw) hsh).mono ?_)
      rintro e w'' ⟨he, hb⟩
      rw [if_pos hm] at he
      subst he
      exact ⟨_, rfl, _, rfl, rfl, hb⟩
    · obtain rfl : oWK2 p = o := Option.some.inj ho
      obtain rfl : 21 = d := Option.some.inj hd
      have q1 : a'.tmps.getD 20 undef = .int .i64 0 := hp 1 (oWK1 p) 20 rfl rfl rfl
      exact step_bin rfl rfl rfl q1 rfl (guard_int _ _ _ _ _ _ _ _ _) ((run_eqi _ _ _ _ _).trans (by rfl)) ⟨_, rfl, rfl, Grew.refl _⟩
    · obtain rfl : oWK3 p = o := Option.some.inj ho
      obtain rfl : 22 = d := Option.some.inj hd
      have q2 : a'.tmps.getD 21 undef = .bool true := hp 2 (oWK2 p) 21 rfl rfl rfl
      exact step_move rfl rfl rfl q2 ⟨_, rfl, rfl, Grew.refl _⟩
    · obtain rfl : oWK4 p = o := Option.some.inj ho
      obtain rfl : 23 = d := Option.some.inj hd
      have q3 : a'.tmps.getD 22 undef = .bool true := hp 3 (oWK3 p) 22 rfl rfl rfl
      exact step_move rfl (wanted_on rfl (show (opsWK p).toArray[3]? = some (oWK3 p) from rfl) rfl q3) rfl (hF.at 3 rfl h3) ⟨_, rfl, rfl, Grew.refl _⟩
    · obtain rfl : oWK5 p = o := Option.some.inj ho
      obtain rfl : 24 = d := Option.some.inj hd
      have q3 : a'.tmps.getD 22 undef = .bool true := hp 3 (oWK3 p) 22 rfl rfl rfl
      have q4 : a'.tmps.getD 23 undef = .int .i64 0 := hp 4 (oWK4 p) 23 rfl rfl rfl
      exact step_bin rfl (wanted_on rfl (show (opsWK p).toArray[3]? = some (oWK3 p) from rfl) rfl q3) rfl q4 rfl (guard_int _ _ _ _ _ _ _ _ _) ((run_eqi _ _ _ _ _).trans (by rfl)) ⟨_, rfl, rfl, Grew.refl _⟩
    · obtain rfl : oWK6 p = o := Option.some.inj ho
      obtain rfl : 25 = d := Option.some.inj hd
      have q3 : a'.tmps.getD 22 undef = .bool true := hp 3 (oWK3 p) 22 rfl rfl rfl
      have q5 : a'.tmps.getD 24 undef = .bool true := hp 5 (oWK5 p) 24 rfl rfl rfl
      exact step_pick rfl rfl rfl q3 (show (if true = true then a'.tmps.getD 24 undef else _) = _ from q5) ⟨_, rfl, rfl, Grew.refl _⟩
    · obtain rfl : oWK7 p = o := Option.some.inj ho
      obtain rfl : 26 = d := Option.some.inj hd
      have q6 : a'.tmps.getD 25 undef = .bool true := hp 6 (oWK6 p) 25 rfl rfl rfl
      exact step_move rfl rfl rfl q6 ⟨_, rfl, rfl, Grew.refl _⟩
    · obtain rfl : oWK8 p = o := Option.some.inj ho
      obtain rfl : 27 = d := Option.some.inj hd
      have q7 : a'.tmps.getD 26 undef = .bool true := hp 7 (oWK7 p) 26 rfl rfl rfl
      exact step_move rfl (wanted_on rfl (show (opsWK p).toArray[7]? = some (oWK7 p) from rfl) rfl q7) rfl (hF.at 2 rfl h2) ⟨_, rfl, rfl, Grew.refl _⟩
    · obtain rfl : oWK9 p = o := Option.some.inj ho
      obtain rfl : 28 = d := Option.some.inj hd
      have q7 : a'.tmps.getD 26 undef = .bool true := hp 7 (oWK7 p) 26 rfl rfl rfl
      have q8 : a'.tmps.getD 27 undef = .slice A2 L2 c2 := hp 8 (oWK8 p) 27 rfl rfl rfl
      exact step_cv rfl (wanted_on rfl (show (opsWK p).toArray[7]? = some (oWK7 p) from rfl) rfl q7) rfl q8 (run_conv (HasA.below' hA2 hR.undraw) _ Tryd.underlying29 Tryd.underlying5 Tryd.underlying9 hL2) ⟨_, rfl, rfl, Grew.refl _⟩
    · obtain rfl : oWK10 p = o := Option.some.inj ho
      obtain rfl : 29 = d := Option.some.inj hd
      have q7 : a'.tmps.getD 26 undef = .bool true := hp 7 (oWK7 p) 26 rfl rfl rfl
      have q9 : a'.tmps.getD 28 undef = .string (str X) := hp 9 (oWK9 p) 28 rfl rfl rfl
      exact step_bin rfl (wanted_on rfl (show (opsWK p).toArray[7]? = some (oWK7 p) from rfl) rfl q7) rfl q9 rfl (guard_str _ _ _ _ _ _ _) (by rw [hX]; exact run_eqS _ _ _) ⟨_, rfl, rfl, Grew.refl _⟩
    · obtain rfl : oWK11 p = o := Option.some.inj ho
      obtain rfl : 30 = d := Option.some.inj hd
      have q7 : a'.tmps.getD 26 undef = .bool true := hp 7 (oWK7 p) 26 rfl rfl rfl
      have q10 : a'.tmps.getD 29 undef = .bool true := hp 10 (oWK10 p) 29 rfl rfl rfl
      exact step_pick rfl rfl rfl q7 (show (if true = true then a'.tmps.getD 29 undef else _) = _ from q10) ⟨_, rfl, rfl, Grew.refl _⟩
    · obtain rfl : oWK12 p = o := Option.some.inj ho
      obtain rfl : 31 = d := Option.some.inj hd
      have q11 : a'.tmps.getD 30 undef = .bool true := hp 11 (oWK11 p) 30 rfl rfl rfl
      exact step_move rfl rfl rfl q11 ⟨_, rfl, rfl, Grew.refl _⟩
    · obtain rfl : oWK13 p = o := Option.some.inj ho
      obtain rfl : 32 = d := Option.some.inj hd
      have q12 : a'.tmps.getD 31 undef = .bool true := hp 12 (oWK12 p) 31 rfl rfl rfl
      exact step_move rfl (wanted_on rfl (show (opsWK p).toArray[12]? = some (oWK12 p) from rfl) rfl q12) rfl (hF.at 5 rfl h5) ⟨_, rfl, rfl, Grew.refl _⟩
    · obtain rfl : oWK14 p = o := Option.some.inj ho
      obtain rfl : 33 = d := Option.some.inj hd
      have q12 : a'.tmps.getD 31 undef = .bool true := hp 12 (oWK12 p) 31 rfl rfl rfl
      have q13 : a'.tmps.getD 32 undef = .int .i64 0 := hp 13 (oWK13 p) 32 rfl rfl rfl
      exact step_bin rfl (wanted_on rfl (show (opsWK p).toArray[12]? = some (oWK12 p) from rfl) rfl q12) rfl q13 rfl (guard_int _ _ _ _ _ _ _ _ _) ((run_eqi _ _ _ _ _).trans (by rfl)) ⟨_, rfl, rfl, Grew.refl _⟩
    · obtain rfl : oWK15 p = o := Option.some.inj ho
      obtain rfl : 34 = d := Option.some.inj hd
      have q12 : a'.tmps.getD 31 undef = .bool true := hp 12 (oWK12 p) 31 rfl rfl rfl
      have q14 : a'.tmps.getD 33 undef = .bool true := hp 14 (oWK14 p) 33 rfl rfl rfl
      exact step_pick rfl rfl rfl q12 (show (if true = true then a'.tmps.getD 33 undef else _) = _ from q14) ⟨_, rfl, rfl, Grew.refl _⟩
    · obtain rfl : oWK16 p = o := Option.some.inj ho
      obtain rfl : 35 = d := Option.some.inj hd
      have q15 : a'.tmps.getD 34 undef = .bool true := hp 15 (oWK15 p) 34 rfl rfl rfl
      exact step_move rfl rfl rfl q15 ⟨_, rfl, rfl, Grew.refl _⟩
    · obtain rfl : oWK17 p = o := Option.some.inj ho
      obtain rfl : 36 = d := Option.some.inj hd
      have q16 : a'.tmps.getD 35 undef = .bool true := hp 16 (oWK16 p) 35 rfl rfl rfl
      exact step_move rfl (wanted_on rfl (show (opsWK p).toArray[16]? = some (oWK16 p) from rfl) rfl q16) rfl (hF.at 4 rfl h4) ⟨_, rfl, rfl, Grew.refl _⟩
    · obtain rfl : oWK18 p = o := Option.some.inj ho
      obtain rfl : 37 = d := Option.some.inj hd
      have q16 : a'.tmps.getD 35 undef = .bool true := hp 16 (oWK16 p) 35 rfl rfl rfl
      have q17 : a'.tmps.getD 36 undef = .slice (some ⟨b1, o1, none⟩) 1 c1 := hp 17 (oWK17 p) 36 rfl rfl rfl
      exact step_len Tryd.underlying22 rfl (wanted_on rfl (show (opsWK p).toArray[16]? = some (oWK16 p) from rfl) rfl q16) rfl q17 ⟨_, rfl, rfl, Grew.refl _⟩
    · obtain rfl : oWK19 p = o := Option.some.inj ho
      obtain rfl : 38 = d := Option.some.inj hd
      have q16 : a'.tmps.getD 35 undef = .bool true := hp 16 (oWK16 p) 35 rfl rfl rfl
      have q18 : a'.tmps.getD 37 undef = .int .i64 ((1 : Nat) : Int) := hp 18 (oWK18 p) 37 rfl rfl rfl
      exact step_bin rfl (wanted_on rfl (show (opsWK p).toArray[16]? = some (oWK16 p) from rfl) rfl q16) rfl q18 rfl (guard_int _ _ _ _ _ _ _ _ _) ((run_eqi _ _ _ _ _).trans (by rfl)) ⟨_, rfl, rfl, Grew.refl _⟩
    · obtain rfl : oWK20 p = o := Option.some.inj ho
      obtain rfl : 39 = d := Option.some.inj hd
      have q16 : a'.tmps.getD 35 undef = .bool true := hp 16 (oWK16 p) 35 rfl rfl rfl
      have q19 : a'.tmps.getD 38 undef = .bool true := hp 19 (oWK19 p) 38 rfl rfl rfl
      exact step_pick rfl rfl rfl q16 (show (if true = true then a'.tmps.getD 38 undef else _) = _ from q19) ⟨_, rfl, rfl, Grew.refl _⟩
    · obtain rfl : oWK21 p = o := Option.some.inj ho
      obtain rfl : 40 = d := Option.some.inj hd
      have q20 : a'.tmps.getD 39 undef = .bool true := hp 20 (oWK20 p) 39 rfl rfl rfl
      exact step_move rfl rfl rfl q20 ⟨_, rfl, rfl, Grew.refl _⟩
    · obtain rfl : oWK22 p = o := Option.some.inj ho
      obtain rfl : 41 = d := Option.some.inj hd
      have q21 : a'.tmps.getD 40 undef = .bool true := hp 21 (oWK21 p) 40 rfl rfl rfl
      exact step_move rfl (wanted_on rfl (show (opsWK p).toArray[21]? = some (oWK21 p) from rfl) rfl q21) rfl (hF.at 4 rfl h4) ⟨_, rfl, rfl, Grew.refl _⟩
    · obtain rfl : oWK23 p = o := Option.some.inj ho
      obtain rfl : 42 = d := Option.some.inj hd
      have q21 : a'.tmps.getD 40 undef = .bool true := hp 21 (oWK21 p) 40 rfl rfl rfl
      have q22 : a'.tmps.getD 41 undef = .slice (some ⟨b1, o1, none⟩) 1 c1 := hp 22 (oWK22 p) 41 rfl rfl rfl
      exact step_index rfl (wanted_on rfl (show (opsWK p).toArray[21]? = some (oWK21 p) from rfl) rfl q21) rfl q22 rfl (run_ixC _ _ _ _ _ 0 (by omega)) ⟨_, rfl, rfl, Grew.refl _⟩
    · obtain rfl : oWK24 p = o := Option.some.inj ho
      obtain rfl : 43 = d := Option.some.inj hd
      have q21 : a'.tmps.getD 40 undef = .bool true := hp 21 (oWK21 p) 40 rfl rfl rfl
      have q23 : a'.tmps.getD 42 undef = .pointer (some ⟨b1, o1 + 0 * 7, none⟩) := hp 23 (oWK23 p) 42 rfl rfl rfl
      exact step_load rfl (wanted_on rfl (show (opsWK p).toArray[21]? = some (oWK21 p) from rfl) rfl q21) rfl q23 (run_ldC _ _ _ _ (fun i u hu => (Below.cell hR.undraw (p := ⟨b1, o1 + 0 * 7 + i, none⟩) hb1).trans (hx1 i u hu))) ⟨_, rfl, rfl, Grew.refl _⟩
    · obtain rfl : oWK25 p = o := Option.some.inj ho
      obtain rfl : 44 = d := Option.some.inj hd
      have q21 : a'.tmps.getD 40 undef = .bool true := hp 21 (oWK21 p) 40 rfl rfl rfl
      exact step_load rfl (wanted_on rfl (show (opsWK p).toArray[21]? = some (oWK21 p) from rfl) rfl q21) rfl (hF.at 1 rfl h1) (run_ldC _ _ 0 _ (fun i u hu => by have h := (hR.undraw.block pc (Array.getElem?_eq_some_iff.1 hpc).1).trans hpc; rw [Nat.zero_add]; rw [blk_cell h]; exact hu)) ⟨_, rfl, rfl, Grew.refl _⟩
    · obtain rfl : oWK26 p = o := Option.some.inj ho
      obtain rfl : 45 = d := Option.some.inj hd
      have q21 : a'.tmps.getD 40 undef = .bool true := hp 21 (oWK21 p) 40 rfl rfl rfl
      have q24 : a'.tmps.getD 43 undef = x.val := hp 24 (oWK24 p) 43 rfl rfl rfl
      have q25 : a'.tmps.getD 44 undef = V.val := hp 25 (oWK25 p) 44 rfl rfl rfl
      refine step_callC rfl (wanted_on rfl (show (opsWK p).toArray[21]? = some (oWK21 p) from rfl) rfl q21) rfl (enters_of Tryd.func15 (by kernel_rfl) rfl) (show Array.map a'.eval #[.tmp 43, .tmp 44] = _ from by simp only [List.map_toArray, List.map_cons, List.map_nil, Act.eval, q24, q25]) ((refSame_any x V _ (hx.below hR.undraw) (hV.below hR.undraw)).mono ?_)
      rintro e w'' ⟨he, hb⟩
      rw [hsame] at he
      subst he
      exact ⟨_, rfl, _, rfl, rfl, hb⟩
    · obtain rfl : oWK27 p = o := Option.some.inj ho
      obtain rfl : 46 = d := Option.some.inj hd
      have q21 : a'.tmps.getD 40 undef = .bool true := hp 21 (oWK21 p) 40 rfl rfl rfl
      have q26 : a'.tmps.getD 45 undef = .bool true := hp 26 (oWK26 p) 45 rfl rfl rfl
      exact step_pick rfl rfl rfl q21 (show (if true = true then a'.tmps.getD 45 undef else _) = _ from q26) ⟨_, rfl, rfl, Grew.refl _⟩
    · obtain rfl : oWK28 p = o := Option.some.inj ho
      obtain rfl : 47 = d := Option.some.inj hd
      have q27 : a'.tmps.getD 46 undef = .bool true := hp 27 (oWK27 p) 46 rfl rfl rfl
      exact step_move rfl rfl rfl q27 ⟨_, rfl, rfl, Grew.refl _⟩
    · obtain rfl : oWK29 p = o := Option.some.inj ho
      obtain rfl : 48 = d := Option.some.inj hd
      have q28 : a'.tmps.getD 47 undef = .bool true := hp 28 (oWK28 p) 47 rfl rfl rfl
      exact step_zero rfl (wanted_on rfl (show (opsWK p).toArray[28]? = some (oWK28 p) from rfl) rfl q28) rfl ⟨_, rfl, rfl, Grew.refl _⟩
    · obtain rfl : oWK30 p = o := Option.some.inj ho
      obtain rfl : 49 = d := Option.some.inj hd
      have q28 : a'.tmps.getD 47 undef = .bool true := hp 28 (oWK28 p) 47 rfl rfl rfl
      have q29 : a'.tmps.getD 48 undef = zC.val := hp 29 (oWK29 p) 48 rfl rfl rfl
      refine step_callC rfl (wanted_on rfl (show (opsWK p).toArray[28]? = some (oWK28 p) from rfl) rfl q28) rfl (enters_of Tryd.func10 (by kernel_rfl) rfl) (show Array.map a'.eval #[.tmp 48] = _ from by simp only [List.map_toArray, List.map_cons, List.map_nil, Act.eval, q29]) ((K.check zC _ (K.grew hT hR.undraw) (zC_ok _) zC_short).mono ?_)
      rintro e w'' ⟨he, hb⟩
      rw [if_neg zC_may] at he
      subst he
      exact ⟨_, rfl, _, rfl, rfl, hb⟩
    · obtain rfl : oWK31 p = o := Option.some.inj ho
      obtain rfl : 50 = d := Option.some.inj hd
      have q28 : a'.tmps.getD 47 undef = .bool true := hp 28 (oWK28 p) 47 rfl rfl rfl
      have q30 : a'.tmps.getD 49 undef = .int .i64 1 := hp 30 (oWK30 p) 49 rfl rfl rfl
      exact step_bin rfl (wanted_on rfl (show (opsWK p).toArray[28]? = some (oWK28 p) from rfl) rfl q28) rfl q30 rfl (guard_int _ _ _ _ _ _ _ _ _) ((run_eqi _ _ _ _ _).trans (by rfl)) ⟨_, rfl, rfl, Grew.refl _⟩
    · obtain rfl : oWK32 p = o := Option.some.inj ho
      obtain rfl : 51 = d := Option.some.inj hd
      have q28 : a'.tmps.getD 47 undef = .bool true := hp 28 (oWK28 p) 47 rfl rfl rfl
      have q31 : a'.tmps.getD 50 undef = .bool true := hp 31 (oWK31 p) 50 rfl rfl rfl
      exact step_pick rfl rfl rfl q28 (show (if true = true then a'.tmps.getD 50 undef else _) = _ from q31) ⟨_, rfl, rfl, Grew.refl _⟩
    · obtain rfl : oWK33 p = o := Option.some.inj ho
      obtain rfl : 0 = d := Option.some.inj hd
      have q32 : a'.tmps.getD 51 undef = .bool true := hp 32 (oWK32 p) 51 rfl rfl rfl
      exact step_assign rfl rfl rfl q32 ⟨_, rfl, rfl, Grew.refl _⟩
    · exact absurd ((Array.getElem?_eq_some_iff.1 ho).1) (by simp [opsWK])
  · intro a' w' hF hR hp
    have e0 : psiWK T K V x pc b1 o1 c1 A2 L2 c2 X 0 (a'.tmps.getD 19 undef) w' := hp 0 (oWK0 p) 19 rfl rfl
    have e1 : psiWK T K V x pc b1 o1 c1 A2 L2 c2 X 1 (a'.tmps.getD 20 undef) w' := hp 1 (oWK1 p) 20 rfl rfl
    have e2 : psiWK T K V x pc b1 o1 c1 A2 L2 c2 X 2 (a'.tmps.getD 21 undef) w' := hp 2 (oWK2 p) 21 rfl rfl
    have e3 : psiWK T K V x pc b1 o1 c1 A2 L2 c2 X 3 (a'.tmps.getD 22 undef) w' := hp 3 (oWK3 p) 22 rfl rfl
    have e4 : psiWK T K V x pc b1 o1 c1 A2 L2 c2 X 4 (a'.tmps.getD 23 undef) w' := hp 4 (oWK4 p) 23 rfl rfl
    have e5 : psiWK T K V x pc b1 o1 c1 A2 L2 c2 X 5 (a'.tmps.getD 24 undef) w' := hp 5 (oWK5 p) 24 rfl rfl
    have e6 : psiWK T K V x pc b1 o1 c1 A2 L2 c2 X 6 (a'.tmps.getD 25 undef) w' := hp 6 (oWK6 p) 25 rfl rfl
    have e7 : psiWK T K V x pc b1 o1 c1 A2 L2 c2 X 7 (a'.tmps.getD 26 undef) w' := hp 7 (oWK7 p) 26 rfl rfl
    have e8 : psiWK T K V x pc b1 o1 c1 A2 L2 c2 X 8 (a'.tmps.getD 27 undef) w' := hp 8 (oWK8 p) 27 rfl rfl
    have e9 : psiWK T K V x pc b1 o1 c1 A2 L2 c2 X 9 (a'.tmps.getD 28 undef) w' := hp 9 (oWK9 p) 28 rfl rfl
    have e10 : psiWK T K V x pc b1 o1 c1 A2 L2 c2 X 10 (a'.tmps.getD 29 undef) w' := hp 10 (oWK10 p) 29 rfl rfl
    have e11 : psiWK T K V x pc b1 o1 c1 A2 L2 c2 X 11 (a'.tmps.getD 30 undef) w' := hp 11 (oWK11 p) 30 rfl rfl
    have e12 : psiWK T K V x pc b1 o1 c1 A2 L2 c2 X 12 (a'.tmps.getD 31 undef) w' := hp 12 (oWK12 p) 31 rfl rfl
    have e13 : psiWK T K V x pc b1 o1 c1 A2 L2 c2 X 13 (a'.tmps.getD 32 undef) w' := hp 13 (oWK13 p) 32 rfl rfl
    have e14 : psiWK T K V x pc b1 o1 c1 A2 L2 c2 X 14 (a'.tmps.getD 33 undef) w' := hp 14 (oWK14 p) 33 rfl rfl
    have e15 : psiWK T K V x pc b1 o1 c1 A2 L2 c2 X 15 (a'.tmps.getD 34 undef) w' := hp 15 (oWK15 p) 34 rfl rfl
    have e16 : psiWK T K V x pc b1 o1 c1 A2 L2 c2 X 16 (a'.tmps.getD 35 undef) w' := hp 16 (oWK16 p) 35 rfl rfl
    have e17 : psiWK T K V x pc b1 o1 c1 A2 L2 c2 X 17 (a'.tmps.getD 36 undef) w' := hp 17 (oWK17 p) 36 rfl rfl
    have e18 : psiWK T K V x pc b1 o1 c1 A2 L2 c2 X 18 (a'.tmps.getD 37 undef) w' := hp 18 (oWK18 p) 37 rfl rfl
    have e19 : psiWK T K V x pc b1 o1 c1 A2 L2 c2 X 19 (a'.tmps.getD 38 undef) w' := hp 19 (oWK19 p) 38 rfl rfl
    have e20 : psiWK T K V x pc b1 o1 c1 A2 L2 c2 X 20 (a'.tmps.getD 39 undef) w' := hp 20 (oWK20 p) 39 rfl rfl
    have e21 : psiWK T K V x pc b1 o1 c1 A2 L2 c2 X 21 (a'.tmps.getD 40 undef) w' := hp 21 (oWK21 p) 40 rfl rfl
    have e22 : psiWK T K V x pc b1 o1 c1 A2 L2 c2 X 22 (a'.tmps.getD 41 undef) w' := hp 22 (oWK22 p) 41 rfl rfl
    have e23 : psiWK T K V x pc b1 o1 c1 A2 L2 c2 X 23 (a'.tmps.getD 42 undef) w' := hp 23 (oWK23 p) 42 rfl rfl
    have e24 : psiWK T K V x pc b1 o1 c1 A2 L2 c2 X 24 (a'.tmps.getD 43 undef) w' := hp 24 (oWK24 p) 43 rfl rfl
    have e25 : psiWK T K V x pc b1 o1 c1 A2 L2 c2 X 25 (a'.tmps.getD 44 undef) w' := hp 25 (oWK25 p) 44 rfl rfl
    have e26 : psiWK T K V x pc b1 o1 c1 A2 L2 c2 X 26 (a'.tmps.getD 45 undef) w' := hp 26 (oWK26 p) 45 rfl rfl
    have e27 : psiWK T K V x pc b1 o1 c1 A2 L2 c2 X 27 (a'.tmps.getD 46 undef) w' := hp 27 (oWK27 p) 46 rfl rfl
    have e28 : psiWK T K V x pc b1 o1 c1 A2 L2 c2 X 28 (a'.tmps.getD 47 undef) w' := hp 28 (oWK28 p) 47 rfl rfl
    have e29 : psiWK T K V x pc b1 o1 c1 A2 L2 c2 X 29 (a'.tmps.getD 48 undef) w' := hp 29 (oWK29 p) 48 rfl rfl
    have e30 : psiWK T K V x pc b1 o1 c1 A2 L2 c2 X 30 (a'.tmps.getD 49 undef) w' := hp 30 (oWK30 p) 49 rfl rfl
    have e31 : psiWK T K V x pc b1 o1 c1 A2 L2 c2 X 31 (a'.tmps.getD 50 undef) w' := hp 31 (oWK31 p) 50 rfl rfl
    have e32 : psiWK T K V x pc b1 o1 c1 A2 L2 c2 X 32 (a'.tmps.getD 51 undef) w' := hp 32 (oWK32 p) 51 rfl rfl
    have e33 : psiWK T K V x pc b1 o1 c1 A2 L2 c2 X 33 (a'.tmps.getD 0 undef) w' := hp 33 (oWK33 p) 0 rfl rfl
    rw [hF.puts [(19, V.val), (20, .int .i64 0), (21, .bool true), (22, .bool true), (23, .int .i64 0), (24, .bool true), (25, .bool true), (26, .bool true), (27, .slice A2 L2 c2), (28, .string (str X)), (29, .bool true), (30, .bool true), (31, .bool true), (32, .int .i64 0), (33, .bool true), (34, .bool true), (35, .bool true), (36, .slice (some ⟨b1, o1, none⟩) 1 c1), (37, .int .i64 ((1 : Nat) : Int)), (38, .bool true), (39, .bool true), (40, .bool true), (41, .slice (some ⟨b1, o1, none⟩) 1 c1), (42, .pointer (some ⟨b1, o1 + 0 * 7, none⟩)), (43, x.val), (44, V.val), (45, .bool true), (46, .bool true), (47, .bool true), (48, zC.val), (49, .int .i64 1), (50, .bool true), (51, .bool true), (0, .bool true)] ?_ rfl (by rw [hN]; rfl)]
    · exact hQ  w'  hR.undraw
    · intro x hx
      simp only [List.mem_cons, List.not_mem_nil, or_false] at hx
      rcases hx with rfl | rfl | rfl | rfl | rfl | rfl | rfl | rfl | rfl | rfl | rfl | rfl | rfl | rfl | rfl | rfl | rfl | rfl | rfl | rfl | rfl | rfl | rfl | rfl | rfl | rfl | rfl | rfl | rfl | rfl | rfl | rfl | rfl | rfl
      · exact e0
      · exact e1
      · exact e2
      · exact e3
      · exact e4
      · exact e5
      · exact e6
      · exact e7
      · exact e8
      · exact e9
      · exact e10
      · exact e11
      · exact e12
      · exact e13
      · exact e14
      · exact e15
      · exact e16
      · exact e17
      · exact e18
      · exact e19
      · exact e20
      · exact e21
      · exact e22
      · exact e23
      · exact e24
      · exact e25
      · exact e26
      · exact e27
      · exact e28
      · exact e29
      · exact e30
      · exact e31
      · exact e32
      · exact e33
end Go.Proofs.YtfaplmpenlbajaaDoor
