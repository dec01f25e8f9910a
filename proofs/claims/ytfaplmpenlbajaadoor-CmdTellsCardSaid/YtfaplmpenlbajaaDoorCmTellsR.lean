/- The law CmdTells: the statement that holds all, whatever its order of evaluation. -/
import Derived.Test.YtfaplmpenlbajaaDoorCmWakes
namespace Go.Proofs.YtfaplmpenlbajaaDoor
open Go.RowKit

/-- Worlds that grew; blocks from N on may be marked. -/
structure Mk (N : Nat) (x y : World) : Prop where
  os : y.os = x.os
  tape : y.tape = x.tape
  output : y.output = x.output
  size : x.heap.size ≤ y.heap.size
  old : ∀ k, k < N → y.heap[k]? = x.heap[k]?
  cell : ∀ q : Addr, q.block < x.heap.size → y.cell? q = x.cell? q
  blk : ∀ (k : Nat) (C : Array Value) (e : TypeId) (fr : Nat × Nat), x.heap[k]? = some (.cells C e fr) → ∃ fr', y.heap[k]? = some (.cells C e fr')
theorem Mk.refl {N : Nat} (x : World) : Mk N x x := ⟨rfl, rfl, rfl, Nat.le_refl _, fun _ _ => rfl, fun _ _ => rfl, fun _ _ _ fr h => ⟨fr, h⟩⟩
theorem Mk.trans {N : Nat} {x y z : World} (h : Mk N x y) (k : Mk N y z) : Mk N x z :=
  ⟨k.os.trans h.os, k.tape.trans h.tape, k.output.trans h.output, Nat.le_trans h.size k.size, fun i hi => (k.old i hi).trans (h.old i hi), fun q hq => (k.cell q (Nat.lt_of_lt_of_le hq h.size)).trans (h.cell q hq), fun i C e fr hi => by
    obtain ⟨fr', h'⟩ := h.blk i C e fr hi
    exact k.blk i C e fr' h'⟩
theorem Mk.grew {N : Nat} {x y : World} (h : Below x.heap.size x y) (hN : N ≤ x.heap.size) : Mk N x y :=
  ⟨h.os, h.tape, h.output, h.size, fun k hk => h.block k (Nat.lt_of_lt_of_le hk hN), fun _q hq => h.cell hq, fun k _ _ fr hk => ⟨fr, (h.block k (Array.getElem?_eq_some_iff.1 hk).1).trans hk⟩⟩
theorem Mk.und {N : Nat} {w w' : World} (h : Mk N w.drew w') (hN : w.heap.size = N) : Below w.heap.size w w' := ⟨h.os, h.tape, h.output, h.size, fun k hk => h.old k (by omega)⟩
theorem Mk.le {N : Nat} {w w' : World} (h : Mk N w.drew w') (hN : w.heap.size = N) : N ≤ w'.heap.size := by have : w.heap.size ≤ w'.heap.size := h.size; omega
theorem HasA.mk {N : Nat} {w w' : World} {A : Option Addr} {bs : List UInt8} (h : HasA w w.heap.size A bs) (hm : Mk N w w') : HasA w' w'.heap.size A bs := fun hn => by
  obtain ⟨b, o, e, hb, hc⟩ := h hn
  exact ⟨b, o, e, Nat.lt_of_lt_of_le hb hm.size, fun j hj => (hm.cell ⟨b, o + j, none⟩ hb).trans (hc j hj)⟩
theorem IsB.mk {N : Nat} {w w' : World} {v : Value} {X : List UInt8} (h : IsB w v X) (hm : Mk N w w') : IsB w' v X := by
  obtain ⟨A, L, c, e, h1, h2⟩ := h
  exact ⟨A, L, c, e, h1, h2.mk hm⟩
theorem IsBc.mk {N : Nat} {w w' : World} {v : Value} {X : List UInt8} (h : IsBc w v X) (hm : Mk N w w') : IsBc w' v X := by
  obtain ⟨A, L, c, e, h1, h2, h3⟩ := h
  exact ⟨A, L, c, e, h1, h2, h3.mk hm⟩
/-- The bytes of a literal, ahead of their conversion. -/
def LitB (N : Nat) (w : World) (v : Value) : Prop := ∃ g, v = .slice (some ⟨g, 0, none⟩) 1 1 ∧ N ≤ g ∧ ∃ fr, w.heap[g]? = some (.cells #[.int .u8 122] 5 fr)
theorem LitB.mk {N : Nat} {w w' : World} {v : Value} (h : LitB N w v) (hm : Mk N w w') : LitB N w' v := by
  obtain ⟨g, e, h1, fr, h2⟩ := h
  exact ⟨g, e, h1, hm.blk _ _ _ fr h2⟩
theorem LitB.new {N : Nat} {w : World} (h : N ≤ w.heap.size) : LitB N (w.alloc (.cells #[.int .u8 122] 5)) (.slice (some ⟨w.heap.size, 0, none⟩) 1 1) := ⟨_, rfl, h, _, World.alloc_heap_new w _⟩
theorem Mk.freeze {N : Nat} (w : World) (q : Addr) (n : Nat) (hN : N ≤ q.block) : Mk N w (w.freeze q n) := by
  unfold World.freeze
  split
  · exact Mk.refl w
  · refine ⟨rfl, rfl, rfl, by simp, fun k hk => ?_, fun r hr => ?_, fun k C e fr hk => ?_⟩
    · simp only [Array.getElem?_modify]
      rw [if_neg (by omega)]
    · unfold World.cell?
      simp only [Array.getElem?_modify]
      by_cases h : q.block = r.block
      · rw [if_pos h]
        cases hh : w.heap[r.block]? with
        | none => rfl
        | some o =>
          cases o with
          | cells c e fr => obtain ⟨lo, hi⟩ := fr; rfl
          | _ => rfl
      · rw [if_neg h]
    · simp only [Array.getElem?_modify]
      by_cases h : q.block = k
      · rw [if_pos h, hk]
        obtain ⟨lo, hi⟩ := fr
        exact ⟨_, rfl⟩
      · rw [if_neg h]
        exact ⟨fr, hk⟩
theorem run_cvB (w : World) (g : Nat) (fr : Nat × Nat) (h : w.heap[g]? = some (.cells #[.int .u8 122] 5 fr)) :
    ∃ w', (convert 29 29 (.slice (some ⟨g, 0, none⟩) 1 1)).run Tryd.prog w = .ok (.slice (some ⟨g, 0, none⟩) 1 1) w' ∧ (∀ N, N ≤ g → Mk N w w') ∧ IsBc w' (.slice (some ⟨g, 0, none⟩) 1 1) [122] := by
  have hsh : w.shape? g = some (5, 1) := by
    unfold World.shape?
    rw [h]
    rfl
  have hrun : (convert 29 29 (.slice (some ⟨g, 0, none⟩) 1 1)).run Tryd.prog w = .ok (.slice (some ⟨g, 0, none⟩) 1 1) (w.freeze ⟨g, 1, none⟩ 1) := by
    simp [convert, run_underlying Tryd.underlying29, run_underlying Tryd.underlying5, markStringish, hsh]
  have hm : ∀ N, N ≤ g → Mk N w (w.freeze ⟨g, 1, none⟩ 1) := fun N hN => Mk.freeze w ⟨g, 1, none⟩ 1 hN
  have hlt := (Array.getElem?_eq_some_iff.1 h).1
  refine ⟨_, hrun, hm, some ⟨g, 0, none⟩, 1, 1, rfl, rfl, Nat.le_refl _, fun _ => ⟨g, 0, rfl, Nat.lt_of_lt_of_le hlt (hm 0 (Nat.zero_le _)).size, fun j hj => ?_⟩⟩
  obtain rfl : j = 0 := by simpa using hj
  rw [(hm 0 (Nat.zero_le _)).cell ⟨g, 0 + 0, none⟩ hlt]
  simp only [World.cell?, h]
  rfl
theorem run_bs1 (w : World) (x : Int) : (Instr.buildSlice 29 1 #[(0, .int .u8 x)]).run Tryd.prog w = .ok (.slice (some ⟨w.heap.size, 0, none⟩) 1 1) (w.alloc (.cells #[.int .u8 x] 5)) := by
  simp [go_sem, Instr.buildSlice]
section
variable {n : Nat} {Q : Exit → Act → World → Prop} {ops : Array Oper} {i : Nat} {o : Oper} {a : Act} {w : World} {K : Act → World → Prop}
theorem step_bs1 {x : Int} (hi : ops[i]? = some o) (hw : Region.wanted o (yielded ops a.tmps) = true) (ho : o.op = .buildSlice 29 1 #[(0, .const (.int .u8 x))]) (h : K (a.put o.dst (.slice (some ⟨w.heap.size, 0, none⟩) 1 1)) (w.alloc (.cells #[.int .u8 x] 5))) : wpOpIn Fence.wide n Tryd.prog ops Q i K a w :=
  step_run hi hw (by rw [ho]; intro c h; cases h) (by simp [Oper.about, ho]) (by
    have hb := run_bs1 w x
    simp [execOp, ho, Act.eval, hb]) h
theorem step_cvW {t u : TypeId} {x : Operand} {vx v : Value} {w' : World} (hi : ops[i]? = some o) (hw : Region.wanted o (yielded ops a.tmps) = true) (ho : o.op = .convert t u x) (hx : a.eval x = vx) (hr : (convert t u vx).run Tryd.prog w = .ok v w') (h : K (a.put o.dst v) w') : wpOpIn Fence.wide n Tryd.prog ops Q i K a w :=
  step_run hi hw (by rw [ho]; intro c h; cases h) (by simp [Oper.about, ho]) (by simp [execOp, ho, hx, hr]) h
end
def oTT0 (p : String) : Oper := { dst := some 30, op := Op.load 26 (Operand.tmp 4), type := 26, pos := p, after := #[], guard := none }
def oTT1 (p : String) : Oper := { dst := some 31, op := Op.call { callee := Callee.value (Operand.func 10), args := #[Operand.tmp 30], argTypes := #[26] }, type := 30, pos := p, after := #[{ on := 0, ground := Ground.data }], guard := none }
def oTT2 (p : String) : Oper := { dst := some 32, op := Op.binOp BinOp.eql 30 (Operand.tmp 31) (Operand.const (Value.int IntKind.i64 0)) 30, type := 4, pos := p, after := #[{ on := 1, ground := Ground.data }], guard := none }
def oTT3 (p : String) : Oper := { dst := some 33, op := Op.load 26 (Operand.tmp 4), type := 26, pos := p, after := #[], guard := none }
def oTT4 (p : String) : Oper := { dst := some 34, op := Op.call { callee := Callee.value (Operand.func 11), args := #[Operand.tmp 33], argTypes := #[26] }, type := 4, pos := p, after := #[{ on := 3, ground := Ground.data }, { on := 1, ground := Ground.chain }], guard := none }
def oTT5 (p : String) : Oper := { dst := some 35, op := Op.binOp BinOp.eql 4 (Operand.tmp 32) (Operand.tmp 34) 4, type := 4, pos := p, after := #[{ on := 2, ground := Ground.data }, { on := 4, ground := Ground.data }], guard := none }
def oTT6 (p : String) : Oper := { dst := some 36, op := Op.move (Operand.tmp 35), type := 4, pos := p, after := #[{ on := 5, ground := Ground.data }, { on := 4, ground := Ground.chain }], guard := none }
def oTT7 (p : String) : Oper := { dst := some 37, op := Op.load 26 (Operand.tmp 4), type := 26, pos := p, after := #[{ on := 6, ground := Ground.guard }], guard := some (6, true) }
def oTT8 (p : String) : Oper := { dst := some 38, op := Op.call { callee := Callee.value (Operand.func 11), args := #[Operand.tmp 37], argTypes := #[26] }, type := 4, pos := p, after := #[{ on := 7, ground := Ground.data }, { on := 6, ground := Ground.chain }, { on := 6, ground := Ground.guard }], guard := some (6, true) }
def oTT9 (p : String) : Oper := { dst := some 39, op := Op.move (Operand.tmp 38), type := 4, pos := p, after := #[{ on := 8, ground := Ground.data }, { on := 8, ground := Ground.chain }, { on := 6, ground := Ground.guard }], guard := some (6, true) }
def oTT10 (p : String) : Oper := { dst := some 40, op := Op.load 26 (Operand.tmp 4), type := 26, pos := p, after := #[{ on := 9, ground := Ground.guard }], guard := some (9, false) }
def oTT11 (p : String) : Oper := { dst := some 41, op := Op.call { callee := Callee.value (Operand.func 10), args := #[Operand.tmp 40], argTypes := #[26] }, type := 30, pos := p, after := #[{ on := 10, ground := Ground.data }, { on := 9, ground := Ground.chain }, { on := 9, ground := Ground.guard }], guard := some (9, false) }
def oTT12 (p : String) : Oper := { dst := some 42, op := Op.binOp BinOp.eql 30 (Operand.tmp 41) (Operand.const (Value.int IntKind.i64 1)) 30, type := 4, pos := p, after := #[{ on := 11, ground := Ground.data }, { on := 9, ground := Ground.guard }], guard := some (9, false) }
def oTT13 (p : String) : Oper := { dst := some 43, op := Op.pick (Operand.tmp 39) (Operand.const (Value.bool true)) (Operand.tmp 42), type := 4, pos := p, after := #[{ on := 9, ground := Ground.data }, { on := 12, ground := Ground.data }, { on := 6, ground := Ground.guard }], guard := some (6, true) }
def oTT14 (p : String) : Oper := { dst := some 44, op := Op.pick (Operand.tmp 36) (Operand.tmp 43) (Operand.const (Value.bool false)), type := 4, pos := p, after := #[{ on := 6, ground := Ground.data }, { on := 13, ground := Ground.data }], guard := none }
def oTT15 (p : String) : Oper := { dst := some 45, op := Op.move (Operand.tmp 44), type := 4, pos := p, after := #[{ on := 14, ground := Ground.data }, { on := 11, ground := Ground.chain }], guard := none }
def oTT16 (p : String) : Oper := { dst := some 46, op := Op.buildSlice 29 1 #[(0, Operand.const (Value.int IntKind.u8 122))], type := 29, pos := p, after := #[{ on := 15, ground := Ground.guard }], guard := some (15, true) }
def oTT17 (p : String) : Oper := { dst := some 47, op := Op.convert 29 29 (Operand.tmp 46), type := 29, pos := p, after := #[{ on := 16, ground := Ground.data }, { on := 15, ground := Ground.guard }], guard := some (15, true) }
def oTT18 (p : String) : Oper := { dst := some 48, op := Op.load 26 (Operand.tmp 4), type := 26, pos := p, after := #[{ on := 15, ground := Ground.guard }], guard := some (15, true) }
def oTT19 (p : String) : Oper := { dst := some 49, op := Op.call { callee := Callee.value (Operand.func 12), args := #[Operand.tmp 47, Operand.tmp 48], argTypes := #[29, 26] }, type := 29, pos := p, after := #[{ on := 17, ground := Ground.data }, { on := 18, ground := Ground.data }, { on := 15, ground := Ground.chain }, { on := 15, ground := Ground.guard }], guard := some (15, true) }
def oTT20 (p : String) : Oper := { dst := some 50, op := Op.convert 29 9 (Operand.tmp 49), type := 9, pos := p, after := #[{ on := 19, ground := Ground.data }, { on := 15, ground := Ground.guard }], guard := some (15, true) }
def oTT21 (p : String) : Oper := { dst := some 51, op := Op.load 26 (Operand.tmp 4), type := 26, pos := p, after := #[{ on := 15, ground := Ground.guard }], guard := some (15, true) }
def oTT22 (p : String) : Oper := { dst := some 52, op := Op.call { callee := Callee.value (Operand.func 13), args := #[Operand.tmp 51], argTypes := #[26] }, type := 29, pos := p, after := #[{ on := 21, ground := Ground.data }, { on := 19, ground := Ground.chain }, { on := 15, ground := Ground.guard }], guard := some (15, true) }
def oTT23 (p : String) : Oper := { dst := some 53, op := Op.convert 29 9 (Operand.tmp 52), type := 9, pos := p, after := #[{ on := 22, ground := Ground.data }, { on := 15, ground := Ground.guard }], guard := some (15, true) }
def oTT24 (p : String) : Oper := { dst := some 54, op := Op.binOp BinOp.add 9 (Operand.const (Value.string { data := #[122] })) (Operand.tmp 53) 9, type := 9, pos := p, after := #[{ on := 23, ground := Ground.data }, { on := 15, ground := Ground.guard }], guard := some (15, true) }
def oTT25 (p : String) : Oper := { dst := some 55, op := Op.binOp BinOp.eql 9 (Operand.tmp 50) (Operand.tmp 54) 9, type := 4, pos := p, after := #[{ on := 20, ground := Ground.data }, { on := 24, ground := Ground.data }, { on := 15, ground := Ground.guard }], guard := some (15, true) }
def oTT26 (p : String) : Oper := { dst := some 56, op := Op.pick (Operand.tmp 45) (Operand.tmp 55) (Operand.const (Value.bool false)), type := 4, pos := p, after := #[{ on := 15, ground := Ground.data }, { on := 25, ground := Ground.data }], guard := none }
def oTT27 (p : String) : Oper := { dst := some 57, op := Op.move (Operand.tmp 56), type := 4, pos := p, after := #[{ on := 26, ground := Ground.data }, { on := 22, ground := Ground.chain }], guard := none }
def oTT28 (p : String) : Oper := { dst := some 58, op := Op.load 26 (Operand.tmp 4), type := 26, pos := p, after := #[{ on := 27, ground := Ground.guard }], guard := some (27, true) }
def oTT29 (p : String) : Oper := { dst := some 59, op := Op.load 26 (Operand.tmp 5), type := 26, pos := p, after := #[{ on := 27, ground := Ground.guard }], guard := some (27, true) }
def oTT30 (p : String) : Oper := { dst := some 60, op := Op.call { callee := Callee.value (Operand.func 14), args := #[Operand.tmp 58, Operand.tmp 59], argTypes := #[26, 26] }, type := 4, pos := p, after := #[{ on := 28, ground := Ground.data }, { on := 29, ground := Ground.data }, { on := 27, ground := Ground.chain }, { on := 27, ground := Ground.guard }], guard := some (27, true) }
def oTT31 (p : String) : Oper := { dst := some 61, op := Op.load 26 (Operand.tmp 4), type := 26, pos := p, after := #[{ on := 27, ground := Ground.guard }], guard := some (27, true) }
def oTT32 (p : String) : Oper := { dst := some 62, op := Op.load 26 (Operand.tmp 5), type := 26, pos := p, after := #[{ on := 27, ground := Ground.guard }], guard := some (27, true) }
def oTT33 (p : String) : Oper := { dst := some 63, op := Op.call { callee := Callee.value (Operand.func 15), args := #[Operand.tmp 61, Operand.tmp 62], argTypes := #[26, 26] }, type := 4, pos := p, after := #[{ on := 31, ground := Ground.data }, { on := 32, ground := Ground.data }, { on := 30, ground := Ground.chain }, { on := 27, ground := Ground.guard }], guard := some (27, true) }
def oTT34 (p : String) : Oper := { dst := some 64, op := Op.binOp BinOp.eql 4 (Operand.tmp 60) (Operand.tmp 63) 4, type := 4, pos := p, after := #[{ on := 30, ground := Ground.data }, { on := 33, ground := Ground.data }, { on := 27, ground := Ground.guard }], guard := some (27, true) }
def oTT35 (p : String) : Oper := { dst := some 65, op := Op.pick (Operand.tmp 57) (Operand.tmp 64) (Operand.const (Value.bool false)), type := 4, pos := p, after := #[{ on := 27, ground := Ground.data }, { on := 34, ground := Ground.data }], guard := none }
def oTT36 (p : String) : Oper := { dst := some 66, op := Op.move (Operand.tmp 65), type := 4, pos := p, after := #[{ on := 35, ground := Ground.data }, { on := 33, ground := Ground.chain }], guard := none }
def oTT37 (p : String) : Oper := { dst := some 67, op := Op.move (Operand.tmp 8), type := 30, pos := p, after := #[{ on := 36, ground := Ground.guard }], guard := some (36, true) }
def oTT38 (p : String) : Oper := { dst := some 68, op := Op.move (Operand.tmp 10), type := 30, pos := p, after := #[{ on := 36, ground := Ground.guard }], guard := some (36, true) }
def oTT39 (p : String) : Oper := { dst := some 69, op := Op.binOp BinOp.eql 30 (Operand.tmp 67) (Operand.tmp 68) 30, type := 4, pos := p, after := #[{ on := 37, ground := Ground.data }, { on := 38, ground := Ground.data }, { on := 36, ground := Ground.guard }], guard := some (36, true) }
def oTT40 (p : String) : Oper := { dst := some 70, op := Op.pick (Operand.tmp 66) (Operand.tmp 69) (Operand.const (Value.bool false)), type := 4, pos := p, after := #[{ on := 36, ground := Ground.data }, { on := 39, ground := Ground.data }], guard := none }
def oTT41 (p : String) : Oper := { dst := some 71, op := Op.move (Operand.tmp 70), type := 4, pos := p, after := #[{ on := 40, ground := Ground.data }, { on := 36, ground := Ground.chain }], guard := none }
def oTT42 (p : String) : Oper := { dst := some 72, op := Op.move (Operand.tmp 7), type := 29, pos := p, after := #[{ on := 41, ground := Ground.guard }], guard := some (41, true) }
def oTT43 (p : String) : Oper := { dst := some 73, op := Op.convert 29 9 (Operand.tmp 72), type := 9, pos := p, after := #[{ on := 42, ground := Ground.data }, { on := 41, ground := Ground.guard }], guard := some (41, true) }
def oTT44 (p : String) : Oper := { dst := some 74, op := Op.move (Operand.tmp 9), type := 29, pos := p, after := #[{ on := 41, ground := Ground.guard }], guard := some (41, true) }
def oTT45 (p : String) : Oper := { dst := some 75, op := Op.convert 29 9 (Operand.tmp 74), type := 9, pos := p, after := #[{ on := 44, ground := Ground.data }, { on := 41, ground := Ground.guard }], guard := some (41, true) }
def oTT46 (p : String) : Oper := { dst := some 76, op := Op.binOp BinOp.eql 9 (Operand.tmp 73) (Operand.tmp 75) 9, type := 4, pos := p, after := #[{ on := 43, ground := Ground.data }, { on := 45, ground := Ground.data }, { on := 41, ground := Ground.guard }], guard := some (41, true) }
def oTT47 (p : String) : Oper := { dst := some 77, op := Op.pick (Operand.tmp 71) (Operand.tmp 76) (Operand.const (Value.bool false)), type := 4, pos := p, after := #[{ on := 41, ground := Ground.data }, { on := 46, ground := Ground.data }], guard := none }
def oTT48 (p : String) : Oper := { dst := some 78, op := Op.move (Operand.tmp 77), type := 4, pos := p, after := #[{ on := 47, ground := Ground.data }, { on := 41, ground := Ground.chain }], guard := none }
def oTT49 (p : String) : Oper := { dst := some 79, op := Op.call { callee := Callee.value (Operand.func 7), args := #[], argTypes := #[] }, type := 4, pos := p, after := #[{ on := 48, ground := Ground.chain }, { on := 48, ground := Ground.guard }], guard := some (48, true) }
def oTT50 (p : String) : Oper := { dst := some 80, op := Op.pick (Operand.tmp 78) (Operand.tmp 79) (Operand.const (Value.bool false)), type := 4, pos := p, after := #[{ on := 48, ground := Ground.data }, { on := 49, ground := Ground.data }], guard := none }
def oTT51 (p : String) : Oper := { dst := some 6, op := Op.assign (Operand.tmp 80), type := 4, pos := p, after := #[{ on := 50, ground := Ground.data }, { on := 49, ground := Ground.chain }, { on := 0, ground := Ground.phase }, { on := 1, ground := Ground.phase }, { on := 2, ground := Ground.phase }, { on := 3, ground := Ground.phase }, { on := 4, ground := Ground.phase }, { on := 5, ground := Ground.phase }, { on := 6, ground := Ground.phase }, { on := 7, ground := Ground.phase }, { on := 8, ground := Ground.phase }, { on := 9, ground := Ground.phase }, { on := 10, ground := Ground.phase }, { on := 11, ground := Ground.phase }, { on := 12, ground := Ground.phase }, { on := 13, ground := Ground.phase }, { on := 14, ground := Ground.phase }, { on := 15, ground := Ground.phase }, { on := 16, ground := Ground.phase }, { on := 17, ground := Ground.phase }, { on := 18, ground := Ground.phase }, { on := 19, ground := Ground.phase }, { on := 20, ground := Ground.phase }, { on := 21, ground := Ground.phase }, { on := 22, ground := Ground.phase }, { on := 23, ground := Ground.phase }, { on := 24, ground := Ground.phase }, { on := 25, ground := Ground.phase }, { on := 26, ground := Ground.phase }, { on := 27, ground := Ground.phase }, { on := 28, ground := Ground.phase }, { on := 29, ground := Ground.phase }, { on := 30, ground := Ground.phase }, { on := 31, ground := Ground.phase }, { on := 32, ground := Ground.phase }, { on := 33, ground := Ground.phase }, { on := 34, ground := Ground.phase }, { on := 35, ground := Ground.phase }, { on := 36, ground := Ground.phase }, { on := 37, ground := Ground.phase }, { on := 38, ground := Ground.phase }, { on := 39, ground := Ground.phase }, { on := 40, ground := Ground.phase }, { on := 41, ground := Ground.phase }, { on := 42, ground := Ground.phase }, { on := 43, ground := Ground.phase }, { on := 44, ground := Ground.phase }, { on := 45, ground := Ground.phase }, { on := 46, ground := Ground.phase }, { on := 47, ground := Ground.phase }, { on := 48, ground := Ground.phase }, { on := 49, ground := Ground.phase }, { on := 50, ground := Ground.phase }], guard := none }
def opsTT (p : String) : List Oper := [oTT0 p, oTT1 p, oTT2 p, oTT3 p, oTT4 p, oTT5 p, oTT6 p, oTT7 p, oTT8 p, oTT9 p, oTT10 p, oTT11 p, oTT12 p, oTT13 p, oTT14 p, oTT15 p, oTT16 p, oTT17 p, oTT18 p, oTT19 p, oTT20 p, oTT21 p, oTT22 p, oTT23 p, oTT24 p, oTT25 p, oTT26 p, oTT27 p, oTT28 p, oTT29 p, oTT30 p, oTT31 p, oTT32 p, oTT33 p, oTT34 p, oTT35 p, oTT36 p, oTT37 p, oTT38 p, oTT39 p, oTT40 p, oTT41 p, oTT42 p, oTT43 p, oTT44 p, oTT45 p, oTT46 p, oTT47 p, oTT48 p, oTT49 p, oTT50 p, oTT51 p]
theorem opsTT_back (p : String) : backwards (opsTT p) = true := by kernel_rfl
theorem opsTT_slots (p : String) : slotsOk 81 (opsTT p) = true := by kernel_rfl
/-- What each slot comes to. -/
def psiTT (T : World → Prop) (_K : CmdK T) (xa xb : CmdV) (_pa _pb : Nat) (A7 : Option Addr) (L7 c7 : Nat) (A9 : Option Addr) (L9 c9 n : Nat) (X : List UInt8) (N : Nat) : Nat → Value → World → Prop
  | 0, v, _ => v = xa.val
  | 1, v, _ => v = .int .i64 0
  | 2, v, _ => v = .bool true
  | 3, v, _ => v = xa.val
  | 4, v, _ => v = .bool true
  | 5, v, _ => v = .bool true
  | 6, v, _ => v = .bool true
  | 7, v, _ => v = xa.val
  | 8, v, _ => v = .bool true
  | 9, v, _ => v = .bool true
  | 10, v, _ => v = undef
  | 11, v, _ => v = undef
  | 12, v, _ => v = undef
  | 13, v, _ => v = .bool true
  | 14, v, _ => v = .bool true
  | 15, v, _ => v = .bool true
  | 16, v, w => LitB N w v
  | 17, v, w => IsBc w v [122]
  | 18, v, _ => v = xa.val
  | 19, v, w => IsB w v ([122] ++ xa.m.one)
  | 20, v, _ => v = .string (str ([122] ++ xa.m.one))
  | 21, v, _ => v = xa.val
  | 22, v, w => IsB w v (xa.m.one)
  | 23, v, _ => v = .string (str (xa.m.one))
  | 24, v, _ => v = .string (str ([122] ++ xa.m.one))
  | 25, v, _ => v = .bool true
  | 26, v, _ => v = .bool true
  | 27, v, _ => v = .bool true
  | 28, v, _ => v = xa.val
  | 29, v, _ => v = xb.val
  | 30, v, _ => v = .bool (xa.same xb)
  | 31, v, _ => v = xa.val
  | 32, v, _ => v = xb.val
  | 33, v, _ => v = .bool (xa.same xb)
  | 34, v, _ => v = .bool true
  | 35, v, _ => v = .bool true
  | 36, v, _ => v = .bool true
  | 37, v, _ => v = .int .i64 (n : Int)
  | 38, v, _ => v = .int .i64 (n : Int)
  | 39, v, _ => v = .bool true
  | 40, v, _ => v = .bool true
  | 41, v, _ => v = .bool true
  | 42, v, _ => v = .slice A7 L7 c7
  | 43, v, _ => v = .string (str X)
  | 44, v, _ => v = .slice A9 L9 c9
  | 45, v, _ => v = .string (str X)
  | 46, v, _ => v = .bool true
  | 47, v, _ => v = .bool true
  | 48, v, _ => v = .bool true
  | 49, v, _ => v = .bool true
  | 50, v, _ => v = .bool true
  | 51, v, _ => v = .bool true
  | _, _, _ => True
theorem psiTT_grew (T : World → Prop) (K : CmdK T) (xa xb : CmdV) (pa pb : Nat) (A7 : Option Addr) (L7 c7 : Nat) (A9 : Option Addr) (L9 c9 n : Nat) (X : List UInt8) (N : Nat) : ∀ i v w w', psiTT T K xa xb pa pb A7 L7 c7 A9 L9 c9 n X N i v w → Mk N w w' → psiTT T K xa xb pa pb A7 L7 c7 A9 L9 c9 n X N i v w' := by
  intro i v w w' h hg
  rcases i with _ | _ | _ | _ | _ | _ | _ | _ | _ | _ | _ | _ | _ | _ | _ | _ | _ | _ | _ | _ | _ | _ | _ | _ | _ | _ | _ | _ | _ | _ | _ | _ | _ | _ | _ | _ | _ | _ | _ | _ | _ | _ | _ | _ | _ | _ | _ | _ | _ | _ | _ | _ | i
  · exact h
  · exact h
  · exact h
  · exact h
  · exact h
  · exact h
  · exact h
  · exact h
  · exact h
  · exact h
  · exact h
  · exact h
  · exact h
  · exact h
  · exact h
  · exact h
  · exact LitB.mk h hg
  · exact IsBc.mk h hg
  · exact h
  · exact IsB.mk h hg
  · exact h
  · exact h
  · exact IsB.mk h hg
  · exact h
  · exact h
  · exact h
  · exact h
  · exact h
  · exact h
  · exact h
  · exact h
  · exact h
  · exact h
  · exact h
  · exact h
  · exact h
  · exact h
  · exact h
  · exact h
  · exact h
  · exact h
  · exact h
  · exact h
  · exact h
  · exact h
  · exact h
  · exact h
  · exact h
  · exact h
  · exact h
  · exact h
  · exact h
  · trivial
set_option maxRecDepth 100000 in
set_option maxHeartbeats 4000000 in
theorem tells_TT {p : String} (T : World → Prop) (K : CmdK T) (xa xb : CmdV) (pa pb : Nat) (A7 : Option Addr) (L7 c7 : Nat) (A9 : Option Addr) (L9 c9 n : Nat) (X : List UInt8) (N : Nat) (hm : xa.m.may = true) (hsa : xa.m.Short) (hsb : xb.m.Short) (hL7 : L7 = X.length) (hL9 : L9 = X.length) (a : Act) (w : World) (Q : Exit → Act → World → Prop) (hN : a.tmps.size = 81) (h4 : a.tmps.getD 4 undef = .pointer (some ⟨pa, 0, none⟩)) (h5 : a.tmps.getD 5 undef = .pointer (some ⟨pb, 0, none⟩)) (h7 : a.tmps.getD 7 undef = .slice A7 L7 c7) (h8 : a.tmps.getD 8 undef = .int .i64 (n : Int)) (h9 : a.tmps.getD 9 undef = .slice A9 L9 c9) (h10 : a.tmps.getD 10 undef = .int .i64 (n : Int)) (hNN : w.heap.size = N) (hT : T w) (ha : xa.ok w) (hb0 : xb.ok w) (hpa : w.heap[pa]? = some (.cells xa.cells 26 (0, 0))) (hpb : w.heap[pb]? = some (.cells xb.cells 26 (0, 0))) (hA7 : HasA w w.heap.size A7 X) (hA9 : HasA w w.heap.size A9 X) (hQ : ∀ (v46 : Value), ∀ (v47 : Value), ∀ (v49 : Value), ∀ (v52 : Value), ∀ (w' : World), (fun v w => LitB N w v) v46 w' → (fun v w => IsBc w v [122]) v47 w' → (fun v w => IsB w v ([122] ++ xa.m.one)) v49 w' → (fun v w => IsB w v (xa.m.one)) v52 w' → Below w.heap.size w w' → Q .normal (puts [(30, xa.val), (31, .int .i64 0), (32, .bool true), (33, xa.val), (34, .bool true), (35, .bool true), (36, .bool true), (37, xa.val), (38, .bool true), (39, .bool true), (40, undef), (41, undef), (42, undef), (43, .bool true), (44, .bool true), (45, .bool true), (46, v46), (47, v47), (48, xa.val), (49, v49), (50, .string (str ([122] ++ xa.m.one))), (51, xa.val), (52, v52), (53, .string (str (xa.m.one))), (54, .string (str ([122] ++ xa.m.one))), (55, .bool true), (56, .bool true), (57, .bool true), (58, xa.val), (59, xb.val), (60, .bool (xa.same xb)), (61, xa.val), (62, xb.val), (63, .bool (xa.same xb)), (64, .bool true), (65, .bool true), (66, .bool true), (67, .int .i64 (n : Int)), (68, .int .i64 (n : Int)), (69, .bool true), (70, .bool true), (71, .bool true), (72, .slice A7 L7 c7), (73, .string (str X)), (74, .slice A9 L9 c9), (75, .string (str X)), (76, .bool true), (77, .bool true), (78, .bool true), (79, .bool true), (80, .bool true), (6, .bool true)] a) w')
    : (Code.region 5 (opsTT p).toArray true).wp Tryd.prog Q a w := by
  refine (wpIn_wide (n := 1)).1 (wpIn_region_vals 81 hN follows (opsTT_back p) (opsTT_slots p) (Mk N) Mk.refl Mk.trans (psiTT T K xa xb pa pb A7 L7 c7 A9 L9 c9 n X N) (psiTT_grew T K xa xb pa pb A7 L7 c7 A9 L9 c9 n X N) ?_ ?_)
  · intro i o d ho hd a' w' hF hR hp
    rcases i with _ | _ | _ | _ | _ | _ | _ | _ | _ | _ | _ | _ | _ | _ | _ | _ | _ | _ | _ | _ | _ | _ | _ | _ | _ | _ | _ | _ | _ | _ | _ | _ | _ | _ | _ | _ | _ | _ | _ | _ | _ | _ | _ | _ | _ | _ | _ | _ | _ | _ | _ | _ | i
    · obtain rfl : oTT0 p = o := Option.some.inj ho
      obtain rfl : 30 = d := Option.some.inj hd
      exact step_load rfl rfl rfl (hF.at 4 rfl h4) (run_ldC _ _ 0 _ (fun i u hu => by have h := ((hR.und hNN).block pa (Array.getElem?_eq_some_iff.1 hpa).1).trans hpa; rw [Nat.zero_add]; rw [blk_cell h]; exact hu)) ⟨_, rfl, rfl, Mk.refl _⟩
    · obtain rfl : oTT1 p = o := Option.some.inj ho
      obtain rfl : 31 = d := Option.some.inj hd
      have q0 : a'.tmps.getD 30 undef = xa.val := hp 0 (oTT0 p) 30 rfl rfl rfl
      refine step_callC rfl rfl rfl (enters_of Tryd.func10 (by kernel_rfl) rfl) (show Array.map a'.eval #[.tmp 30] = _ from by simp only [List.map_toArray, List.map_cons, List.map_nil, Act.eval, q0]) ((K.check xa _ (K.grew hT (hR.und hNN)) (ha.below (hR.und hNN)) hsa).mono ?_)
      rintro e w'' ⟨he, hb⟩
      rw [if_pos hm] at he
      subst he
      exact ⟨_, rfl, _, rfl, rfl, Mk.grew hb (hR.le hNN)⟩
    · obtain rfl : oTT2 p = o := Option.some.inj ho
      obtain rfl : 32 = d := Option.some.inj hd
      have q1 : a'.tmps.getD 31 undef = .int .i64 0 := hp 1 (oTT1 p) 31 rfl rfl rfl
      exact step_bin rfl rfl rfl q1 rfl (guard_int _ _ _ _ _ _ _ _ _) ((run_eqi _ _ _ _ _).trans (by simp)) ⟨_, rfl, rfl, Mk.refl _⟩
    · obtain rfl : oTT3 p = o := Option.some.inj ho
      obtain rfl : 33 = d := Option.some.inj hd
      exact step_load rfl rfl rfl (hF.at 4 rfl h4) (run_ldC _ _ 0 _ (fun i u hu => by have h := ((hR.und hNN).block pa (Array.getElem?_eq_some_iff.1 hpa).1).trans hpa; rw [Nat.zero_add]; rw [blk_cell h]; exact hu)) ⟨_, rfl, rfl, Mk.refl _⟩
    · obtain rfl : oTT4 p = o := Option.some.inj ho
      obtain rfl : 34 = d := Option.some.inj hd
      have q3 : a'.tmps.getD 33 undef = xa.val := hp 3 (oTT3 p) 33 rfl rfl rfl
      refine step_callC rfl rfl rfl (enters_of Tryd.func11 (by kernel_rfl) rfl) (show Array.map a'.eval #[.tmp 33] = _ from by simp only [List.map_toArray, List.map_cons, List.map_nil, Act.eval, q3]) ((refMay_any xa _ (ha.below (hR.und hNN))).mono ?_)
      rintro e w'' ⟨he, hb⟩
      rw [hm] at he
      subst he
      exact ⟨_, rfl, _, rfl, rfl, Mk.grew hb (hR.le hNN)⟩
    · obtain rfl : oTT5 p = o := Option.some.inj ho
      obtain rfl : 35 = d := Option.some.inj hd
      have q2 : a'.tmps.getD 32 undef = .bool true := hp 2 (oTT2 p) 32 rfl rfl rfl
      have q4 : a'.tmps.getD 34 undef = .bool true := hp 4 (oTT4 p) 34 rfl rfl rfl
      exact step_bin rfl rfl rfl q2 q4 (guard_bool _ _ _ _ _ _ _) ((run_eqb _ Tryd.underlying4 _ _ _).trans (by simp)) ⟨_, rfl, rfl, Mk.refl _⟩
    · obtain rfl : oTT6 p = o := Option.some.inj ho
      obtain rfl : 36 = d := Option.some.inj hd
      have q5 : a'.tmps.getD 35 undef = .bool true := hp 5 (oTT5 p) 35 rfl rfl rfl
      exact step_move rfl rfl rfl q5 ⟨_, rfl, rfl, Mk.refl _⟩
    · obtain rfl : oTT7 p = o := Option.some.inj ho
      obtain rfl : 37 = d := Option.some.inj hd
      have q6 : a'.tmps.getD 36 undef = .bool true := hp 6 (oTT6 p) 36 rfl rfl rfl
      exact step_load rfl (wanted_on rfl (show (opsTT p).toArray[6]? = some (oTT6 p) from rfl) rfl q6) rfl (hF.at 4 rfl h4) (run_ldC _ _ 0 _ (fun i u hu => by have h := ((hR.und hNN).block pa (Array.getElem?_eq_some_iff.1 hpa).1).trans hpa; rw [Nat.zero_add]; rw [blk_cell h]; exact hu)) ⟨_, rfl, rfl, Mk.refl _⟩
    · obtain rfl : oTT8 p = o := Option.some.inj ho
      obtain rfl : 38 = d := Option.some.inj hd
      have q6 : a'.tmps.getD 36 undef = .bool true := hp 6 (oTT6 p) 36 rfl rfl rfl
      have q7 : a'.tmps.getD 37 undef = xa.val := hp 7 (oTT7 p) 37 rfl rfl rfl
      refine step_callC rfl (wanted_on rfl (show (opsTT p).toArray[6]? = some (oTT6 p) from rfl) rfl q6) rfl (enters_of Tryd.func11 (by kernel_rfl) rfl) (show Array.map a'.eval #[.tmp 37] = _ from by simp only [List.map_toArray, List.map_cons, List.map_nil, Act.eval, q7]) ((refMay_any xa _ (ha.below (hR.und hNN))).mono ?_)
      rintro e w'' ⟨he, hb⟩
      rw [hm] at he
      subst he
      exact ⟨_, rfl, _, rfl, rfl, Mk.grew hb (hR.le hNN)⟩
    · obtain rfl : oTT9 p = o := Option.some.inj ho
      obtain rfl : 39 = d := Option.some.inj hd
      have q6 : a'.tmps.getD 36 undef = .bool true := hp 6 (oTT6 p) 36 rfl rfl rfl
      have q8 : a'.tmps.getD 38 undef = .bool true := hp 8 (oTT8 p) 38 rfl rfl rfl
      exact step_move rfl (wanted_on rfl (show (opsTT p).toArray[6]? = some (oTT6 p) from rfl) rfl q6) rfl q8 ⟨_, rfl, rfl, Mk.refl _⟩
    · obtain rfl : oTT10 p = o := Option.some.inj ho
      obtain rfl : 40 = d := Option.some.inj hd
      have q9 : a'.tmps.getD 39 undef = .bool true := hp 9 (oTT9 p) 39 rfl rfl rfl
      exact step_off rfl (wanted_off rfl (show (opsTT p).toArray[9]? = some (oTT9 p) from rfl) rfl q9) ⟨_, rfl, rfl, Mk.refl _⟩
    · obtain rfl : oTT11 p = o := Option.some.inj ho
      obtain rfl : 41 = d := Option.some.inj hd
      have q9 : a'.tmps.getD 39 undef = .bool true := hp 9 (oTT9 p) 39 rfl rfl rfl
      exact step_off rfl (wanted_off rfl (show (opsTT p).toArray[9]? = some (oTT9 p) from rfl) rfl q9) ⟨_, rfl, rfl, Mk.refl _⟩
    · obtain rfl : oTT12 p = o := Option.some.inj ho
      obtain rfl : 42 = d := Option.some.inj hd
      have q9 : a'.tmps.getD 39 undef = .bool true := hp 9 (oTT9 p) 39 rfl rfl rfl
      exact step_off rfl (wanted_off rfl (show (opsTT p).toArray[9]? = some (oTT9 p) from rfl) rfl q9) ⟨_, rfl, rfl, Mk.refl _⟩
    · obtain rfl : oTT13 p = o := Option.some.inj ho
      obtain rfl : 43 = d := Option.some.inj hd
      have q6 : a'.tmps.getD 36 undef = .bool true := hp 6 (oTT6 p) 36 rfl rfl rfl
      have q9 : a'.tmps.getD 39 undef = .bool true := hp 9 (oTT9 p) 39 rfl rfl rfl
      exact step_pick rfl (wanted_on rfl (show (opsTT p).toArray[6]? = some (oTT6 p) from rfl) rfl q6) rfl q9 rfl ⟨_, rfl, rfl, Mk.refl _⟩
    · obtain rfl : oTT14 p = o := Option.some.inj ho
      obtain rfl : 44 = d := Option.some.inj hd
      have q6 : a'.tmps.getD 36 undef = .bool true := hp 6 (oTT6 p) 36 rfl rfl rfl
      have q13 : a'.tmps.getD 43 undef = .bool true := hp 13 (oTT13 p) 43 rfl rfl rfl
      exact step_pick rfl rfl rfl q6 (show (if true = true then a'.tmps.getD 43 undef else _) = _ from q13) ⟨_, rfl, rfl, Mk.refl _⟩
    · obtain rfl : oTT15 p = o := Option.some.inj ho
      obtain rfl : 45 = d := Option.some.inj hd
      have q14 : a'.tmps.getD 44 undef = .bool true := hp 14 (oTT14 p) 44 rfl rfl rfl
      exact step_move rfl rfl rfl q14 ⟨_, rfl, rfl, Mk.refl _⟩
    · obtain rfl : oTT16 p = o := Option.some.inj ho
      obtain rfl : 46 = d := Option.some.inj hd
      have q15 : a'.tmps.getD 45 undef = .bool true := hp 15 (oTT15 p) 45 rfl rfl rfl
      exact step_bs1 rfl (wanted_on rfl (show (opsTT p).toArray[15]? = some (oTT15 p) from rfl) rfl q15) rfl ⟨_, rfl, LitB.new (hR.le hNN), Mk.grew ((Below.refl _ w').alloc (Nat.le_refl _) _) (hR.le hNN)⟩
    · obtain rfl : oTT17 p = o := Option.some.inj ho
      obtain rfl : 47 = d := Option.some.inj hd
      have q15 : a'.tmps.getD 45 undef = .bool true := hp 15 (oTT15 p) 45 rfl rfl rfl
      have q16 : (fun v w => LitB N w v) (a'.tmps.getD 46 undef) w' := hp 16 (oTT16 p) 46 rfl rfl rfl
      obtain ⟨g, hv, hg, fr, hh⟩ := q16
      obtain ⟨w'', hr, hw, hi⟩ := run_cvB w' g fr hh
      exact step_cvW rfl (wanted_on rfl (show (opsTT p).toArray[15]? = some (oTT15 p) from rfl) rfl q15) rfl hv hr ⟨_, rfl, hi, hw N hg⟩
    · obtain rfl : oTT18 p = o := Option.some.inj ho
      obtain rfl : 48 = d := Option.some.inj hd
      have q15 : a'.tmps.getD 45 undef = .bool true := hp 15 (oTT15 p) 45 rfl rfl rfl
      exact step_load rfl (wanted_on rfl (show (opsTT p).toArray[15]? = some (oTT15 p) from rfl) rfl q15) rfl (hF.at 4 rfl h4) (run_ldC _ _ 0 _ (fun i u hu => by have h := ((hR.und hNN).block pa (Array.getElem?_eq_some_iff.1 hpa).1).trans hpa; rw [Nat.zero_add]; rw [blk_cell h]; exact hu)) ⟨_, rfl, rfl, Mk.refl _⟩
    · obtain rfl : oTT19 p = o := Option.some.inj ho
      obtain rfl : 49 = d := Option.some.inj hd
      have q15 : a'.tmps.getD 45 undef = .bool true := hp 15 (oTT15 p) 45 rfl rfl rfl
      have q17 : (fun v w => IsBc w v [122]) (a'.tmps.getD 47 undef) w' := hp 17 (oTT17 p) 47 rfl rfl rfl
      have q18 : a'.tmps.getD 48 undef = xa.val := hp 18 (oTT18 p) 48 rfl rfl rfl
      obtain ⟨A, L, c, hv, h1, h2, h3⟩ := q17
      refine step_callC rfl (wanted_on rfl (show (opsTT p).toArray[15]? = some (oTT15 p) from rfl) rfl q15) rfl (enters_of Tryd.func12 (by kernel_rfl) rfl) (show Array.map a'.eval #[.tmp 47, .tmp 48] = #[.slice A L c, xa.val] from by simp only [List.map_toArray, List.map_cons, List.map_nil, Act.eval, hv, q18]) ((K.put A L c [122] xa _ (K.grew hT (hR.und hNN)) h1 h2 (by rw [h1]; simp) h3 (ha.below (hR.und hNN)) hsa).mono ?_)
      rintro e w'' ⟨v, n', rfl, hv, hb⟩
      exact ⟨_, rfl, _, rfl, IsB.own hv, Mk.grew hb (hR.le hNN)⟩
    · obtain rfl : oTT20 p = o := Option.some.inj ho
      obtain rfl : 50 = d := Option.some.inj hd
      have q15 : a'.tmps.getD 45 undef = .bool true := hp 15 (oTT15 p) 45 rfl rfl rfl
      have q19 : (fun v w => IsB w v ([122] ++ xa.m.one)) (a'.tmps.getD 49 undef) w' := hp 19 (oTT19 p) 49 rfl rfl rfl
      exact step_conv rfl (wanted_on rfl (show (opsTT p).toArray[15]? = some (oTT15 p) from rfl) rfl q15) rfl (show IsB w' (a'.tmps.getD 49 undef) _ from q19) ⟨_, rfl, rfl, Mk.refl _⟩
    · obtain rfl : oTT21 p = o := Option.some.inj ho
      obtain rfl : 51 = d := Option.some.inj hd
      have q15 : a'.tmps.getD 45 undef = .bool true := hp 15 (oTT15 p) 45 rfl rfl rfl
      exact step_load rfl (wanted_on rfl (show (opsTT p).toArray[15]? = some (oTT15 p) from rfl) rfl q15) rfl (hF.at 4 rfl h4) (run_ldC _ _ 0 _ (fun i u hu => by have h := ((hR.und hNN).block pa (Array.getElem?_eq_some_iff.1 hpa).1).trans hpa; rw [Nat.zero_add]; rw [blk_cell h]; exact hu)) ⟨_, rfl, rfl, Mk.refl _⟩
    · obtain rfl : oTT22 p = o := Option.some.inj ho
      obtain rfl : 52 = d := Option.some.inj hd
      have q15 : a'.tmps.getD 45 undef = .bool true := hp 15 (oTT15 p) 45 rfl rfl rfl
      have q21 : a'.tmps.getD 51 undef = xa.val := hp 21 (oTT21 p) 51 rfl rfl rfl
      refine step_callC rfl (wanted_on rfl (show (opsTT p).toArray[15]? = some (oTT15 p) from rfl) rfl q15) rfl (enters_of Tryd.func13 (by kernel_rfl) rfl) (show Array.map a'.eval #[.tmp 51] = _ from by simp only [List.map_toArray, List.map_cons, List.map_nil, Act.eval, q21]) ((refOne_any xa _ (ha.below (hR.und hNN)) (Nat.le_trans hsa.ks (by omega)) (fun k hk => Nat.le_trans (hsa.each k hk) (by omega)) (Nat.le_trans hsa.old (by omega)) (Nat.le_trans hsa.new (by omega))).mono ?_)
      rintro e w'' ⟨g, L, c, rfl, ho, hb⟩
      exact ⟨_, rfl, _, rfl, IsB.own ho, Mk.grew hb (hR.le hNN)⟩
    · obtain rfl : oTT23 p = o := Option.some.inj ho
      obtain rfl : 53 = d := Option.some.inj hd
      have q15 : a'.tmps.getD 45 undef = .bool true := hp 15 (oTT15 p) 45 rfl rfl rfl
      have q22 : (fun v w => IsB w v (xa.m.one)) (a'.tmps.getD 52 undef) w' := hp 22 (oTT22 p) 52 rfl rfl rfl
      exact step_conv rfl (wanted_on rfl (show (opsTT p).toArray[15]? = some (oTT15 p) from rfl) rfl q15) rfl (show IsB w' (a'.tmps.getD 52 undef) _ from q22) ⟨_, rfl, rfl, Mk.refl _⟩
    · obtain rfl : oTT24 p = o := Option.some.inj ho
      obtain rfl : 54 = d := Option.some.inj hd
      have q15 : a'.tmps.getD 45 undef = .bool true := hp 15 (oTT15 p) 45 rfl rfl rfl
      have q23 : a'.tmps.getD 53 undef = .string (str (xa.m.one)) := hp 23 (oTT23 p) 53 rfl rfl rfl
      exact step_bin rfl (wanted_on rfl (show (opsTT p).toArray[15]? = some (oTT15 p) from rfl) rfl q15) rfl rfl q23 (guard_str _ _ _ _ _ _ _) (run_add _ [122] _ (by have := hsa.one_len ha.wf; simp only [List.length_cons, List.length_nil]; omega)) ⟨_, rfl, rfl, Mk.refl _⟩
    · obtain rfl : oTT25 p = o := Option.some.inj ho
      obtain rfl : 55 = d := Option.some.inj hd
      have q15 : a'.tmps.getD 45 undef = .bool true := hp 15 (oTT15 p) 45 rfl rfl rfl
      have q20 : a'.tmps.getD 50 undef = .string (str ([122] ++ xa.m.one)) := hp 20 (oTT20 p) 50 rfl rfl rfl
      have q24 : a'.tmps.getD 54 undef = .string (str ([122] ++ xa.m.one)) := hp 24 (oTT24 p) 54 rfl rfl rfl
      exact step_bin rfl (wanted_on rfl (show (opsTT p).toArray[15]? = some (oTT15 p) from rfl) rfl q15) rfl q20 q24 (guard_str _ _ _ _ _ _ _) ((run_eq _ _ _).trans (by simp)) ⟨_, rfl, rfl, Mk.refl _⟩
    · obtain rfl : oTT26 p = o := Option.some.inj ho
      obtain rfl : 56 = d := Option.some.inj hd
      have q15 : a'.tmps.getD 45 undef = .bool true := hp 15 (oTT15 p) 45 rfl rfl rfl
      have q25 : a'.tmps.getD 55 undef = .bool true := hp 25 (oTT25 p) 55 rfl rfl rfl
      exact step_pick rfl rfl rfl q15 (show (if true = true then a'.tmps.getD 55 undef else _) = _ from q25) ⟨_, rfl, rfl, Mk.refl _⟩
    · obtain rfl : oTT27 p = o := Option.some.inj ho
      obtain rfl : 57 = d := Option.some.inj hd
      have q26 : a'.tmps.getD 56 undef = .bool true := hp 26 (oTT26 p) 56 rfl rfl rfl
      exact step_move rfl rfl rfl q26 ⟨_, rfl, rfl, Mk.refl _⟩
    · obtain rfl : oTT28 p = o := Option.some.inj ho
      obtain rfl : 58 = d := Option.some.inj hd
      have q27 : a'.tmps.getD 57 undef = .bool true := hp 27 (oTT27 p) 57 rfl rfl rfl
      exact step_load rfl (wanted_on rfl (show (opsTT p).toArray[27]? = some (oTT27 p) from rfl) rfl q27) rfl (hF.at 4 rfl h4) (run_ldC _ _ 0 _ (fun i u hu => by have h := ((hR.und hNN).block pa (Array.getElem?_eq_some_iff.1 hpa).1).trans hpa; rw [Nat.zero_add]; rw [blk_cell h]; exact hu)) ⟨_, rfl, rfl, Mk.refl _⟩
    · obtain rfl : oTT29 p = o := Option.some.inj ho
      obtain rfl : 59 = d := Option.some.inj hd
      have q27 : a'.tmps.getD 57 undef = .bool true := hp 27 (oTT27 p) 57 rfl rfl rfl
      exact step_load rfl (wanted_on rfl (show (opsTT p).toArray[27]? = some (oTT27 p) from rfl) rfl q27) rfl (hF.at 5 rfl h5) (run_ldC _ _ 0 _ (fun i u hu => by have h := ((hR.und hNN).block pb (Array.getElem?_eq_some_iff.1 hpb).1).trans hpb; rw [Nat.zero_add]; rw [blk_cell h]; exact hu)) ⟨_, rfl, rfl, Mk.refl _⟩
    · obtain rfl : oTT30 p = o := Option.some.inj ho
      obtain rfl : 60 = d := Option.some.inj hd
      have q27 : a'.tmps.getD 57 undef = .bool true := hp 27 (oTT27 p) 57 rfl rfl rfl
      have q28 : a'.tmps.getD 58 undef = xa.val := hp 28 (oTT28 p) 58 rfl rfl rfl
      have q29 : a'.tmps.getD 59 undef = xb.val := hp 29 (oTT29 p) 59 rfl rfl rfl
      refine step_callC rfl (wanted_on rfl (show (opsTT p).toArray[27]? = some (oTT27 p) from rfl) rfl q27) rfl (enters_of Tryd.func14 (by kernel_rfl) rfl) (show Array.map a'.eval #[.tmp 58, .tmp 59] = _ from by simp only [List.map_toArray, List.map_cons, List.map_nil, Act.eval, q28, q29]) ((K.same xa xb _ (K.grew hT (hR.und hNN)) (ha.below (hR.und hNN)) (hb0.below (hR.und hNN)) hsa hsb).mono ?_)
      rintro e w'' ⟨rfl, hb⟩
      exact ⟨_, rfl, _, rfl, rfl, Mk.grew hb (hR.le hNN)⟩
    · obtain rfl : oTT31 p = o := Option.some.inj ho
      obtain rfl : 61 = d := Option.some.inj hd
      have q27 : a'.tmps.getD 57 undef = .bool true := hp 27 (oTT27 p) 57 rfl rfl rfl
      exact step_load rfl (wanted_on rfl (show (opsTT p).toArray[27]? = some (oTT27 p) from rfl) rfl q27) rfl (hF.at 4 rfl h4) (run_ldC _ _ 0 _ (fun i u hu => by have h := ((hR.und hNN).block pa (Array.getElem?_eq_some_iff.1 hpa).1).trans hpa; rw [Nat.zero_add]; rw [blk_cell h]; exact hu)) ⟨_, rfl, rfl, Mk.refl _⟩
    · obtain rfl : oTT32 p = o := Option.some.inj ho
      obtain rfl : 62 = d := Option.some.inj hd
      have q27 : a'.tmps.getD 57 undef = .bool true := hp 27 (oTT27 p) 57 rfl rfl rfl
      exact step_load rfl (wanted_on rfl (show (opsTT p).toArray[27]? = some (oTT27 p) from rfl) rfl q27) rfl (hF.at 5 rfl h5) (run_ldC _ _ 0 _ (fun i u hu => by have h := ((hR.und hNN).block pb (Array.getElem?_eq_some_iff.1 hpb).1).trans hpb; rw [Nat.zero_add]; rw [blk_cell h]; exact hu)) ⟨_, rfl, rfl, Mk.refl _⟩
    · obtain rfl : oTT33 p = o := Option.some.inj ho
      obtain rfl : 63 = d := Option.some.inj hd
      have q27 : a'.tmps.getD 57 undef = .bool true := hp 27 (oTT27 p) 57 rfl rfl rfl
      have q31 : a'.tmps.getD 61 undef = xa.val := hp 31 (oTT31 p) 61 rfl rfl rfl
      have q32 : a'.tmps.getD 62 undef = xb.val := hp 32 (oTT32 p) 62 rfl rfl rfl
      refine step_callC rfl (wanted_on rfl (show (opsTT p).toArray[27]? = some (oTT27 p) from rfl) rfl q27) rfl (enters_of Tryd.func15 (by kernel_rfl) rfl) (show Array.map a'.eval #[.tmp 61, .tmp 62] = _ from by simp only [List.map_toArray, List.map_cons, List.map_nil, Act.eval, q31, q32]) ((refSame_any xa xb _ (ha.below (hR.und hNN)) (hb0.below (hR.und hNN))).mono ?_)
      rintro e w'' ⟨rfl, hb⟩
      exact ⟨_, rfl, _, rfl, rfl, Mk.grew hb (hR.le hNN)⟩
    · obtain rfl : oTT34 p = o := Option.some.inj ho
      obtain rfl : 64 = d := Option.some.inj hd
      have q27 : a'.tmps.getD 57 undef = .bool true := hp 27 (oTT27 p) 57 rfl rfl rfl
      have q30 : a'.tmps.getD 60 undef = .bool (xa.same xb) := hp 30 (oTT30 p) 60 rfl rfl rfl
      have q33 : a'.tmps.getD 63 undef = .bool (xa.same xb) := hp 33 (oTT33 p) 63 rfl rfl rfl
      exact step_bin rfl (wanted_on rfl (show (opsTT p).toArray[27]? = some (oTT27 p) from rfl) rfl q27) rfl q30 q33 (guard_bool _ _ _ _ _ _ _) ((run_eqb _ Tryd.underlying4 _ _ _).trans (by simp)) ⟨_, rfl, rfl, Mk.refl _⟩
    · obtain rfl : oTT35 p = o := Option.some.inj ho
      obtain rfl : 65 = d := Option.some.inj hd
      have q27 : a'.tmps.getD 57 undef = .bool true := hp 27 (oTT27 p) 57 rfl rfl rfl
      have q34 : a'.tmps.getD 64 undef = .bool true := hp 34 (oTT34 p) 64 rfl rfl rfl
      exact step_pick rfl rfl rfl q27 (show (if true = true then a'.tmps.getD 64 undef else _) = _ from q34) ⟨_, rfl, rfl, Mk.refl _⟩
    · obtain rfl : oTT36 p = o := Option.some.inj ho
      obtain rfl : 66 = d := Option.some.inj hd
      have q35 : a'.tmps.getD 65 undef = .bool true := hp 35 (oTT35 p) 65 rfl rfl rfl
      exact step_move rfl rfl rfl q35 ⟨_, rfl, rfl, Mk.refl _⟩
    · obtain rfl : oTT37 p = o := Option.some.inj ho
      obtain rfl : 67 = d := Option.some.inj hd
      have q36 : a'.tmps.getD 66 undef = .bool true := hp 36 (oTT36 p) 66 rfl rfl rfl
      exact step_move rfl (wanted_on rfl (show (opsTT p).toArray[36]? = some (oTT36 p) from rfl) rfl q36) rfl (hF.at 8 rfl h8) ⟨_, rfl, rfl, Mk.refl _⟩
    · obtain rfl : oTT38 p = o := Option.some.inj ho
      obtain rfl : 68 = d := Option.some.inj hd
      have q36 : a'.tmps.getD 66 undef = .bool true := hp 36 (oTT36 p) 66 rfl rfl rfl
      exact step_move rfl (wanted_on rfl (show (opsTT p).toArray[36]? = some (oTT36 p) from rfl) rfl q36) rfl (hF.at 10 rfl h10) ⟨_, rfl, rfl, Mk.refl _⟩
    · obtain rfl : oTT39 p = o := Option.some.inj ho
      obtain rfl : 69 = d := Option.some.inj hd
      have q36 : a'.tmps.getD 66 undef = .bool true := hp 36 (oTT36 p) 66 rfl rfl rfl
      have q37 : a'.tmps.getD 67 undef = .int .i64 (n : Int) := hp 37 (oTT37 p) 67 rfl rfl rfl
      have q38 : a'.tmps.getD 68 undef = .int .i64 (n : Int) := hp 38 (oTT38 p) 68 rfl rfl rfl
      exact step_bin rfl (wanted_on rfl (show (opsTT p).toArray[36]? = some (oTT36 p) from rfl) rfl q36) rfl q37 q38 (guard_int _ _ _ _ _ _ _ _ _) ((run_eqi _ _ _ _ _).trans (by simp)) ⟨_, rfl, rfl, Mk.refl _⟩
    · obtain rfl : oTT40 p = o := Option.some.inj ho
      obtain rfl : 70 = d := Option.some.inj hd
      have q36 : a'.tmps.getD 66 undef = .bool true := hp 36 (oTT36 p) 66 rfl rfl rfl
      have q39 : a'.tmps.getD 69 undef = .bool true := hp 39 (oTT39 p) 69 rfl rfl rfl
      exact step_pick rfl rfl rfl q36 (show (if true = true then a'.tmps.getD 69 undef else _) = _ from q39) ⟨_, rfl, rfl, Mk.refl _⟩
    · obtain rfl : oTT41 p = o := Option.some.inj ho
      obtain rfl : 71 = d := Option.some.inj hd
      have q40 : a'.tmps.getD 70 undef = .bool true := hp 40 (oTT40 p) 70 rfl rfl rfl
      exact step_move rfl rfl rfl q40 ⟨_, rfl, rfl, Mk.refl _⟩
    · obtain rfl : oTT42 p = o := Option.some.inj ho
      obtain rfl : 72 = d := Option.some.inj hd
      have q41 : a'.tmps.getD 71 undef = .bool true := hp 41 (oTT41 p) 71 rfl rfl rfl
      exact step_move rfl (wanted_on rfl (show (opsTT p).toArray[41]? = some (oTT41 p) from rfl) rfl q41) rfl (hF.at 7 rfl h7) ⟨_, rfl, rfl, Mk.refl _⟩
    · obtain rfl : oTT43 p = o := Option.some.inj ho
      obtain rfl : 73 = d := Option.some.inj hd
      have q41 : a'.tmps.getD 71 undef = .bool true := hp 41 (oTT41 p) 71 rfl rfl rfl
      have q42 : a'.tmps.getD 72 undef = .slice A7 L7 c7 := hp 42 (oTT42 p) 72 rfl rfl rfl
      exact step_cv rfl (wanted_on rfl (show (opsTT p).toArray[41]? = some (oTT41 p) from rfl) rfl q41) rfl q42 (run_conv (HasA.below' hA7 (hR.und hNN)) _ Tryd.underlying29 Tryd.underlying5 Tryd.underlying9 hL7) ⟨_, rfl, rfl, Mk.refl _⟩
    · obtain rfl : oTT44 p = o := Option.some.inj ho
      obtain rfl : 74 = d := Option.some.inj hd
      have q41 : a'.tmps.getD 71 undef = .bool true := hp 41 (oTT41 p) 71 rfl rfl rfl
      exact step_move rfl (wanted_on rfl (show (opsTT p).toArray[41]? = some (oTT41 p) from rfl) rfl q41) rfl (hF.at 9 rfl h9) ⟨_, rfl, rfl, Mk.refl _⟩
    · obtain rfl : oTT45 p = o := Option.some.inj ho
      obtain rfl : 75 = d := Option.some.inj hd
      have q41 : a'.tmps.getD 71 undef = .bool true := hp 41 (oTT41 p) 71 rfl rfl rfl
      have q44 : a'.tmps.getD 74 undef = .slice A9 L9 c9 := hp 44 (oTT44 p) 74 rfl rfl rfl
      exact step_cv rfl (wanted_on rfl (show (opsTT p).toArray[41]? = some (oTT41 p) from rfl) rfl q41) rfl q44 (run_conv (HasA.below' hA9 (hR.und hNN)) _ Tryd.underlying29 Tryd.underlying5 Tryd.underlying9 hL9) ⟨_, rfl, rfl, Mk.refl _⟩
    · obtain rfl : oTT46 p = o := Option.some.inj ho
      obtain rfl : 76 = d := Option.some.inj hd
      have q41 : a'.tmps.getD 71 undef = .bool true := hp 41 (oTT41 p) 71 rfl rfl rfl
      have q43 : a'.tmps.getD 73 undef = .string (str X) := hp 43 (oTT43 p) 73 rfl rfl rfl
      have q45 : a'.tmps.getD 75 undef = .string (str X) := hp 45 (oTT45 p) 75 rfl rfl rfl
      exact step_bin rfl (wanted_on rfl (show (opsTT p).toArray[41]? = some (oTT41 p) from rfl) rfl q41) rfl q43 q45 (guard_str _ _ _ _ _ _ _) ((run_eq _ _ _).trans (by simp)) ⟨_, rfl, rfl, Mk.refl _⟩
    · obtain rfl : oTT47 p = o := Option.some.inj ho
      obtain rfl : 77 = d := Option.some.inj hd
      have q41 : a'.tmps.getD 71 undef = .bool true := hp 41 (oTT41 p) 71 rfl rfl rfl
      have q46 : a'.tmps.getD 76 undef = .bool true := hp 46 (oTT46 p) 76 rfl rfl rfl
      exact step_pick rfl rfl rfl q41 (show (if true = true then a'.tmps.getD 76 undef else _) = _ from q46) ⟨_, rfl, rfl, Mk.refl _⟩
    · obtain rfl : oTT48 p = o := Option.some.inj ho
      obtain rfl : 78 = d := Option.some.inj hd
      have q47 : a'.tmps.getD 77 undef = .bool true := hp 47 (oTT47 p) 77 rfl rfl rfl
      exact step_move rfl rfl rfl q47 ⟨_, rfl, rfl, Mk.refl _⟩
    · obtain rfl : oTT49 p = o := Option.some.inj ho
      obtain rfl : 79 = d := Option.some.inj hd
      have q48 : a'.tmps.getD 78 undef = .bool true := hp 48 (oTT48 p) 78 rfl rfl rfl
      refine step_callC rfl (wanted_on rfl (show (opsTT p).toArray[48]? = some (oTT48 p) from rfl) rfl q48) rfl (enters_of Tryd.func7 (by kernel_rfl) rfl) (show Array.map a'.eval #[] = #[] from by simp) ((wakes8 K _ (K.grew hT (hR.und hNN))).mono ?_)
      rintro e w'' ⟨rfl, hb⟩
      exact ⟨_, rfl, _, rfl, rfl, Mk.grew hb (hR.le hNN)⟩
    · obtain rfl : oTT50 p = o := Option.some.inj ho
      obtain rfl : 80 = d := Option.some.inj hd
      have q48 : a'.tmps.getD 78 undef = .bool true := hp 48 (oTT48 p) 78 rfl rfl rfl
      have q49 : a'.tmps.getD 79 undef = .bool true := hp 49 (oTT49 p) 79 rfl rfl rfl
      exact step_pick rfl rfl rfl q48 (show (if true = true then a'.tmps.getD 79 undef else _) = _ from q49) ⟨_, rfl, rfl, Mk.refl _⟩
    · obtain rfl : oTT51 p = o := Option.some.inj ho
      obtain rfl : 6 = d := Option.some.inj hd
      have q50 : a'.tmps.getD 80 undef = .bool true := hp 50 (oTT50 p) 80 rfl rfl rfl
      exact step_assign rfl rfl rfl q50 ⟨_, rfl, rfl, Mk.refl _⟩
    · exact absurd ((Array.getElem?_eq_some_iff.1 ho).1) (by simp [opsTT])
  · intro a' w' hF hR hp
    have e0 : psiTT T K xa xb pa pb A7 L7 c7 A9 L9 c9 n X N 0 (a'.tmps.getD 30 undef) w' := hp 0 (oTT0 p) 30 rfl rfl
    have e1 : psiTT T K xa xb pa pb A7 L7 c7 A9 L9 c9 n X N 1 (a'.tmps.getD 31 undef) w' := hp 1 (oTT1 p) 31 rfl rfl
    have e2 : psiTT T K xa xb pa pb A7 L7 c7 A9 L9 c9 n X N 2 (a'.tmps.getD 32 undef) w' := hp 2 (oTT2 p) 32 rfl rfl
    have e3 : psiTT T K xa xb pa pb A7 L7 c7 A9 L9 c9 n X N 3 (a'.tmps.getD 33 undef) w' := hp 3 (oTT3 p) 33 rfl rfl
    have e4 : psiTT T K xa xb pa pb A7 L7 c7 A9 L9 c9 n X N 4 (a'.tmps.getD 34 undef) w' := hp 4 (oTT4 p) 34 rfl rfl
    have e5 : psiTT T K xa xb pa pb A7 L7 c7 A9 L9 c9 n X N 5 (a'.tmps.getD 35 undef) w' := hp 5 (oTT5 p) 35 rfl rfl
    have e6 : psiTT T K xa xb pa pb A7 L7 c7 A9 L9 c9 n X N 6 (a'.tmps.getD 36 undef) w' := hp 6 (oTT6 p) 36 rfl rfl
    have e7 : psiTT T K xa xb pa pb A7 L7 c7 A9 L9 c9 n X N 7 (a'.tmps.getD 37 undef) w' := hp 7 (oTT7 p) 37 rfl rfl
    have e8 : psiTT T K xa xb pa pb A7 L7 c7 A9 L9 c9 n X N 8 (a'.tmps.getD 38 undef) w' := hp 8 (oTT8 p) 38 rfl rfl
    have e9 : psiTT T K xa xb pa pb A7 L7 c7 A9 L9 c9 n X N 9 (a'.tmps.getD 39 undef) w' := hp 9 (oTT9 p) 39 rfl rfl
    have e10 : psiTT T K xa xb pa pb A7 L7 c7 A9 L9 c9 n X N 10 (a'.tmps.getD 40 undef) w' := hp 10 (oTT10 p) 40 rfl rfl
    have e11 : psiTT T K xa xb pa pb A7 L7 c7 A9 L9 c9 n X N 11 (a'.tmps.getD 41 undef) w' := hp 11 (oTT11 p) 41 rfl rfl
    have e12 : psiTT T K xa xb pa pb A7 L7 c7 A9 L9 c9 n X N 12 (a'.tmps.getD 42 undef) w' := hp 12 (oTT12 p) 42 rfl rfl
    have e13 : psiTT T K xa xb pa pb A7 L7 c7 A9 L9 c9 n X N 13 (a'.tmps.getD 43 undef) w' := hp 13 (oTT13 p) 43 rfl rfl
    have e14 : psiTT T K xa xb pa pb A7 L7 c7 A9 L9 c9 n X N 14 (a'.tmps.getD 44 undef) w' := hp 14 (oTT14 p) 44 rfl rfl
    have e15 : psiTT T K xa xb pa pb A7 L7 c7 A9 L9 c9 n X N 15 (a'.tmps.getD 45 undef) w' := hp 15 (oTT15 p) 45 rfl rfl
    have e16 : psiTT T K xa xb pa pb A7 L7 c7 A9 L9 c9 n X N 16 (a'.tmps.getD 46 undef) w' := hp 16 (oTT16 p) 46 rfl rfl
    have e17 : psiTT T K xa xb pa pb A7 L7 c7 A9 L9 c9 n X N 17 (a'.tmps.getD 47 undef) w' := hp 17 (oTT17 p) 47 rfl rfl
    have e18 : psiTT T K xa xb pa pb A7 L7 c7 A9 L9 c9 n X N 18 (a'.tmps.getD 48 undef) w' := hp 18 (oTT18 p) 48 rfl rfl
    have e19 : psiTT T K xa xb pa pb A7 L7 c7 A9 L9 c9 n X N 19 (a'.tmps.getD 49 undef) w' := hp 19 (oTT19 p) 49 rfl rfl
    have e20 : psiTT T K xa xb pa pb A7 L7 c7 A9 L9 c9 n X N 20 (a'.tmps.getD 50 undef) w' := hp 20 (oTT20 p) 50 rfl rfl
    have e21 : psiTT T K xa xb pa pb A7 L7 c7 A9 L9 c9 n X N 21 (a'.tmps.getD 51 undef) w' := hp 21 (oTT21 p) 51 rfl rfl
    have e22 : psiTT T K xa xb pa pb A7 L7 c7 A9 L9 c9 n X N 22 (a'.tmps.getD 52 undef) w' := hp 22 (oTT22 p) 52 rfl rfl
    have e23 : psiTT T K xa xb pa pb A7 L7 c7 A9 L9 c9 n X N 23 (a'.tmps.getD 53 undef) w' := hp 23 (oTT23 p) 53 rfl rfl
    have e24 : psiTT T K xa xb pa pb A7 L7 c7 A9 L9 c9 n X N 24 (a'.tmps.getD 54 undef) w' := hp 24 (oTT24 p) 54 rfl rfl
    have e25 : psiTT T K xa xb pa pb A7 L7 c7 A9 L9 c9 n X N 25 (a'.tmps.getD 55 undef) w' := hp 25 (oTT25 p) 55 rfl rfl
    have e26 : psiTT T K xa xb pa pb A7 L7 c7 A9 L9 c9 n X N 26 (a'.tmps.getD 56 undef) w' := hp 26 (oTT26 p) 56 rfl rfl
    have e27 : psiTT T K xa xb pa pb A7 L7 c7 A9 L9 c9 n X N 27 (a'.tmps.getD 57 undef) w' := hp 27 (oTT27 p) 57 rfl rfl
    have e28 : psiTT T K xa xb pa pb A7 L7 c7 A9 L9 c9 n X N 28 (a'.tmps.getD 58 undef) w' := hp 28 (oTT28 p) 58 rfl rfl
    have e29 : psiTT T K xa xb pa pb A7 L7 c7 A9 L9 c9 n X N 29 (a'.tmps.getD 59 undef) w' := hp 29 (oTT29 p) 59 rfl rfl
    have e30 : psiTT T K xa xb pa pb A7 L7 c7 A9 L9 c9 n X N 30 (a'.tmps.getD 60 undef) w' := hp 30 (oTT30 p) 60 rfl rfl
    have e31 : psiTT T K xa xb pa pb A7 L7 c7 A9 L9 c9 n X N 31 (a'.tmps.getD 61 undef) w' := hp 31 (oTT31 p) 61 rfl rfl
    have e32 : psiTT T K xa xb pa pb A7 L7 c7 A9 L9 c9 n X N 32 (a'.tmps.getD 62 undef) w' := hp 32 (oTT32 p) 62 rfl rfl
    have e33 : psiTT T K xa xb pa pb A7 L7 c7 A9 L9 c9 n X N 33 (a'.tmps.getD 63 undef) w' := hp 33 (oTT33 p) 63 rfl rfl
    have e34 : psiTT T K xa xb pa pb A7 L7 c7 A9 L9 c9 n X N 34 (a'.tmps.getD 64 undef) w' := hp 34 (oTT34 p) 64 rfl rfl
    have e35 : psiTT T K xa xb pa pb A7 L7 c7 A9 L9 c9 n X N 35 (a'.tmps.getD 65 undef) w' := hp 35 (oTT35 p) 65 rfl rfl
    have e36 : psiTT T K xa xb pa pb A7 L7 c7 A9 L9 c9 n X N 36 (a'.tmps.getD 66 undef) w' := hp 36 (oTT36 p) 66 rfl rfl
    have e37 : psiTT T K xa xb pa pb A7 L7 c7 A9 L9 c9 n X N 37 (a'.tmps.getD 67 undef) w' := hp 37 (oTT37 p) 67 rfl rfl
    have e38 : psiTT T K xa xb pa pb A7 L7 c7 A9 L9 c9 n X N 38 (a'.tmps.getD 68 undef) w' := hp 38 (oTT38 p) 68 rfl rfl
    have e39 : psiTT T K xa xb pa pb A7 L7 c7 A9 L9 c9 n X N 39 (a'.tmps.getD 69 undef) w' := hp 39 (oTT39 p) 69 rfl rfl
    have e40 : psiTT T K xa xb pa pb A7 L7 c7 A9 L9 c9 n X N 40 (a'.tmps.getD 70 undef) w' := hp 40 (oTT40 p) 70 rfl rfl
    have e41 : psiTT T K xa xb pa pb A7 L7 c7 A9 L9 c9 n X N 41 (a'.tmps.getD 71 undef) w' := hp 41 (oTT41 p) 71 rfl rfl
    have e42 : psiTT T K xa xb pa pb A7 L7 c7 A9 L9 c9 n X N 42 (a'.tmps.getD 72 undef) w' := hp 42 (oTT42 p) 72 rfl rfl
    have e43 : psiTT T K xa xb pa pb A7 L7 c7 A9 L9 c9 n X N 43 (a'.tmps.getD 73 undef) w' := hp 43 (oTT43 p) 73 rfl rfl
    have e44 : psiTT T K xa xb pa pb A7 L7 c7 A9 L9 c9 n X N 44 (a'.tmps.getD 74 undef) w' := hp 44 (oTT44 p) 74 rfl rfl
    have e45 : psiTT T K xa xb pa pb A7 L7 c7 A9 L9 c9 n X N 45 (a'.tmps.getD 75 undef) w' := hp 45 (oTT45 p) 75 rfl rfl
    have e46 : psiTT T K xa xb pa pb A7 L7 c7 A9 L9 c9 n X N 46 (a'.tmps.getD 76 undef) w' := hp 46 (oTT46 p) 76 rfl rfl
    have e47 : psiTT T K xa xb pa pb A7 L7 c7 A9 L9 c9 n X N 47 (a'.tmps.getD 77 undef) w' := hp 47 (oTT47 p) 77 rfl rfl
    have e48 : psiTT T K xa xb pa pb A7 L7 c7 A9 L9 c9 n X N 48 (a'.tmps.getD 78 undef) w' := hp 48 (oTT48 p) 78 rfl rfl
    have e49 : psiTT T K xa xb pa pb A7 L7 c7 A9 L9 c9 n X N 49 (a'.tmps.getD 79 undef) w' := hp 49 (oTT49 p) 79 rfl rfl
    have e50 : psiTT T K xa xb pa pb A7 L7 c7 A9 L9 c9 n X N 50 (a'.tmps.getD 80 undef) w' := hp 50 (oTT50 p) 80 rfl rfl
    have e51 : psiTT T K xa xb pa pb A7 L7 c7 A9 L9 c9 n X N 51 (a'.tmps.getD 6 undef) w' := hp 51 (oTT51 p) 6 rfl rfl
    rw [hF.puts [(30, xa.val), (31, .int .i64 0), (32, .bool true), (33, xa.val), (34, .bool true), (35, .bool true), (36, .bool true), (37, xa.val), (38, .bool true), (39, .bool true), (40, undef), (41, undef), (42, undef), (43, .bool true), (44, .bool true), (45, .bool true), (46, a'.tmps.getD 46 undef), (47, a'.tmps.getD 47 undef), (48, xa.val), (49, a'.tmps.getD 49 undef), (50, .string (str ([122] ++ xa.m.one))), (51, xa.val), (52, a'.tmps.getD 52 undef), (53, .string (str (xa.m.one))), (54, .string (str ([122] ++ xa.m.one))), (55, .bool true), (56, .bool true), (57, .bool true), (58, xa.val), (59, xb.val), (60, .bool (xa.same xb)), (61, xa.val), (62, xb.val), (63, .bool (xa.same xb)), (64, .bool true), (65, .bool true), (66, .bool true), (67, .int .i64 (n : Int)), (68, .int .i64 (n : Int)), (69, .bool true), (70, .bool true), (71, .bool true), (72, .slice A7 L7 c7), (73, .string (str X)), (74, .slice A9 L9 c9), (75, .string (str X)), (76, .bool true), (77, .bool true), (78, .bool true), (79, .bool true), (80, .bool true), (6, .bool true)] ?_ rfl (by rw [hN]; rfl)]
    · exact hQ _ _ _ _ w' e16 e17 e19 e22 (hR.und hNN)
    · intro x hx
      simp only [List.mem_cons, List.not_mem_nil, or_false] at hx
      rcases hx with rfl | rfl | rfl | rfl | rfl | rfl | rfl | rfl | rfl | rfl | rfl | rfl | rfl | rfl | rfl | rfl | rfl | rfl | rfl | rfl | rfl | rfl | rfl | rfl | rfl | rfl | rfl | rfl | rfl | rfl | rfl | rfl | rfl | rfl | rfl | rfl | rfl | rfl | rfl | rfl | rfl | rfl | rfl | rfl | rfl | rfl | rfl | rfl | rfl | rfl | rfl | rfl
      · exact e0
      · exact e1
      · exact e2
      · exact e3
      · exact e4
      · exact e5
      · exact e6
      · exact e7
      · exact e8
      · exact e9
      · exact e10
      · exact e11
      · exact e12
      · exact e13
      · exact e14
      · exact e15
      · exact rfl
      · exact rfl
      · exact e18
      · exact rfl
      · exact e20
      · exact e21
      · exact rfl
      · exact e23
      · exact e24
      · exact e25
      · exact e26
      · exact e27
      · exact e28
      · exact e29
      · exact e30
      · exact e31
      · exact e32
      · exact e33
      · exact e34
      · exact e35
      · exact e36
      · exact e37
      · exact e38
      · exact e39
      · exact e40
      · exact e41
      · exact e42
      · exact e43
      · exact e44
      · exact e45
      · exact e46
      · exact e47
      · exact e48
      · exact e49
      · exact e50
      · exact e51
def oTF0 (p : String) : Oper := { dst := some 30, op := Op.load 26 (Operand.tmp 4), type := 26, pos := p, after := #[], guard := none }
def oTF1 (p : String) : Oper := { dst := some 31, op := Op.call { callee := Callee.value (Operand.func 10), args := #[Operand.tmp 30], argTypes := #[26] }, type := 30, pos := p, after := #[{ on := 0, ground := Ground.data }], guard := none }
def oTF2 (p : String) : Oper := { dst := some 32, op := Op.binOp BinOp.eql 30 (Operand.tmp 31) (Operand.const (Value.int IntKind.i64 0)) 30, type := 4, pos := p, after := #[{ on := 1, ground := Ground.data }], guard := none }
def oTF3 (p : String) : Oper := { dst := some 33, op := Op.load 26 (Operand.tmp 4), type := 26, pos := p, after := #[], guard := none }
def oTF4 (p : String) : Oper := { dst := some 34, op := Op.call { callee := Callee.value (Operand.func 11), args := #[Operand.tmp 33], argTypes := #[26] }, type := 4, pos := p, after := #[{ on := 3, ground := Ground.data }, { on := 1, ground := Ground.chain }], guard := none }
def oTF5 (p : String) : Oper := { dst := some 35, op := Op.binOp BinOp.eql 4 (Operand.tmp 32) (Operand.tmp 34) 4, type := 4, pos := p, after := #[{ on := 2, ground := Ground.data }, { on := 4, ground := Ground.data }], guard := none }
def oTF6 (p : String) : Oper := { dst := some 36, op := Op.move (Operand.tmp 35), type := 4, pos := p, after := #[{ on := 5, ground := Ground.data }, { on := 4, ground := Ground.chain }], guard := none }
def oTF7 (p : String) : Oper := { dst := some 37, op := Op.load 26 (Operand.tmp 4), type := 26, pos := p, after := #[{ on := 6, ground := Ground.guard }], guard := some (6, true) }
def oTF8 (p : String) : Oper := { dst := some 38, op := Op.call { callee := Callee.value (Operand.func 11), args := #[Operand.tmp 37], argTypes := #[26] }, type := 4, pos := p, after := #[{ on := 7, ground := Ground.data }, { on := 6, ground := Ground.chain }, { on := 6, ground := Ground.guard }], guard := some (6, true) }
def oTF9 (p : String) : Oper := { dst := some 39, op := Op.move (Operand.tmp 38), type := 4, pos := p, after := #[{ on := 8, ground := Ground.data }, { on := 8, ground := Ground.chain }, { on := 6, ground := Ground.guard }], guard := some (6, true) }
def oTF10 (p : String) : Oper := { dst := some 40, op := Op.load 26 (Operand.tmp 4), type := 26, pos := p, after := #[{ on := 9, ground := Ground.guard }], guard := some (9, false) }
def oTF11 (p : String) : Oper := { dst := some 41, op := Op.call { callee := Callee.value (Operand.func 10), args := #[Operand.tmp 40], argTypes := #[26] }, type := 30, pos := p, after := #[{ on := 10, ground := Ground.data }, { on := 9, ground := Ground.chain }, { on := 9, ground := Ground.guard }], guard := some (9, false) }
def oTF12 (p : String) : Oper := { dst := some 42, op := Op.binOp BinOp.eql 30 (Operand.tmp 41) (Operand.const (Value.int IntKind.i64 1)) 30, type := 4, pos := p, after := #[{ on := 11, ground := Ground.data }, { on := 9, ground := Ground.guard }], guard := some (9, false) }
def oTF13 (p : String) : Oper := { dst := some 43, op := Op.pick (Operand.tmp 39) (Operand.const (Value.bool true)) (Operand.tmp 42), type := 4, pos := p, after := #[{ on := 9, ground := Ground.data }, { on := 12, ground := Ground.data }, { on := 6, ground := Ground.guard }], guard := some (6, true) }
def oTF14 (p : String) : Oper := { dst := some 44, op := Op.pick (Operand.tmp 36) (Operand.tmp 43) (Operand.const (Value.bool false)), type := 4, pos := p, after := #[{ on := 6, ground := Ground.data }, { on := 13, ground := Ground.data }], guard := none }
def oTF15 (p : String) : Oper := { dst := some 45, op := Op.move (Operand.tmp 44), type := 4, pos := p, after := #[{ on := 14, ground := Ground.data }, { on := 11, ground := Ground.chain }], guard := none }
def oTF16 (p : String) : Oper := { dst := some 46, op := Op.buildSlice 29 1 #[(0, Operand.const (Value.int IntKind.u8 122))], type := 29, pos := p, after := #[{ on := 15, ground := Ground.guard }], guard := some (15, true) }
def oTF17 (p : String) : Oper := { dst := some 47, op := Op.convert 29 29 (Operand.tmp 46), type := 29, pos := p, after := #[{ on := 16, ground := Ground.data }, { on := 15, ground := Ground.guard }], guard := some (15, true) }
def oTF18 (p : String) : Oper := { dst := some 48, op := Op.load 26 (Operand.tmp 4), type := 26, pos := p, after := #[{ on := 15, ground := Ground.guard }], guard := some (15, true) }
def oTF19 (p : String) : Oper := { dst := some 49, op := Op.call { callee := Callee.value (Operand.func 12), args := #[Operand.tmp 47, Operand.tmp 48], argTypes := #[29, 26] }, type := 29, pos := p, after := #[{ on := 17, ground := Ground.data }, { on := 18, ground := Ground.data }, { on := 15, ground := Ground.chain }, { on := 15, ground := Ground.guard }], guard := some (15, true) }
def oTF20 (p : String) : Oper := { dst := some 50, op := Op.convert 29 9 (Operand.tmp 49), type := 9, pos := p, after := #[{ on := 19, ground := Ground.data }, { on := 15, ground := Ground.guard }], guard := some (15, true) }
def oTF21 (p : String) : Oper := { dst := some 51, op := Op.load 26 (Operand.tmp 4), type := 26, pos := p, after := #[{ on := 15, ground := Ground.guard }], guard := some (15, true) }
def oTF22 (p : String) : Oper := { dst := some 52, op := Op.call { callee := Callee.value (Operand.func 13), args := #[Operand.tmp 51], argTypes := #[26] }, type := 29, pos := p, after := #[{ on := 21, ground := Ground.data }, { on := 19, ground := Ground.chain }, { on := 15, ground := Ground.guard }], guard := some (15, true) }
def oTF23 (p : String) : Oper := { dst := some 53, op := Op.convert 29 9 (Operand.tmp 52), type := 9, pos := p, after := #[{ on := 22, ground := Ground.data }, { on := 15, ground := Ground.guard }], guard := some (15, true) }
def oTF24 (p : String) : Oper := { dst := some 54, op := Op.binOp BinOp.add 9 (Operand.const (Value.string { data := #[122] })) (Operand.tmp 53) 9, type := 9, pos := p, after := #[{ on := 23, ground := Ground.data }, { on := 15, ground := Ground.guard }], guard := some (15, true) }
def oTF25 (p : String) : Oper := { dst := some 55, op := Op.binOp BinOp.eql 9 (Operand.tmp 50) (Operand.tmp 54) 9, type := 4, pos := p, after := #[{ on := 20, ground := Ground.data }, { on := 24, ground := Ground.data }, { on := 15, ground := Ground.guard }], guard := some (15, true) }
def oTF26 (p : String) : Oper := { dst := some 56, op := Op.pick (Operand.tmp 45) (Operand.tmp 55) (Operand.const (Value.bool false)), type := 4, pos := p, after := #[{ on := 15, ground := Ground.data }, { on := 25, ground := Ground.data }], guard := none }
def oTF27 (p : String) : Oper := { dst := some 57, op := Op.move (Operand.tmp 56), type := 4, pos := p, after := #[{ on := 26, ground := Ground.data }, { on := 22, ground := Ground.chain }], guard := none }
def oTF28 (p : String) : Oper := { dst := some 58, op := Op.load 26 (Operand.tmp 4), type := 26, pos := p, after := #[{ on := 27, ground := Ground.guard }], guard := some (27, true) }
def oTF29 (p : String) : Oper := { dst := some 59, op := Op.load 26 (Operand.tmp 5), type := 26, pos := p, after := #[{ on := 27, ground := Ground.guard }], guard := some (27, true) }
def oTF30 (p : String) : Oper := { dst := some 60, op := Op.call { callee := Callee.value (Operand.func 14), args := #[Operand.tmp 58, Operand.tmp 59], argTypes := #[26, 26] }, type := 4, pos := p, after := #[{ on := 28, ground := Ground.data }, { on := 29, ground := Ground.data }, { on := 27, ground := Ground.chain }, { on := 27, ground := Ground.guard }], guard := some (27, true) }
def oTF31 (p : String) : Oper := { dst := some 61, op := Op.load 26 (Operand.tmp 4), type := 26, pos := p, after := #[{ on := 27, ground := Ground.guard }], guard := some (27, true) }
def oTF32 (p : String) : Oper := { dst := some 62, op := Op.load 26 (Operand.tmp 5), type := 26, pos := p, after := #[{ on := 27, ground := Ground.guard }], guard := some (27, true) }
def oTF33 (p : String) : Oper := { dst := some 63, op := Op.call { callee := Callee.value (Operand.func 15), args := #[Operand.tmp 61, Operand.tmp 62], argTypes := #[26, 26] }, type := 4, pos := p, after := #[{ on := 31, ground := Ground.data }, { on := 32, ground := Ground.data }, { on := 30, ground := Ground.chain }, { on := 27, ground := Ground.guard }], guard := some (27, true) }
def oTF34 (p : String) : Oper := { dst := some 64, op := Op.binOp BinOp.eql 4 (Operand.tmp 60) (Operand.tmp 63) 4, type := 4, pos := p, after := #[{ on := 30, ground := Ground.data }, { on := 33, ground := Ground.data }, { on := 27, ground := Ground.guard }], guard := some (27, true) }
def oTF35 (p : String) : Oper := { dst := some 65, op := Op.pick (Operand.tmp 57) (Operand.tmp 64) (Operand.const (Value.bool false)), type := 4, pos := p, after := #[{ on := 27, ground := Ground.data }, { on := 34, ground := Ground.data }], guard := none }
def oTF36 (p : String) : Oper := { dst := some 66, op := Op.move (Operand.tmp 65), type := 4, pos := p, after := #[{ on := 35, ground := Ground.data }, { on := 33, ground := Ground.chain }], guard := none }
def oTF37 (p : String) : Oper := { dst := some 67, op := Op.move (Operand.tmp 8), type := 30, pos := p, after := #[{ on := 36, ground := Ground.guard }], guard := some (36, true) }
def oTF38 (p : String) : Oper := { dst := some 68, op := Op.move (Operand.tmp 10), type := 30, pos := p, after := #[{ on := 36, ground := Ground.guard }], guard := some (36, true) }
def oTF39 (p : String) : Oper := { dst := some 69, op := Op.binOp BinOp.eql 30 (Operand.tmp 67) (Operand.tmp 68) 30, type := 4, pos := p, after := #[{ on := 37, ground := Ground.data }, { on := 38, ground := Ground.data }, { on := 36, ground := Ground.guard }], guard := some (36, true) }
def oTF40 (p : String) : Oper := { dst := some 70, op := Op.pick (Operand.tmp 66) (Operand.tmp 69) (Operand.const (Value.bool false)), type := 4, pos := p, after := #[{ on := 36, ground := Ground.data }, { on := 39, ground := Ground.data }], guard := none }
def oTF41 (p : String) : Oper := { dst := some 71, op := Op.move (Operand.tmp 70), type := 4, pos := p, after := #[{ on := 40, ground := Ground.data }, { on := 36, ground := Ground.chain }], guard := none }
def oTF42 (p : String) : Oper := { dst := some 72, op := Op.move (Operand.tmp 7), type := 29, pos := p, after := #[{ on := 41, ground := Ground.guard }], guard := some (41, true) }
def oTF43 (p : String) : Oper := { dst := some 73, op := Op.convert 29 9 (Operand.tmp 72), type := 9, pos := p, after := #[{ on := 42, ground := Ground.data }, { on := 41, ground := Ground.guard }], guard := some (41, true) }
def oTF44 (p : String) : Oper := { dst := some 74, op := Op.move (Operand.tmp 9), type := 29, pos := p, after := #[{ on := 41, ground := Ground.guard }], guard := some (41, true) }
def oTF45 (p : String) : Oper := { dst := some 75, op := Op.convert 29 9 (Operand.tmp 74), type := 9, pos := p, after := #[{ on := 44, ground := Ground.data }, { on := 41, ground := Ground.guard }], guard := some (41, true) }
def oTF46 (p : String) : Oper := { dst := some 76, op := Op.binOp BinOp.eql 9 (Operand.tmp 73) (Operand.tmp 75) 9, type := 4, pos := p, after := #[{ on := 43, ground := Ground.data }, { on := 45, ground := Ground.data }, { on := 41, ground := Ground.guard }], guard := some (41, true) }
def oTF47 (p : String) : Oper := { dst := some 77, op := Op.pick (Operand.tmp 71) (Operand.tmp 76) (Operand.const (Value.bool false)), type := 4, pos := p, after := #[{ on := 41, ground := Ground.data }, { on := 46, ground := Ground.data }], guard := none }
def oTF48 (p : String) : Oper := { dst := some 78, op := Op.move (Operand.tmp 77), type := 4, pos := p, after := #[{ on := 47, ground := Ground.data }, { on := 41, ground := Ground.chain }], guard := none }
def oTF49 (p : String) : Oper := { dst := some 79, op := Op.call { callee := Callee.value (Operand.func 7), args := #[], argTypes := #[] }, type := 4, pos := p, after := #[{ on := 48, ground := Ground.chain }, { on := 48, ground := Ground.guard }], guard := some (48, true) }
def oTF50 (p : String) : Oper := { dst := some 80, op := Op.pick (Operand.tmp 78) (Operand.tmp 79) (Operand.const (Value.bool false)), type := 4, pos := p, after := #[{ on := 48, ground := Ground.data }, { on := 49, ground := Ground.data }], guard := none }
def oTF51 (p : String) : Oper := { dst := some 6, op := Op.assign (Operand.tmp 80), type := 4, pos := p, after := #[{ on := 50, ground := Ground.data }, { on := 49, ground := Ground.chain }, { on := 0, ground := Ground.phase }, { on := 1, ground := Ground.phase }, { on := 2, ground := Ground.phase }, { on := 3, ground := Ground.phase }, { on := 4, ground := Ground.phase }, { on := 5, ground := Ground.phase }, { on := 6, ground := Ground.phase }, { on := 7, ground := Ground.phase }, { on := 8, ground := Ground.phase }, { on := 9, ground := Ground.phase }, { on := 10, ground := Ground.phase }, { on := 11, ground := Ground.phase }, { on := 12, ground := Ground.phase }, { on := 13, ground := Ground.phase }, { on := 14, ground := Ground.phase }, { on := 15, ground := Ground.phase }, { on := 16, ground := Ground.phase }, { on := 17, ground := Ground.phase }, { on := 18, ground := Ground.phase }, { on := 19, ground := Ground.phase }, { on := 20, ground := Ground.phase }, { on := 21, ground := Ground.phase }, { on := 22, ground := Ground.phase }, { on := 23, ground := Ground.phase }, { on := 24, ground := Ground.phase }, { on := 25, ground := Ground.phase }, { on := 26, ground := Ground.phase }, { on := 27, ground := Ground.phase }, { on := 28, ground := Ground.phase }, { on := 29, ground := Ground.phase }, { on := 30, ground := Ground.phase }, { on := 31, ground := Ground.phase }, { on := 32, ground := Ground.phase }, { on := 33, ground := Ground.phase }, { on := 34, ground := Ground.phase }, { on := 35, ground := Ground.phase }, { on := 36, ground := Ground.phase }, { on := 37, ground := Ground.phase }, { on := 38, ground := Ground.phase }, { on := 39, ground := Ground.phase }, { on := 40, ground := Ground.phase }, { on := 41, ground := Ground.phase }, { on := 42, ground := Ground.phase }, { on := 43, ground := Ground.phase }, { on := 44, ground := Ground.phase }, { on := 45, ground := Ground.phase }, { on := 46, ground := Ground.phase }, { on := 47, ground := Ground.phase }, { on := 48, ground := Ground.phase }, { on := 49, ground := Ground.phase }, { on := 50, ground := Ground.phase }], guard := none }
def opsTF (p : String) : List Oper := [oTF0 p, oTF1 p, oTF2 p, oTF3 p, oTF4 p, oTF5 p, oTF6 p, oTF7 p, oTF8 p, oTF9 p, oTF10 p, oTF11 p, oTF12 p, oTF13 p, oTF14 p, oTF15 p, oTF16 p, oTF17 p, oTF18 p, oTF19 p, oTF20 p, oTF21 p, oTF22 p, oTF23 p, oTF24 p, oTF25 p, oTF26 p, oTF27 p, oTF28 p, oTF29 p, oTF30 p, oTF31 p, oTF32 p, oTF33 p, oTF34 p, oTF35 p, oTF36 p, oTF37 p, oTF38 p, oTF39 p, oTF40 p, oTF41 p, oTF42 p, oTF43 p, oTF44 p, oTF45 p, oTF46 p, oTF47 p, oTF48 p, oTF49 p, oTF50 p, oTF51 p]
theorem opsTF_back (p : String) : backwards (opsTF p) = true := by kernel_rfl
theorem opsTF_slots (p : String) : slotsOk 81 (opsTF p) = true := by kernel_rfl
/-- What each slot comes to. -/
def psiTF (T : World → Prop) (_K : CmdK T) (xa xb : CmdV) (_pa _pb : Nat) (A7 : Option Addr) (L7 c7 : Nat) (A9 : Option Addr) (L9 c9 n : Nat) (X : List UInt8) (N : Nat) : Nat → Value → World → Prop
  | 0, v, _ => v = xa.val
  | 1, v, _ => v = .int .i64 1
  | 2, v, _ => v = .bool false
  | 3, v, _ => v = xa.val
  | 4, v, _ => v = .bool false
  | 5, v, _ => v = .bool true
  | 6, v, _ => v = .bool true
  | 7, v, _ => v = xa.val
  | 8, v, _ => v = .bool false
  | 9, v, _ => v = .bool false
  | 10, v, _ => v = xa.val
  | 11, v, _ => v = .int .i64 1
  | 12, v, _ => v = .bool true
  | 13, v, _ => v = .bool true
  | 14, v, _ => v = .bool true
  | 15, v, _ => v = .bool true
  | 16, v, w => LitB N w v
  | 17, v, w => IsBc w v [122]
  | 18, v, _ => v = xa.val
  | 19, v, w => IsB w v ([122] ++ xa.m.one)
  | 20, v, _ => v = .string (str ([122] ++ xa.m.one))
  | 21, v, _ => v = xa.val
  | 22, v, w => IsB w v (xa.m.one)
  | 23, v, _ => v = .string (str (xa.m.one))
  | 24, v, _ => v = .string (str ([122] ++ xa.m.one))
  | 25, v, _ => v = .bool true
  | 26, v, _ => v = .bool true
  | 27, v, _ => v = .bool true
  | 28, v, _ => v = xa.val
  | 29, v, _ => v = xb.val
  | 30, v, _ => v = .bool (xa.same xb)
  | 31, v, _ => v = xa.val
  | 32, v, _ => v = xb.val
  | 33, v, _ => v = .bool (xa.same xb)
  | 34, v, _ => v = .bool true
  | 35, v, _ => v = .bool true
  | 36, v, _ => v = .bool true
  | 37, v, _ => v = .int .i64 (n : Int)
  | 38, v, _ => v = .int .i64 (n : Int)
  | 39, v, _ => v = .bool true
  | 40, v, _ => v = .bool true
  | 41, v, _ => v = .bool true
  | 42, v, _ => v = .slice A7 L7 c7
  | 43, v, _ => v = .string (str X)
  | 44, v, _ => v = .slice A9 L9 c9
  | 45, v, _ => v = .string (str X)
  | 46, v, _ => v = .bool true
  | 47, v, _ => v = .bool true
  | 48, v, _ => v = .bool true
  | 49, v, _ => v = .bool true
  | 50, v, _ => v = .bool true
  | 51, v, _ => v = .bool true
  | _, _, _ => True
theorem psiTF_grew (T : World → Prop) (K : CmdK T) (xa xb : CmdV) (pa pb : Nat) (A7 : Option Addr) (L7 c7 : Nat) (A9 : Option Addr) (L9 c9 n : Nat) (X : List UInt8) (N : Nat) : ∀ i v w w', psiTF T K xa xb pa pb A7 L7 c7 A9 L9 c9 n X N i v w → Mk N w w' → psiTF T K xa xb pa pb A7 L7 c7 A9 L9 c9 n X N i v w' := by
  intro i v w w' h hg
  rcases i with _ | _ | _ | _ | _ | _ | _ | _ | _ | _ | _ | _ | _ | _ | _ | _ | _ | _ | _ | _ | _ | _ | _ | _ | _ | _ | _ | _ | _ | _ | _ | _ | _ | _ | _ | _ | _ | _ | _ | _ | _ | _ | _ | _ | _ | _ | _ | _ | _ | _ | _ | _ | i
  · exact h
  · exact h
  · exact h
  · exact h
  · exact h
  · exact h
  · exact h
  · exact h
  · exact h
  · exact h
  · exact h
  · exact h
  · exact h
  · exact h
  · exact h
  · exact h
  · exact LitB.mk h hg
  · exact IsBc.mk h hg
  · exact h
  · exact IsB.mk h hg
  · exact h
  · exact h
  · exact IsB.mk h hg
  · exact h
  · exact h
  · exact h
  · exact h
  · exact h
  · exact h
  · exact h
  · exact h
  · exact h
  · exact h
  · exact h
  · exact h
  · exact h
  · exact h
  · exact h
  · exact h
  · exact h
  · exact h
  · exact h
  · exact h
  · exact h
  · exact h
  · exact h
  · exact h
  · exact h
  · exact h
  · exact h
  · exact h
  · exact h
  · trivial
set_option maxRecDepth 100000 in
set_option maxHeartbeats 4000000 in
theorem tells_TF {p : String} (T : World → Prop) (K : CmdK T) (xa xb : CmdV) (pa pb : Nat) (A7 : Option Addr) (L7 c7 : Nat) (A9 : Option Addr) (L9 c9 n : Nat) (X : List UInt8) (N : Nat) (hm : xa.m.may = false) (hsa : xa.m.Short) (hsb : xb.m.Short) (hL7 : L7 = X.length) (hL9 : L9 = X.length) (a : Act) (w : World) (Q : Exit → Act → World → Prop) (hN : a.tmps.size = 81) (h4 : a.tmps.getD 4 undef = .pointer (some ⟨pa, 0, none⟩)) (h5 : a.tmps.getD 5 undef = .pointer (some ⟨pb, 0, none⟩)) (h7 : a.tmps.getD 7 undef = .slice A7 L7 c7) (h8 : a.tmps.getD 8 undef = .int .i64 (n : Int)) (h9 : a.tmps.getD 9 undef = .slice A9 L9 c9) (h10 : a.tmps.getD 10 undef = .int .i64 (n : Int)) (hNN : w.heap.size = N) (hT : T w) (ha : xa.ok w) (hb0 : xb.ok w) (hpa : w.heap[pa]? = some (.cells xa.cells 26 (0, 0))) (hpb : w.heap[pb]? = some (.cells xb.cells 26 (0, 0))) (hA7 : HasA w w.heap.size A7 X) (hA9 : HasA w w.heap.size A9 X) (hQ : ∀ (v46 : Value), ∀ (v47 : Value), ∀ (v49 : Value), ∀ (v52 : Value), ∀ (w' : World), (fun v w => LitB N w v) v46 w' → (fun v w => IsBc w v [122]) v47 w' → (fun v w => IsB w v ([122] ++ xa.m.one)) v49 w' → (fun v w => IsB w v (xa.m.one)) v52 w' → Below w.heap.size w w' → Q .normal (puts [(30, xa.val), (31, .int .i64 1), (32, .bool false), (33, xa.val), (34, .bool false), (35, .bool true), (36, .bool true), (37, xa.val), (38, .bool false), (39, .bool false), (40, xa.val), (41, .int .i64 1), (42, .bool true), (43, .bool true), (44, .bool true), (45, .bool true), (46, v46), (47, v47), (48, xa.val), (49, v49), (50, .string (str ([122] ++ xa.m.one))), (51, xa.val), (52, v52), (53, .string (str (xa.m.one))), (54, .string (str ([122] ++ xa.m.one))), (55, .bool true), (56, .bool true), (57, .bool true), (58, xa.val), (59, xb.val), (60, .bool (xa.same xb)), (61, xa.val), (62, xb.val), (63, .bool (xa.same xb)), (64, .bool true), (65, .bool true), (66, .bool true), (67, .int .i64 (n : Int)), (68, .int .i64 (n : Int)), (69, .bool true), (70, .bool true), (71, .bool true), (72, .slice A7 L7 c7), (73, .string (str X)), (74, .slice A9 L9 c9), (75, .string (str X)), (76, .bool true), (77, .bool true), (78, .bool true), (79, .bool true), (80, .bool true), (6, .bool true)] a) w')
    : (Code.region 5 (opsTF p).toArray true).wp Tryd.prog Q a w := by
  refine (wpIn_wide (n := 1)).1 (wpIn_region_vals 81 hN follows (opsTF_back p) (opsTF_slots p) (Mk N) Mk.refl Mk.trans (psiTF T K xa xb pa pb A7 L7 c7 A9 L9 c9 n X N) (psiTF_grew T K xa xb pa pb A7 L7 c7 A9 L9 c9 n X N) ?_ ?_)
  · intro i o d ho hd a' w' hF hR hp
    rcases i with _ | _ | _ | _ | _ | _ | _ | _ | _ | _ | _ | _ | _ | _ | _ | _ | _ | _ | _ | _ | _ | _ | _ | _ | _ | _ | _ | _ | _ | _ | _ | _ | _ | _ | _ | _ | _ | _ | _ | _ | _ | _ | _ | _ | _ | _ | _ | _ | _ | _ | _ | _ | i
    · obtain rfl : oTF0 p = o := Option.some.inj ho
      obtain rfl : 30 = d := Option.some.inj hd
      exact step_load rfl rfl rfl (hF.at 4 rfl h4) (run_ldC _ _ 0 _ (fun i u hu => by have h := ((hR.und hNN).block pa (Array.getElem?_eq_some_iff.1 hpa).1).trans hpa; rw [Nat.zero_add]; rw [blk_cell h]; exact hu)) ⟨_, rfl, rfl, Mk.refl _⟩
    · obtain rfl : oTF1 p = o := Option.some.inj ho
      obtain rfl : 31 = d := Option.some.inj hd
      have q0 : a'.tmps.getD 30 undef = xa.val := hp 0 (oTF0 p) 30 rfl rfl rfl
      refine step_callC rfl rfl rfl (enters_of Tryd.func10 (by kernel_rfl) rfl) (show Array.map a'.eval #[.tmp 30] = _ from by simp only [List.map_toArray, List.map_cons, List.map_nil, Act.eval, q0]) ((K.check xa _ (K.grew hT (hR.und hNN)) (ha.below (hR.und hNN)) hsa).mono ?_)
      rintro e w'' ⟨he, hb⟩
      rw [if_neg (by rw [hm]; simp)] at he
      subst he
      exact ⟨_, rfl, _, rfl, rfl, Mk.grew hb (hR.le hNN)⟩
    · obtain rfl : oTF2 p = o := Option.some.inj ho
      obtain rfl : 32 = d := Option.some.inj hd
      have q1 : a'.tmps.getD 31 undef = .int .i64 1 := hp 1 (oTF1 p) 31 rfl rfl rfl
      exact step_bin rfl rfl rfl q1 rfl (guard_int _ _ _ _ _ _ _ _ _) ((run_eqi _ _ _ _ _).trans (by simp)) ⟨_, rfl, rfl, Mk.refl _⟩
    · obtain rfl : oTF3 p = o := Option.some.inj ho
      obtain rfl : 33 = d := Option.some.inj hd
      exact step_load rfl rfl rfl (hF.at 4 rfl h4) (run_ldC _ _ 0 _ (fun i u hu => by have h := ((hR.und hNN).block pa (Array.getElem?_eq_some_iff.1 hpa).1).trans hpa; rw [Nat.zero_add]; rw [blk_cell h]; exact hu)) ⟨_, rfl, rfl, Mk.refl _⟩
    · obtain rfl : oTF4 p = o := Option.some.inj ho
      obtain rfl : 34 = d := Option.some.inj hd
      have q3 : a'.tmps.getD 33 undef = xa.val := hp 3 (oTF3 p) 33 rfl rfl rfl
      refine step_callC rfl rfl rfl (enters_of Tryd.func11 (by kernel_rfl) rfl) (show Array.map a'.eval #[.tmp 33] = _ from by simp only [List.map_toArray, List.map_cons, List.map_nil, Act.eval, q3]) ((refMay_any xa _ (ha.below (hR.und hNN))).mono ?_)
      rintro e w'' ⟨he, hb⟩
      rw [hm] at he
      subst he
      exact ⟨_, rfl, _, rfl, rfl, Mk.grew hb (hR.le hNN)⟩
    · obtain rfl : oTF5 p = o := Option.some.inj ho
      obtain rfl : 35 = d := Option.some.inj hd
      have q2 : a'.tmps.getD 32 undef = .bool false := hp 2 (oTF2 p) 32 rfl rfl rfl
      have q4 : a'.tmps.getD 34 undef = .bool false := hp 4 (oTF4 p) 34 rfl rfl rfl
      exact step_bin rfl rfl rfl q2 q4 (guard_bool _ _ _ _ _ _ _) ((run_eqb _ Tryd.underlying4 _ _ _).trans (by simp)) ⟨_, rfl, rfl, Mk.refl _⟩
    · obtain rfl : oTF6 p = o := Option.some.inj ho
      obtain rfl : 36 = d := Option.some.inj hd
      have q5 : a'.tmps.getD 35 undef = .bool true := hp 5 (oTF5 p) 35 rfl rfl rfl
      exact step_move rfl rfl rfl q5 ⟨_, rfl, rfl, Mk.refl _⟩
    · obtain rfl : oTF7 p = o := Option.some.inj ho
      obtain rfl : 37 = d := Option.some.inj hd
      have q6 : a'.tmps.getD 36 undef = .bool true := hp 6 (oTF6 p) 36 rfl rfl rfl
      exact step_load rfl (wanted_on rfl (show (opsTF p).toArray[6]? = some (oTF6 p) from rfl) rfl q6) rfl (hF.at 4 rfl h4) (run_ldC _ _ 0 _ (fun i u hu => by have h := ((hR.und hNN).block pa (Array.getElem?_eq_some_iff.1 hpa).1).trans hpa; rw [Nat.zero_add]; rw [blk_cell h]; exact hu)) ⟨_, rfl, rfl, Mk.refl _⟩
    · obtain rfl : oTF8 p = o := Option.some.inj ho
      obtain rfl : 38 = d := Option.some.inj hd
      have q6 : a'.tmps.getD 36 undef = .bool true := hp 6 (oTF6 p) 36 rfl rfl rfl
      have q7 : a'.tmps.getD 37 undef = xa.val := hp 7 (oTF7 p) 37 rfl rfl rfl
      refine step_callC rfl (wanted_on rfl (show (opsTF p).toArray[6]? = some (oTF6 p) from rfl) rfl q6) rfl (enters_of Tryd.func11 (by kernel_rfl) rfl) (show Array.map a'.eval #[.tmp 37] = _ from by simp only [List.map_toArray, List.map_cons, List.map_nil, Act.eval, q7]) ((refMay_any xa _ (ha.below (hR.und hNN))).mono ?_)
      rintro e w'' ⟨he, hb⟩
      rw [hm] at he
      subst he
      exact ⟨_, rfl, _, rfl, rfl, Mk.grew hb (hR.le hNN)⟩
    · obtain rfl : oTF9 p = o := Option.some.inj ho
      obtain rfl : 39 = d := Option.some.inj hd
      have q6 : a'.tmps.getD 36 undef = .bool true := hp 6 (oTF6 p) 36 rfl rfl rfl
      have q8 : a'.tmps.getD 38 undef = .bool false := hp 8 (oTF8 p) 38 rfl rfl rfl
      exact step_move rfl (wanted_on rfl (show (opsTF p).toArray[6]? = some (oTF6 p) from rfl) rfl q6) rfl q8 ⟨_, rfl, rfl, Mk.refl _⟩
    · obtain rfl : oTF10 p = o := Option.some.inj ho
      obtain rfl : 40 = d := Option.some.inj hd
      have q9 : a'.tmps.getD 39 undef = .bool false := hp 9 (oTF9 p) 39 rfl rfl rfl
      exact step_load rfl (wanted_on rfl (show (opsTF p).toArray[9]? = some (oTF9 p) from rfl) rfl q9) rfl (hF.at 4 rfl h4) (run_ldC _ _ 0 _ (fun i u hu => by have h := ((hR.und hNN).block pa (Array.getElem?_eq_some_iff.1 hpa).1).trans hpa; rw [Nat.zero_add]; rw [blk_cell h]; exact hu)) ⟨_, rfl, rfl, Mk.refl _⟩
    · obtain rfl : oTF11 p = o := Option.some.inj ho
      obtain rfl : 41 = d := Option.some.inj hd
      have q9 : a'.tmps.getD 39 undef = .bool false := hp 9 (oTF9 p) 39 rfl rfl rfl
      have q10 : a'.tmps.getD 40 undef = xa.val := hp 10 (oTF10 p) 40 rfl rfl rfl
      refine step_callC rfl (wanted_on rfl (show (opsTF p).toArray[9]? = some (oTF9 p) from rfl) rfl q9) rfl (enters_of Tryd.func10 (by kernel_rfl) rfl) (show Array.map a'.eval #[.tmp 40] = _ from by simp only [List.map_toArray, List.map_cons, List.map_nil, Act.eval, q10]) ((K.check xa _ (K.grew hT (hR.und hNN)) (ha.below (hR.und hNN)) hsa).mono ?_)
      rintro e w'' ⟨he, hb⟩
      rw [if_neg (by rw [hm]; simp)] at he
      subst he
      exact ⟨_, rfl, _, rfl, rfl, Mk.grew hb (hR.le hNN)⟩
    · obtain rfl : oTF12 p = o := Option.some.inj ho
      obtain rfl : 42 = d := Option.some.inj hd
      have q9 : a'.tmps.getD 39 undef = .bool false := hp 9 (oTF9 p) 39 rfl rfl rfl
      have q11 : a'.tmps.getD 41 undef = .int .i64 1 := hp 11 (oTF11 p) 41 rfl rfl rfl
      exact step_bin rfl (wanted_on rfl (show (opsTF p).toArray[9]? = some (oTF9 p) from rfl) rfl q9) rfl q11 rfl (guard_int _ _ _ _ _ _ _ _ _) ((run_eqi _ _ _ _ _).trans (by simp)) ⟨_, rfl, rfl, Mk.refl _⟩
    · obtain rfl : oTF13 p = o := Option.some.inj ho
      obtain rfl : 43 = d := Option.some.inj hd
      have q6 : a'.tmps.getD 36 undef = .bool true := hp 6 (oTF6 p) 36 rfl rfl rfl
      have q9 : a'.tmps.getD 39 undef = .bool false := hp 9 (oTF9 p) 39 rfl rfl rfl
      have q12 : a'.tmps.getD 42 undef = .bool true := hp 12 (oTF12 p) 42 rfl rfl rfl
      exact step_pick rfl (wanted_on rfl (show (opsTF p).toArray[6]? = some (oTF6 p) from rfl) rfl q6) rfl q9 (show (if false = true then _ else a'.tmps.getD 42 undef) = _ from q12) ⟨_, rfl, rfl, Mk.refl _⟩
    · obtain rfl : oTF14 p = o := Option.some.inj ho
      obtain rfl : 44 = d := Option.some.inj hd
      have q6 : a'.tmps.getD 36 undef = .bool true := hp 6 (oTF6 p) 36 rfl rfl rfl
      have q13 : a'.tmps.getD 43 undef = .bool true := hp 13 (oTF13 p) 43 rfl rfl rfl
      exact step_pick rfl rfl rfl q6 (show (if true = true then a'.tmps.getD 43 undef else _) = _ from q13) ⟨_, rfl, rfl, Mk.refl _⟩
    · obtain rfl : oTF15 p = o := Option.some.inj ho
      obtain rfl : 45 = d := Option.some.inj hd
      have q14 : a'.tmps.getD 44 undef = .bool true := hp 14 (oTF14 p) 44 rfl rfl rfl
      exact step_move rfl rfl rfl q14 ⟨_, rfl, rfl, Mk.refl _⟩
    · obtain rfl : oTF16 p = o := Option.some.inj ho
      obtain rfl : 46 = d := Option.some.inj hd
      have q15 : a'.tmps.getD 45 undef = .bool true := hp 15 (oTF15 p) 45 rfl rfl rfl
      exact step_bs1 rfl (wanted_on rfl (show (opsTF p).toArray[15]? = some (oTF15 p) from rfl) rfl q15) rfl ⟨_, rfl, LitB.new (hR.le hNN), Mk.grew ((Below.refl _ w').alloc (Nat.le_refl _) _) (hR.le hNN)⟩
    · obtain rfl : oTF17 p = o := Option.some.inj ho
      obtain rfl : 47 = d := Option.some.inj hd
      have q15 : a'.tmps.getD 45 undef = .bool true := hp 15 (oTF15 p) 45 rfl rfl rfl
      have q16 : (fun v w => LitB N w v) (a'.tmps.getD 46 undef) w' := hp 16 (oTF16 p) 46 rfl rfl rfl
      obtain ⟨g, hv, hg, fr, hh⟩ := q16
      obtain ⟨w'', hr, hw, hi⟩ := run_cvB w' g fr hh
      exact step_cvW rfl (wanted_on rfl (show (opsTF p).toArray[15]? = some (oTF15 p) from rfl) rfl q15) rfl hv hr ⟨_, rfl, hi, hw N hg⟩
    · obtain rfl : oTF18 p = o := Option.some.inj ho
      obtain rfl : 48 = d := Option.some.inj hd
      have q15 : a'.tmps.getD 45 undef = .bool true := hp 15 (oTF15 p) 45 rfl rfl rfl
      exact step_load rfl (wanted_on rfl (show (opsTF p).toArray[15]? = some (oTF15 p) from rfl) rfl q15) rfl (hF.at 4 rfl h4) (run_ldC _ _ 0 _ (fun i u hu => by have h := ((hR.und hNN).block pa (Array.getElem?_eq_some_iff.1 hpa).1).trans hpa; rw [Nat.zero_add]; rw [blk_cell h]; exact hu)) ⟨_, rfl, rfl, Mk.refl _⟩
    · obtain rfl : oTF19 p = o := Option.some.inj ho
      obtain rfl : 49 = d := Option.some.inj hd
      have q15 : a'.tmps.getD 45 undef = .bool true := hp 15 (oTF15 p) 45 rfl rfl rfl
      have q17 : (fun v w => IsBc w v [122]) (a'.tmps.getD 47 undef) w' := hp 17 (oTF17 p) 47 rfl rfl rfl
      have q18 : a'.tmps.getD 48 undef = xa.val := hp 18 (oTF18 p) 48 rfl rfl rfl
      obtain ⟨A, L, c, hv, h1, h2, h3⟩ := q17
      refine step_callC rfl (wanted_on rfl (show (opsTF p).toArray[15]? = some (oTF15 p) from rfl) rfl q15) rfl (enters_of Tryd.func12 (by kernel_rfl) rfl) (show Array.map a'.eval #[.tmp 47, .tmp 48] = #[.slice A L c, xa.val] from by simp only [List.map_toArray, List.map_cons, List.map_nil, Act.eval, hv, q18]) ((K.put A L c [122] xa _ (K.grew hT (hR.und hNN)) h1 h2 (by rw [h1]; simp) h3 (ha.below (hR.und hNN)) hsa).mono ?_)
      rintro e w'' ⟨v, n', rfl, hv, hb⟩
      exact ⟨_, rfl, _, rfl, IsB.own hv, Mk.grew hb (hR.le hNN)⟩
    · obtain rfl : oTF20 p = o := Option.some.inj ho
      obtain rfl : 50 = d := Option.some.inj hd
      have q15 : a'.tmps.getD 45 undef = .bool true := hp 15 (oTF15 p) 45 rfl rfl rfl
      have q19 : (fun v w => IsB w v ([122] ++ xa.m.one)) (a'.tmps.getD 49 undef) w' := hp 19 (oTF19 p) 49 rfl rfl rfl
      exact step_conv rfl (wanted_on rfl (show (opsTF p).toArray[15]? = some (oTF15 p) from rfl) rfl q15) rfl (show IsB w' (a'.tmps.getD 49 undef) _ from q19) ⟨_, rfl, rfl, Mk.refl _⟩
    · obtain rfl : oTF21 p = o := Option.some.inj ho
      obtain rfl : 51 = d := Option.some.inj hd
      have q15 : a'.tmps.getD 45 undef = .bool true := hp 15 (oTF15 p) 45 rfl rfl rfl
      exact step_load rfl (wanted_on rfl (show (opsTF p).toArray[15]? = some (oTF15 p) from rfl) rfl q15) rfl (hF.at 4 rfl h4) (run_ldC _ _ 0 _ (fun i u hu => by have h := ((hR.und hNN).block pa (Array.getElem?_eq_some_iff.1 hpa).1).trans hpa; rw [Nat.zero_add]; rw [blk_cell h]; exact hu)) ⟨_, rfl, rfl, Mk.refl _⟩
    · obtain rfl : oTF22 p = o := Option.some.inj ho
      obtain rfl : 52 = d := Option.some.inj hd
      have q15 : a'.tmps.getD 45 undef = .bool true := hp 15 (oTF15 p) 45 rfl rfl rfl
      have q21 : a'.tmps.getD 51 undef = xa.val := hp 21 (oTF21 p) 51 rfl rfl rfl
      refine step_callC rfl (wanted_on rfl (show (opsTF p).toArray[15]? = some (oTF15 p) from rfl) rfl q15) rfl (enters_of Tryd.func13 (by kernel_rfl) rfl) (show Array.map a'.eval #[.tmp 51] = _ from by simp only [List.map_toArray, List.map_cons, List.map_nil, Act.eval, q21]) ((refOne_any xa _ (ha.below (hR.und hNN)) (Nat.le_trans hsa.ks (by omega)) (fun k hk => Nat.le_trans (hsa.each k hk) (by omega)) (Nat.le_trans hsa.old (by omega)) (Nat.le_trans hsa.new (by omega))).mono ?_)
      rintro e w'' ⟨g, L, c, rfl, ho, hb⟩
      exact ⟨_, rfl, _, rfl, IsB.own ho, Mk.grew hb (hR.le hNN)⟩
    · obtain rfl : oTF23 p = o := Option.some.inj ho
      obtain rfl : 53 = d := Option.some.inj hd
      have q15 : a'.tmps.getD 45 undef = .bool true := hp 15 (oTF15 p) 45 rfl rfl rfl
      have q22 : (fun v w => IsB w v (xa.m.one)) (a'.tmps.getD 52 undef) w' := hp 22 (oTF22 p) 52 rfl rfl rfl
      exact step_conv rfl (wanted_on rfl (show (opsTF p).toArray[15]? = some (oTF15 p) from rfl) rfl q15) rfl (show IsB w' (a'.tmps.getD 52 undef) _ from q22) ⟨_, rfl, rfl, Mk.refl _⟩
    · obtain rfl : oTF24 p = o := Option.some.inj ho
      obtain rfl : 54 = d := Option.some.inj hd
      have q15 : a'.tmps.getD 45 undef = .bool true := hp 15 (oTF15 p) 45 rfl rfl rfl
      have q23 : a'.tmps.getD 53 undef = .string (str (xa.m.one)) := hp 23 (oTF23 p) 53 rfl rfl rfl
      exact step_bin rfl (wanted_on rfl (show (opsTF p).toArray[15]? = some (oTF15 p) from rfl) rfl q15) rfl rfl q23 (guard_str _ _ _ _ _ _ _) (run_add _ [122] _ (by have := hsa.one_len ha.wf; simp only [List.length_cons, List.length_nil]; omega)) ⟨_, rfl, rfl, Mk.refl _⟩
    · obtain rfl : oTF25 p = o := Option.some.inj ho
      obtain rfl : 55 = d := Option.some.inj hd
      have q15 : a'.tmps.getD 45 undef = .bool true := hp 15 (oTF15 p) 45 rfl rfl rfl
      have q20 : a'.tmps.getD 50 undef = .string (str ([122] ++ xa.m.one)) := hp 20 (oTF20 p) 50 rfl rfl rfl
      have q24 : a'.tmps.getD 54 undef = .string (str ([122] ++ xa.m.one)) := hp 24 (oTF24 p) 54 rfl rfl rfl
      exact step_bin rfl (wanted_on rfl (show (opsTF p).toArray[15]? = some (oTF15 p) from rfl) rfl q15) rfl q20 q24 (guard_str _ _ _ _ _ _ _) ((run_eq _ _ _).trans (by simp)) ⟨_, rfl, rfl, Mk.refl _⟩
    · obtain rfl : oTF26 p = o := Option.some.inj ho
      obtain rfl : 56 = d := Option.some.inj hd
      have q15 : a'.tmps.getD 45 undef = .bool true := hp 15 (oTF15 p) 45 rfl rfl rfl
      have q25 : a'.tmps.getD 55 undef = .bool true := hp 25 (oTF25 p) 55 rfl rfl rfl
      exact step_pick rfl rfl rfl q15 (show (if true = true then a'.tmps.getD 55 undef else _) = _ from q25) ⟨_, rfl, rfl, Mk.refl _⟩
    · obtain rfl : oTF27 p = o := Option.some.inj ho
      obtain rfl : 57 = d := Option.some.inj hd
      have q26 : a'.tmps.getD 56 undef = .bool true := hp 26 (oTF26 p) 56 rfl rfl rfl
      exact step_move rfl rfl rfl q26 ⟨_, rfl, rfl, Mk.refl _⟩
    · obtain rfl : oTF28 p = o := Option.some.inj ho
      obtain rfl : 58 = d := Option.some.inj hd
      have q27 : a'.tmps.getD 57 undef = .bool true := hp 27 (oTF27 p) 57 rfl rfl rfl
      exact step_load rfl (wanted_on rfl (show (opsTF p).toArray[27]? = some (oTF27 p) from rfl) rfl q27) rfl (hF.at 4 rfl h4) (run_ldC _ _ 0 _ (fun i u hu => by have h := ((hR.und hNN).block pa (Array.getElem?_eq_some_iff.1 hpa).1).trans hpa; rw [Nat.zero_add]; rw [blk_cell h]; exact hu)) ⟨_, rfl, rfl, Mk.refl _⟩
    · obtain rfl : oTF29 p = o := Option.some.inj ho
      obtain rfl : 59 = d := Option.some.inj hd
      have q27 : a'.tmps.getD 57 undef = .bool true := hp 27 (oTF27 p) 57 rfl rfl rfl
      exact step_load rfl (wanted_on rfl (show (opsTF p).toArray[27]? = some (oTF27 p) from rfl) rfl q27) rfl (hF.at 5 rfl h5) (run_ldC _ _ 0 _ (fun i u hu => by have h := ((hR.und hNN).block pb (Array.getElem?_eq_some_iff.1 hpb).1).trans hpb; rw [Nat.zero_add]; rw [blk_cell h]; exact hu)) ⟨_, rfl, rfl, Mk.refl _⟩
    · obtain rfl : oTF30 p = o := Option.some.inj ho
      obtain rfl : 60 = d := Option.some.inj hd
      have q27 : a'.tmps.getD 57 undef = .bool true := hp 27 (oTF27 p) 57 rfl rfl rfl
      have q28 : a'.tmps.getD 58 undef = xa.val := hp 28 (oTF28 p) 58 rfl rfl rfl
      have q29 : a'.tmps.getD 59 undef = xb.val := hp 29 (oTF29 p) 59 rfl rfl rfl
      refine step_callC rfl (wanted_on rfl (show (opsTF p).toArray[27]? = some (oTF27 p) from rfl) rfl q27) rfl (enters_of Tryd.func14 (by kernel_rfl) rfl) (show Array.map a'.eval #[.tmp 58, .tmp 59] = _ from by simp only [List.map_toArray, List.map_cons, List.map_nil, Act.eval, q28, q29]) ((K.same xa xb _ (K.grew hT (hR.und hNN)) (ha.below (hR.und hNN)) (hb0.below (hR.und hNN)) hsa hsb).mono ?_)
      rintro e w'' ⟨rfl, hb⟩
      exact ⟨_, rfl, _, rfl, rfl, Mk.grew hb (hR.le hNN)⟩
    · obtain rfl : oTF31 p = o := Option.some.inj ho
      obtain rfl : 61 = d := Option.some.inj hd
      have q27 : a'.tmps.getD 57 undef = .bool true := hp 27 (oTF27 p) 57 rfl rfl rfl
      exact step_load rfl (wanted_on rfl (show (opsTF p).toArray[27]? = some (oTF27 p) from rfl) rfl q27) rfl (hF.at 4 rfl h4) (run_ldC _ _ 0 _ (fun i u hu => by have h := ((hR.und hNN).block pa (Array.getElem?_eq_some_iff.1 hpa).1).trans hpa; rw [Nat.zero_add]; rw [blk_cell h]; exact hu)) ⟨_, rfl, rfl, Mk.refl _⟩
    · obtain rfl : oTF32 p = o := Option.some.inj ho
      obtain rfl : 62 = d := Option.some.inj hd
      have q27 : a'.tmps.getD 57 undef = .bool true := hp 27 (oTF27 p) 57 rfl rfl rfl
      exact step_load rfl (wanted_on rfl (show (opsTF p).toArray[27]? = some (oTF27 p) from rfl) rfl q27) rfl (hF.at 5 rfl h5) (run_ldC _ _ 0 _ (fun i u hu => by have h := ((hR.und hNN).block pb (Array.getElem?_eq_some_iff.1 hpb).1).trans hpb; rw [Nat.zero_add]; rw [blk_cell h]; exact hu)) ⟨_, rfl, rfl, Mk.refl _⟩
    · obtain rfl : oTF33 p = o := Option.some.inj ho
      obtain rfl : 63 = d := Option.some.inj hd
      have q27 : a'.tmps.getD 57 undef = .bool true := hp 27 (oTF27 p) 57 rfl rfl rfl
      have q31 : a'.tmps.getD 61 undef = xa.val := hp 31 (oTF31 p) 61 rfl rfl rfl
      have q32 : a'.tmps.getD 62 undef = xb.val := hp 32 (oTF32 p) 62 rfl rfl rfl
      refine step_callC rfl (wanted_on rfl (show (opsTF p).toArray[27]? = some (oTF27 p) from rfl) rfl q27) rfl (enters_of Tryd.func15 (by kernel_rfl) rfl) (show Array.map a'.eval #[.tmp 61, .tmp 62] = _ from by simp only [List.map_toArray, List.map_cons, List.map_nil, Act.eval, q31, q32]) ((refSame_any xa xb _ (ha.below (hR.und hNN)) (hb0.below (hR.und hNN))).mono ?_)
      rintro e w'' ⟨rfl, hb⟩
      exact ⟨_, rfl, _, rfl, rfl, Mk.grew hb (hR.le hNN)⟩
    · obtain rfl : oTF34 p = o := Option.some.inj ho
      obtain rfl : 64 = d := Option.some.inj hd
      have q27 : a'.tmps.getD 57 undef = .bool true := hp 27 (oTF27 p) 57 rfl rfl rfl
      have q30 : a'.tmps.getD 60 undef = .bool (xa.same xb) := hp 30 (oTF30 p) 60 rfl rfl rfl
      have q33 : a'.tmps.getD 63 undef = .bool (xa.same xb) := hp 33 (oTF33 p) 63 rfl rfl rfl
      exact step_bin rfl (wanted_on rfl (show (opsTF p).toArray[27]? = some (oTF27 p) from rfl) rfl q27) rfl q30 q33 (guard_bool _ _ _ _ _ _ _) ((run_eqb _ Tryd.underlying4 _ _ _).trans (by simp)) ⟨_, rfl, rfl, Mk.refl _⟩
    · obtain rfl : oTF35 p = o := Option.some.inj ho
      obtain rfl : 65 = d := Option.some.inj hd
      have q27 : a'.tmps.getD 57 undef = .bool true := hp 27 (oTF27 p) 57 rfl rfl rfl
      have q34 : a'.tmps.getD 64 undef = .bool true := hp 34 (oTF34 p) 64 rfl rfl rfl
      exact step_pick rfl rfl rfl q27 (show (if true = true then a'.tmps.getD 64 undef else _) = _ from q34) ⟨_, rfl, rfl, Mk.refl _⟩
    · obtain rfl : oTF36 p = o := Option.some.inj ho
      obtain rfl : 66 = d := Option.some.inj hd
      have q35 : a'.tmps.getD 65 undef = .bool true := hp 35 (oTF35 p) 65 rfl rfl rfl
      exact step_move rfl rfl rfl q35 ⟨_, rfl, rfl, Mk.refl _⟩
    · obtain rfl : oTF37 p = o := Option.some.inj ho
      obtain rfl : 67 = d := Option.some.inj hd
      have q36 : a'.tmps.getD 66 undef = .bool true := hp 36 (oTF36 p) 66 rfl rfl rfl
      exact step_move rfl (wanted_on rfl (show (opsTF p).toArray[36]? = some (oTF36 p) from rfl) rfl q36) rfl (hF.at 8 rfl h8) ⟨_, rfl, rfl, Mk.refl _⟩
    · obtain rfl : oTF38 p = o := Option.some.inj ho
      obtain rfl : 68 = d := Option.some.inj hd
      have q36 : a'.tmps.getD 66 undef = .bool true := hp 36 (oTF36 p) 66 rfl rfl rfl
      exact step_move rfl (wanted_on rfl (show (opsTF p).toArray[36]? = some (oTF36 p) from rfl) rfl q36) rfl (hF.at 10 rfl h10) ⟨_, rfl, rfl, Mk.refl _⟩
    · obtain rfl : oTF39 p = o := Option.some.inj ho
      obtain rfl : 69 = d := Option.some.inj hd
      have q36 : a'.tmps.getD 66 undef = .bool true := hp 36 (oTF36 p) 66 rfl rfl rfl
      have q37 : a'.tmps.getD 67 undef = .int .i64 (n : Int) := hp 37 (oTF37 p) 67 rfl rfl rfl
      have q38 : a'.tmps.getD 68 undef = .int .i64 (n : Int) := hp 38 (oTF38 p) 68 rfl rfl rfl
      exact step_bin rfl (wanted_on rfl (show (opsTF p).toArray[36]? = some (oTF36 p) from rfl) rfl q36) rfl q37 q38 (guard_int _ _ _ _ _ _ _ _ _) ((run_eqi _ _ _ _ _).trans (by simp)) ⟨_, rfl, rfl, Mk.refl _⟩
    · obtain rfl : oTF40 p = o := Option.some.inj ho
      obtain rfl : 70 = d := Option.some.inj hd
      have q36 : a'.tmps.getD 66 undef = .bool true := hp 36 (oTF36 p) 66 rfl rfl rfl
      have q39 : a'.tmps.getD 69 undef = .bool true := hp 39 (oTF39 p) 69 rfl rfl rfl
      exact step_pick rfl rfl rfl q36 (show (if true = true then a'.tmps.getD 69 undef else _) = _ from q39) ⟨_, rfl, rfl, Mk.refl _⟩
    · obtain rfl : oTF41 p = o := Option.some.inj ho
      obtain rfl : 71 = d := Option.some.inj hd
      have q40 : a'.tmps.getD 70 undef = .bool true := hp 40 (oTF40 p) 70 rfl rfl rfl
      exact step_move rfl rfl rfl q40 ⟨_, rfl, rfl, Mk.refl _⟩
    · obtain rfl : oTF42 p = o := Option.some.inj ho
      obtain rfl : 72 = d := Option.some.inj hd
      have q41 : a'.tmps.getD 71 undef = .bool true := hp 41 (oTF41 p) 71 rfl rfl rfl
      exact step_move rfl (wanted_on rfl (show (opsTF p).toArray[41]? = some (oTF41 p) from rfl) rfl q41) rfl (hF.at 7 rfl h7) ⟨_, rfl, rfl, Mk.refl _⟩
    · obtain rfl : oTF43 p = o := Option.some.inj ho
      obtain rfl : 73 = d := Option.some.inj hd
      have q41 : a'.tmps.getD 71 undef = .bool true := hp 41 (oTF41 p) 71 rfl rfl rfl
      have q42 : a'.tmps.getD 72 undef = .slice A7 L7 c7 := hp 42 (oTF42 p) 72 rfl rfl rfl
      exact step_cv rfl (wanted_on rfl (show (opsTF p).toArray[41]? = some (oTF41 p) from rfl) rfl q41) rfl q42 (run_conv (HasA.below' hA7 (hR.und hNN)) _ Tryd.underlying29 Tryd.underlying5 Tryd.underlying9 hL7) ⟨_, rfl, rfl, Mk.refl _⟩
    · obtain rfl : oTF44 p = o := Option.some.inj ho
      obtain rfl : 74 = d := Option.some.inj hd
      have q41 : a'.tmps.getD 71 undef = .bool true := hp 41 (oTF41 p) 71 rfl rfl rfl
      exact step_move rfl (wanted_on rfl (show (opsTF p).toArray[41]? = some (oTF41 p) from rfl) rfl q41) rfl (hF.at 9 rfl h9) ⟨_, rfl, rfl, Mk.refl _⟩
    · obtain rfl : oTF45 p = o := Option.some.inj ho
      obtain rfl : 75 = d := Option.some.inj hd
      have q41 : a'.tmps.getD 71 undef = .bool true := hp 41 (oTF41 p) 71 rfl rfl rfl
      have q44 : a'.tmps.getD 74 undef = .slice A9 L9 c9 := hp 44 (oTF44 p) 74 rfl rfl rfl
      exact step_cv rfl (wanted_on rfl (show (opsTF p).toArray[41]? = some (oTF41 p) from rfl) rfl q41) rfl q44 (run_conv (HasA.below' hA9 (hR.und hNN)) _ Tryd.underlying29 Tryd.underlying5 Tryd.underlying9 hL9) ⟨_, rfl, rfl, Mk.refl _⟩
    · obtain rfl : oTF46 p = o := Option.some.inj ho
      obtain rfl : 76 = d := Option.some.inj hd
      have q41 : a'.tmps.getD 71 undef = .bool true := hp 41 (oTF41 p) 71 rfl rfl rfl
      have q43 : a'.tmps.getD 73 undef = .string (str X) := hp 43 (oTF43 p) 73 rfl rfl rfl
      have q45 : a'.tmps.getD 75 undef = .string (str X) := hp 45 (oTF45 p) 75 rfl rfl rfl
      exact step_bin rfl (wanted_on rfl (show (opsTF p).toArray[41]? = some (oTF41 p) from rfl) rfl q41) rfl q43 q45 (guard_str _ _ _ _ _ _ _) ((run_eq _ _ _).trans (by simp)) ⟨_, rfl, rfl, Mk.refl _⟩
    · obtain rfl : oTF47 p = o := Option.some.inj ho
      obtain rfl : 77 = d := Option.some.inj hd
      have q41 : a'.tmps.getD 71 undef = .bool true := hp 41 (oTF41 p) 71 rfl rfl rfl
      have q46 : a'.tmps.getD 76 undef = .bool true := hp 46 (oTF46 p) 76 rfl rfl rfl
      exact step_pick rfl rfl rfl q41 (show (if true = true then a'.tmps.getD 76 undef else _) = _ from q46) ⟨_, rfl, rfl, Mk.refl _⟩
    · obtain rfl : oTF48 p = o := Option.some.inj ho
      obtain rfl : 78 = d := Option.some.inj hd
      have q47 : a'.tmps.getD 77 undef = .bool true := hp 47 (oTF47 p) 77 rfl rfl rfl
      exact step_move rfl rfl rfl q47 ⟨_, rfl, rfl, Mk.refl _⟩
    · obtain rfl : oTF49 p = o := Option.some.inj ho
      obtain rfl : 79 = d := Option.some.inj hd
      have q48 : a'.tmps.getD 78 undef = .bool true := hp 48 (oTF48 p) 78 rfl rfl rfl
      refine step_callC rfl (wanted_on rfl (show (opsTF p).toArray[48]? = some (oTF48 p) from rfl) rfl q48) rfl (enters_of Tryd.func7 (by kernel_rfl) rfl) (show Array.map a'.eval #[] = #[] from by simp) ((wakes8 K _ (K.grew hT (hR.und hNN))).mono ?_)
      rintro e w'' ⟨rfl, hb⟩
      exact ⟨_, rfl, _, rfl, rfl, Mk.grew hb (hR.le hNN)⟩
    · obtain rfl : oTF50 p = o := Option.some.inj ho
      obtain rfl : 80 = d := Option.some.inj hd
      have q48 : a'.tmps.getD 78 undef = .bool true := hp 48 (oTF48 p) 78 rfl rfl rfl
      have q49 : a'.tmps.getD 79 undef = .bool true := hp 49 (oTF49 p) 79 rfl rfl rfl
      exact step_pick rfl rfl rfl q48 (show (if true = true then a'.tmps.getD 79 undef else _) = _ from q49) ⟨_, rfl, rfl, Mk.refl _⟩
    · obtain rfl : oTF51 p = o := Option.some.inj ho
      obtain rfl : 6 = d := Option.some.inj hd
      have q50 : a'.tmps.getD 80 undef = .bool true := hp 50 (oTF50 p) 80 rfl rfl rfl
      exact step_assign rfl rfl rfl q50 ⟨_, rfl, rfl, Mk.refl _⟩
    · exact absurd ((Array.getElem?_eq_some_iff.1 ho).1) (by simp [opsTF])
  · intro a' w' hF hR hp
    have e0 : psiTF T K xa xb pa pb A7 L7 c7 A9 L9 c9 n X N 0 (a'.tmps.getD 30 undef) w' := hp 0 (oTF0 p) 30 rfl rfl
    have e1 : psiTF T K xa xb pa pb A7 L7 c7 A9 L9 c9 n X N 1 (a'.tmps.getD 31 undef) w' := hp 1 (oTF1 p) 31 rfl rfl
    have e2 : psiTF T K xa xb pa pb A7 L7 c7 A9 L9 c9 n X N 2 (a'.tmps.getD 32 undef) w' := hp 2 (oTF2 p) 32 rfl rfl
    have e3 : psiTF T K xa xb pa pb A7 L7 c7 A9 L9 c9 n X N 3 (a'.tmps.getD 33 undef) w' := hp 3 (oTF3 p) 33 rfl rfl
    have e4 : psiTF T K xa xb pa pb A7 L7 c7 A9 L9 c9 n X N 4 (a'.tmps.getD 34 undef) w' := hp 4 (oTF4 p) 34 rfl rfl
    have e5 : psiTF T K xa xb pa pb A7 L7 c7 A9 L9 c9 n X N 5 (a'.tmps.getD 35 undef) w' := hp 5 (oTF5 p) 35 rfl rfl
    have e6 : psiTF T K xa xb pa pb A7 L7 c7 A9 L9 c9 n X N 6 (a'.tmps.getD 36 undef) w' := hp 6 (oTF6 p) 36 rfl rfl
    have e7 : psiTF T K xa xb pa pb A7 L7 c7 A9 L9 c9 n X N 7 (a'.tmps.getD 37 undef) w' := hp 7 (oTF7 p) 37 rfl rfl
    have e8 : psiTF T K xa xb pa pb A7 L7 c7 A9 L9 c9 n X N 8 (a'.tmps.getD 38 undef) w' := hp 8 (oTF8 p) 38 rfl rfl
    have e9 : psiTF T K xa xb pa pb A7 L7 c7 A9 L9 c9 n X N 9 (a'.tmps.getD 39 undef) w' := hp 9 (oTF9 p) 39 rfl rfl
    have e10 : psiTF T K xa xb pa pb A7 L7 c7 A9 L9 c9 n X N 10 (a'.tmps.getD 40 undef) w' := hp 10 (oTF10 p) 40 rfl rfl
    have e11 : psiTF T K xa xb pa pb A7 L7 c7 A9 L9 c9 n X N 11 (a'.tmps.getD 41 undef) w' := hp 11 (oTF11 p) 41 rfl rfl
    have e12 : psiTF T K xa xb pa pb A7 L7 c7 A9 L9 c9 n X N 12 (a'.tmps.getD 42 undef) w' := hp 12 (oTF12 p) 42 rfl rfl
    have e13 : psiTF T K xa xb pa pb A7 L7 c7 A9 L9 c9 n X N 13 (a'.tmps.getD 43 undef) w' := hp 13 (oTF13 p) 43 rfl rfl
    have e14 : psiTF T K xa xb pa pb A7 L7 c7 A9 L9 c9 n X N 14 (a'.tmps.getD 44 undef) w' := hp 14 (oTF14 p) 44 rfl rfl
    have e15 : psiTF T K xa xb pa pb A7 L7 c7 A9 L9 c9 n X N 15 (a'.tmps.getD 45 undef) w' := hp 15 (oTF15 p) 45 rfl rfl
    have e16 : psiTF T K xa xb pa pb A7 L7 c7 A9 L9 c9 n X N 16 (a'.tmps.getD 46 undef) w' := hp 16 (oTF16 p) 46 rfl rfl
    have e17 : psiTF T K xa xb pa pb A7 L7 c7 A9 L9 c9 n X N 17 (a'.tmps.getD 47 undef) w' := hp 17 (oTF17 p) 47 rfl rfl
    have e18 : psiTF T K xa xb pa pb A7 L7 c7 A9 L9 c9 n X N 18 (a'.tmps.getD 48 undef) w' := hp 18 (oTF18 p) 48 rfl rfl
    have e19 : psiTF T K xa xb pa pb A7 L7 c7 A9 L9 c9 n X N 19 (a'.tmps.getD 49 undef) w' := hp 19 (oTF19 p) 49 rfl rfl
    have e20 : psiTF T K xa xb pa pb A7 L7 c7 A9 L9 c9 n X N 20 (a'.tmps.getD 50 undef) w' := hp 20 (oTF20 p) 50 rfl rfl
    have e21 : psiTF T K xa xb pa pb A7 L7 c7 A9 L9 c9 n X N 21 (a'.tmps.getD 51 undef) w' := hp 21 (oTF21 p) 51 rfl rfl
    have e22 : psiTF T K xa xb pa pb A7 L7 c7 A9 L9 c9 n X N 22 (a'.tmps.getD 52 undef) w' := hp 22 (oTF22 p) 52 rfl rfl
    have e23 : psiTF T K xa xb pa pb A7 L7 c7 A9 L9 c9 n X N 23 (a'.tmps.getD 53 undef) w' := hp 23 (oTF23 p) 53 rfl rfl
    have e24 : psiTF T K xa xb pa pb A7 L7 c7 A9 L9 c9 n X N 24 (a'.tmps.getD 54 undef) w' := hp 24 (oTF24 p) 54 rfl rfl
    have e25 : psiTF T K xa xb pa pb A7 L7 c7 A9 L9 c9 n X N 25 (a'.tmps.getD 55 undef) w' := hp 25 (oTF25 p) 55 rfl rfl
    have e26 : psiTF T K xa xb pa pb A7 L7 c7 A9 L9 c9 n X N 26 (a'.tmps.getD 56 undef) w' := hp 26 (oTF26 p) 56 rfl rfl
    have e27 : psiTF T K xa xb pa pb A7 L7 c7 A9 L9 c9 n X N 27 (a'.tmps.getD 57 undef) w' := hp 27 (oTF27 p) 57 rfl rfl
    have e28 : psiTF T K xa xb pa pb A7 L7 c7 A9 L9 c9 n X N 28 (a'.tmps.getD 58 undef) w' := hp 28 (oTF28 p) 58 rfl rfl
    have e29 : psiTF T K xa xb pa pb A7 L7 c7 A9 L9 c9 n X N 29 (a'.tmps.getD 59 undef) w' := hp 29 (oTF29 p) 59 rfl rfl
    have e30 : psiTF T K xa xb pa pb A7 L7 c7 A9 L9 c9 n X N 30 (a'.tmps.getD 60 undef) w' := hp 30 (oTF30 p) 60 rfl rfl
    have e31 : psiTF T K xa xb pa pb A7 L7 c7 A9 L9 c9 n X N 31 (a'.tmps.getD 61 undef) w' := hp 31 (oTF31 p) 61 rfl rfl
    have e32 : psiTF T K xa xb pa pb A7 L7 c7 A9 L9 c9 n X N 32 (a'.tmps.getD 62 undef) w' := hp 32 (oTF32 p) 62 rfl rfl
    have e33 : psiTF T K xa xb pa pb A7 L7 c7 A9 L9 c9 n X N 33 (a'.tmps.getD 63 undef) w' := hp 33 (oTF33 p) 63 rfl rfl
    have e34 : psiTF T K xa xb pa pb A7 L7 c7 A9 L9 c9 n X N 34 (a'.tmps.getD 64 undef) w' := hp 34 (oTF34 p) 64 rfl rfl
    have e35 : psiTF T K xa xb pa pb A7 L7 c7 A9 L9 c9 n X N 35 (a'.tmps.getD 65 undef) w' := hp 35 (oTF35 p) 65 rfl rfl
    have e36 : psiTF T K xa xb pa pb A7 L7 c7 A9 L9 c9 n X N 36 (a'.tmps.getD 66 undef) w' := hp 36 (oTF36 p) 66 rfl rfl
    have e37 : psiTF T K xa xb pa pb A7 L7 c7 A9 L9 c9 n X N 37 (a'.tmps.getD 67 undef) w' := hp 37 (oTF37 p) 67 rfl rfl
    have e38 : psiTF T K xa xb pa pb A7 L7 c7 A9 L9 c9 n X N 38 (a'.tmps.getD 68 undef) w' := hp 38 (oTF38 p) 68 rfl rfl
    have e39 : psiTF T K xa xb pa pb A7 L7 c7 A9 L9 c9 n X N 39 (a'.tmps.getD 69 undef) w' := hp 39 (oTF39 p) 69 rfl rfl
    have e40 : psiTF T K xa xb pa pb A7 L7 c7 A9 L9 c9 n X N 40 (a'.tmps.getD 70 undef) w' := hp 40 (oTF40 p) 70 rfl rfl
    have e41 : psiTF T K xa xb pa pb A7 L7 c7 A9 L9 c9 n X N 41 (a'.tmps.getD 71 undef) w' := hp 41 (oTF41 p) 71 rfl rfl
    have e42 : psiTF T K xa xb pa pb A7 L7 c7 A9 L9 c9 n X N 42 (a'.tmps.getD 72 undef) w' := hp 42 (oTF42 p) 72 rfl rfl
    have e43 : psiTF T K xa xb pa pb A7 L7 c7 A9 L9 c9 n X N 43 (a'.tmps.getD 73 undef) w' := hp 43 (oTF43 p) 73 rfl rfl
    have e44 : psiTF T K xa xb pa pb A7 L7 c7 A9 L9 c9 n X N 44 (a'.tmps.getD 74 undef) w' := hp 44 (oTF44 p) 74 rfl rfl
    have e45 : psiTF T K xa xb pa pb A7 L7 c7 A9 L9 c9 n X N 45 (a'.tmps.getD 75 undef) w' := hp 45 (oTF45 p) 75 rfl rfl
    have e46 : psiTF T K xa xb pa pb A7 L7 c7 A9 L9 c9 n X N 46 (a'.tmps.getD 76 undef) w' := hp 46 (oTF46 p) 76 rfl rfl
    have e47 : psiTF T K xa xb pa pb A7 L7 c7 A9 L9 c9 n X N 47 (a'.tmps.getD 77 undef) w' := hp 47 (oTF47 p) 77 rfl rfl
    have e48 : psiTF T K xa xb pa pb A7 L7 c7 A9 L9 c9 n X N 48 (a'.tmps.getD 78 undef) w' := hp 48 (oTF48 p) 78 rfl rfl
    have e49 : psiTF T K xa xb pa pb A7 L7 c7 A9 L9 c9 n X N 49 (a'.tmps.getD 79 undef) w' := hp 49 (oTF49 p) 79 rfl rfl
    have e50 : psiTF T K xa xb pa pb A7 L7 c7 A9 L9 c9 n X N 50 (a'.tmps.getD 80 undef) w' := hp 50 (oTF50 p) 80 rfl rfl
    have e51 : psiTF T K xa xb pa pb A7 L7 c7 A9 L9 c9 n X N 51 (a'.tmps.getD 6 undef) w' := hp 51 (oTF51 p) 6 rfl rfl
    rw [hF.puts [(30, xa.val), (31, .int .i64 1), (32, .bool false), (33, xa.val), (34, .bool false), (35, .bool true), (36, .bool true), (37, xa.val), (38, .bool false), (39, .bool false), (40, xa.val), (41, .int .i64 1), (42, .bool true), (43, .bool true), (44, .bool true), (45, .bool true), (46, a'.tmps.getD 46 undef), (47, a'.tmps.getD 47 undef), (48, xa.val), (49, a'.tmps.getD 49 undef), (50, .string (str ([122] ++ xa.m.one))), (51, xa.val), (52, a'.tmps.getD 52 undef), (53, .string (str (xa.m.one))), (54, .string (str ([122] ++ xa.m.one))), (55, .bool true), (56, .bool true), (57, .bool true), (58, xa.val), (59, xb.val), (60, .bool (xa.same xb)), (61, xa.val), (62, xb.val), (63, .bool (xa.same xb)), (64, .bool true), (65, .bool true), (66, .bool true), (67, .int .i64 (n : Int)), (68, .int .i64 (n : Int)), (69, .bool true), (70, .bool true), (71, .bool true), (72, .slice A7 L7 c7), (73, .string (str X)), (74, .slice A9 L9 c9), (75, .string (str X)), (76, .bool true), (77, .bool true), (78, .bool true), (79, .bool true), (80, .bool true), (6, .bool true)] ?_ rfl (by rw [hN]; rfl)]
    · exact hQ _ _ _ _ w' e16 e17 e19 e22 (hR.und hNN)
    · intro x hx
      simp only [List.mem_cons, List.not_mem_nil, or_false] at hx
      rcases hx with rfl | rfl | rfl | rfl | rfl | rfl | rfl | rfl | rfl | rfl | rfl | rfl | rfl | rfl | rfl | rfl | rfl | rfl | rfl | rfl | rfl | rfl | rfl | rfl | rfl | rfl | rfl | rfl | rfl | rfl | rfl | rfl | rfl | rfl | rfl | rfl | rfl | rfl | rfl | rfl | rfl | rfl | rfl | rfl | rfl | rfl | rfl | rfl | rfl | rfl | rfl | rfl
      · exact e0
      · exact e1
      · exact e2
      · exact e3
      · exact e4
      · exact e5
      · exact e6
      · exact e7
      · exact e8
      · exact e9
      · exact e10
      · exact e11
      · exact e12
      · exact e13
      · exact e14
      · exact e15
      · exact rfl
      · exact rfl
      · exact e18
      · exact rfl
      · exact e20
      · exact e21
      · exact rfl
      · exact e23
      · exact e24
      · exact e25
      · exact e26
      · exact e27
      · exact e28
      · exact e29
      · exact e30
      · exact e31
      · exact e32
      · exact e33
      · exact e34
      · exact e35
      · exact e36
      · exact e37
      · exact e38
      · exact e39
      · exact e40
      · exact e41
      · exact e42
      · exact e43
      · exact e44
      · exact e45
      · exact e46
      · exact e47
      · exact e48
      · exact e49
      · exact e50
      · exact e51
end Go.Proofs.YtfaplmpenlbajaaDoor
