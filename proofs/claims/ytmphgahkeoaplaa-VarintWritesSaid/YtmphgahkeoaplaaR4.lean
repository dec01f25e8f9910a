/- The last statement of the law VarintWrites, whatever its order of evaluation. -/
import Derived.Test.YtmphgahkeoaplaaSteps
namespace Go.Proofs.Ytmphgahkeoaplaa
open Go.RowKit

def oWr0 (p : String) : Oper := { dst := some 21, op := Op.move (Operand.tmp 0), type := 22, pos := p, after := #[], guard := none }
def oWr1 (p : String) : Oper := { dst := some 22, op := Op.call { callee := Callee.builtin Builtin.append, args := #[Operand.const (Value.slice none 0 0), Operand.tmp 21], argTypes := #[22, 22] }, type := 22, pos := p, after := #[{ on := 0, ground := Ground.data }], guard := none }
def oWr2 (p : String) : Oper := { dst := some 23, op := Op.move (Operand.tmp 1), type := 23, pos := p, after := #[], guard := none }
def oWr3 (p : String) : Oper := { dst := some 24, op := Op.call { callee := Callee.value (Operand.func 7), args := #[Operand.tmp 22, Operand.tmp 23], argTypes := #[22, 23] }, type := 22, pos := p, after := #[{ on := 1, ground := Ground.data }, { on := 2, ground := Ground.data }, { on := 1, ground := Ground.chain }], guard := none }
def oWr4 (p : String) : Oper := { dst := some 25, op := Op.convert 22 9 (Operand.tmp 24), type := 9, pos := p, after := #[{ on := 3, ground := Ground.data }], guard := none }
def oWr5 (p : String) : Oper := { dst := some 26, op := Op.move (Operand.tmp 9), type := 9, pos := p, after := #[], guard := none }
def oWr6 (p : String) : Oper := { dst := some 27, op := Op.move (Operand.tmp 1), type := 23, pos := p, after := #[], guard := none }
def oWr7 (p : String) : Oper := { dst := some 28, op := Op.call { callee := Callee.value (Operand.func 8), args := #[Operand.tmp 27], argTypes := #[23] }, type := 22, pos := p, after := #[{ on := 6, ground := Ground.data }, { on := 3, ground := Ground.chain }], guard := none }
def oWr8 (p : String) : Oper := { dst := some 29, op := Op.convert 22 9 (Operand.tmp 28), type := 9, pos := p, after := #[{ on := 7, ground := Ground.data }], guard := none }
def oWr9 (p : String) : Oper := { dst := some 30, op := Op.binOp BinOp.add 9 (Operand.tmp 26) (Operand.tmp 29) 9, type := 9, pos := p, after := #[{ on := 5, ground := Ground.data }, { on := 8, ground := Ground.data }], guard := none }
def oWr10 (p : String) : Oper := { dst := some 31, op := Op.binOp BinOp.eql 9 (Operand.tmp 25) (Operand.tmp 30) 9, type := 4, pos := p, after := #[{ on := 4, ground := Ground.data }, { on := 9, ground := Ground.data }], guard := none }
def oWr11 (p : String) : Oper := { dst := some 32, op := Op.move (Operand.tmp 31), type := 4, pos := p, after := #[{ on := 10, ground := Ground.data }, { on := 7, ground := Ground.chain }], guard := none }
def oWr12 (p : String) : Oper := { dst := some 33, op := Op.move (Operand.tmp 0), type := 22, pos := p, after := #[{ on := 11, ground := Ground.guard }], guard := some (11, true) }
def oWr13 (p : String) : Oper := { dst := some 34, op := Op.call { callee := Callee.builtin Builtin.append, args := #[Operand.const (Value.slice none 0 0), Operand.tmp 33], argTypes := #[22, 22] }, type := 22, pos := p, after := #[{ on := 12, ground := Ground.data }, { on := 11, ground := Ground.chain }, { on := 11, ground := Ground.guard }], guard := some (11, true) }
def oWr14 (p : String) : Oper := { dst := some 35, op := Op.move (Operand.tmp 2), type := 2, pos := p, after := #[{ on := 11, ground := Ground.guard }], guard := some (11, true) }
def oWr15 (p : String) : Oper := { dst := some 36, op := Op.call { callee := Callee.value (Operand.func 9), args := #[Operand.tmp 34, Operand.tmp 35], argTypes := #[22, 2] }, type := 22, pos := p, after := #[{ on := 13, ground := Ground.data }, { on := 14, ground := Ground.data }, { on := 13, ground := Ground.chain }, { on := 11, ground := Ground.guard }], guard := some (11, true) }
def oWr16 (p : String) : Oper := { dst := some 37, op := Op.convert 22 9 (Operand.tmp 36), type := 9, pos := p, after := #[{ on := 15, ground := Ground.data }, { on := 11, ground := Ground.guard }], guard := some (11, true) }
def oWr17 (p : String) : Oper := { dst := some 38, op := Op.move (Operand.tmp 9), type := 9, pos := p, after := #[{ on := 11, ground := Ground.guard }], guard := some (11, true) }
def oWr18 (p : String) : Oper := { dst := some 39, op := Op.move (Operand.tmp 2), type := 2, pos := p, after := #[{ on := 11, ground := Ground.guard }], guard := some (11, true) }
def oWr19 (p : String) : Oper := { dst := some 40, op := Op.call { callee := Callee.value (Operand.func 10), args := #[Operand.tmp 39], argTypes := #[2] }, type := 22, pos := p, after := #[{ on := 18, ground := Ground.data }, { on := 15, ground := Ground.chain }, { on := 11, ground := Ground.guard }], guard := some (11, true) }
def oWr20 (p : String) : Oper := { dst := some 41, op := Op.convert 22 9 (Operand.tmp 40), type := 9, pos := p, after := #[{ on := 19, ground := Ground.data }, { on := 11, ground := Ground.guard }], guard := some (11, true) }
def oWr21 (p : String) : Oper := { dst := some 42, op := Op.binOp BinOp.add 9 (Operand.tmp 38) (Operand.tmp 41) 9, type := 9, pos := p, after := #[{ on := 17, ground := Ground.data }, { on := 20, ground := Ground.data }, { on := 11, ground := Ground.guard }], guard := some (11, true) }
def oWr22 (p : String) : Oper := { dst := some 43, op := Op.binOp BinOp.eql 9 (Operand.tmp 37) (Operand.tmp 42) 9, type := 4, pos := p, after := #[{ on := 16, ground := Ground.data }, { on := 21, ground := Ground.data }, { on := 11, ground := Ground.guard }], guard := some (11, true) }
def oWr23 (p : String) : Oper := { dst := some 44, op := Op.pick (Operand.tmp 32) (Operand.tmp 43) (Operand.const (Value.bool false)), type := 4, pos := p, after := #[{ on := 11, ground := Ground.data }, { on := 22, ground := Ground.data }], guard := none }
def oWr24 (p : String) : Oper := { dst := some 45, op := Op.move (Operand.tmp 44), type := 4, pos := p, after := #[{ on := 23, ground := Ground.data }, { on := 19, ground := Ground.chain }], guard := none }
def oWr25 (p : String) : Oper := { dst := some 46, op := Op.move (Operand.tmp 0), type := 22, pos := p, after := #[{ on := 24, ground := Ground.guard }], guard := some (24, true) }
def oWr26 (p : String) : Oper := { dst := some 47, op := Op.call { callee := Callee.builtin Builtin.append, args := #[Operand.const (Value.slice none 0 0), Operand.tmp 46], argTypes := #[22, 22] }, type := 22, pos := p, after := #[{ on := 25, ground := Ground.data }, { on := 24, ground := Ground.chain }, { on := 24, ground := Ground.guard }], guard := some (24, true) }
def oWr27 (p : String) : Oper := { dst := some 48, op := Op.move (Operand.tmp 3), type := 9, pos := p, after := #[{ on := 24, ground := Ground.guard }], guard := some (24, true) }
def oWr28 (p : String) : Oper := { dst := some 49, op := Op.call { callee := Callee.value (Operand.func 11), args := #[Operand.tmp 47, Operand.tmp 48], argTypes := #[22, 9] }, type := 22, pos := p, after := #[{ on := 26, ground := Ground.data }, { on := 27, ground := Ground.data }, { on := 26, ground := Ground.chain }, { on := 24, ground := Ground.guard }], guard := some (24, true) }
def oWr29 (p : String) : Oper := { dst := some 50, op := Op.convert 22 9 (Operand.tmp 49), type := 9, pos := p, after := #[{ on := 28, ground := Ground.data }, { on := 24, ground := Ground.guard }], guard := some (24, true) }
def oWr30 (p : String) : Oper := { dst := some 51, op := Op.move (Operand.tmp 9), type := 9, pos := p, after := #[{ on := 24, ground := Ground.guard }], guard := some (24, true) }
def oWr31 (p : String) : Oper := { dst := some 52, op := Op.move (Operand.tmp 3), type := 9, pos := p, after := #[{ on := 24, ground := Ground.guard }], guard := some (24, true) }
def oWr32 (p : String) : Oper := { dst := some 53, op := Op.call { callee := Callee.value (Operand.func 12), args := #[Operand.tmp 52], argTypes := #[9] }, type := 22, pos := p, after := #[{ on := 31, ground := Ground.data }, { on := 28, ground := Ground.chain }, { on := 24, ground := Ground.guard }], guard := some (24, true) }
def oWr33 (p : String) : Oper := { dst := some 54, op := Op.convert 22 9 (Operand.tmp 53), type := 9, pos := p, after := #[{ on := 32, ground := Ground.data }, { on := 24, ground := Ground.guard }], guard := some (24, true) }
def oWr34 (p : String) : Oper := { dst := some 55, op := Op.binOp BinOp.add 9 (Operand.tmp 51) (Operand.tmp 54) 9, type := 9, pos := p, after := #[{ on := 30, ground := Ground.data }, { on := 33, ground := Ground.data }, { on := 24, ground := Ground.guard }], guard := some (24, true) }
def oWr35 (p : String) : Oper := { dst := some 56, op := Op.binOp BinOp.eql 9 (Operand.tmp 50) (Operand.tmp 55) 9, type := 4, pos := p, after := #[{ on := 29, ground := Ground.data }, { on := 34, ground := Ground.data }, { on := 24, ground := Ground.guard }], guard := some (24, true) }
def oWr36 (p : String) : Oper := { dst := some 57, op := Op.pick (Operand.tmp 45) (Operand.tmp 56) (Operand.const (Value.bool false)), type := 4, pos := p, after := #[{ on := 24, ground := Ground.data }, { on := 35, ground := Ground.data }], guard := none }
def oWr37 (p : String) : Oper := { dst := some 58, op := Op.move (Operand.tmp 57), type := 4, pos := p, after := #[{ on := 36, ground := Ground.data }, { on := 32, ground := Ground.chain }], guard := none }
def oWr38 (p : String) : Oper := { dst := some 59, op := Op.call { callee := Callee.value (Operand.func 6), args := #[], argTypes := #[] }, type := 4, pos := p, after := #[{ on := 37, ground := Ground.chain }, { on := 37, ground := Ground.guard }], guard := some (37, true) }
def oWr39 (p : String) : Oper := { dst := some 60, op := Op.pick (Operand.tmp 58) (Operand.tmp 59) (Operand.const (Value.bool false)), type := 4, pos := p, after := #[{ on := 37, ground := Ground.data }, { on := 38, ground := Ground.data }], guard := none }
def oWr40 (p : String) : Oper := { dst := some 8, op := Op.assign (Operand.tmp 60), type := 4, pos := p, after := #[{ on := 39, ground := Ground.data }, { on := 38, ground := Ground.chain }, { on := 0, ground := Ground.phase }, { on := 1, ground := Ground.phase }, { on := 2, ground := Ground.phase }, { on := 3, ground := Ground.phase }, { on := 4, ground := Ground.phase }, { on := 5, ground := Ground.phase }, { on := 6, ground := Ground.phase }, { on := 7, ground := Ground.phase }, { on := 8, ground := Ground.phase }, { on := 9, ground := Ground.phase }, { on := 10, ground := Ground.phase }, { on := 11, ground := Ground.phase }, { on := 12, ground := Ground.phase }, { on := 13, ground := Ground.phase }, { on := 14, ground := Ground.phase }, { on := 15, ground := Ground.phase }, { on := 16, ground := Ground.phase }, { on := 17, ground := Ground.phase }, { on := 18, ground := Ground.phase }, { on := 19, ground := Ground.phase }, { on := 20, ground := Ground.phase }, { on := 21, ground := Ground.phase }, { on := 22, ground := Ground.phase }, { on := 23, ground := Ground.phase }, { on := 24, ground := Ground.phase }, { on := 25, ground := Ground.phase }, { on := 26, ground := Ground.phase }, { on := 27, ground := Ground.phase }, { on := 28, ground := Ground.phase }, { on := 29, ground := Ground.phase }, { on := 30, ground := Ground.phase }, { on := 31, ground := Ground.phase }, { on := 32, ground := Ground.phase }, { on := 33, ground := Ground.phase }, { on := 34, ground := Ground.phase }, { on := 35, ground := Ground.phase }, { on := 36, ground := Ground.phase }, { on := 37, ground := Ground.phase }, { on := 38, ground := Ground.phase }, { on := 39, ground := Ground.phase }], guard := none }
def opsWr (p : String) : List Oper := [oWr0 p, oWr1 p, oWr2 p, oWr3 p, oWr4 p, oWr5 p, oWr6 p, oWr7 p, oWr8 p, oWr9 p, oWr10 p, oWr11 p, oWr12 p, oWr13 p, oWr14 p, oWr15 p, oWr16 p, oWr17 p, oWr18 p, oWr19 p, oWr20 p, oWr21 p, oWr22 p, oWr23 p, oWr24 p, oWr25 p, oWr26 p, oWr27 p, oWr28 p, oWr29 p, oWr30 p, oWr31 p, oWr32 p, oWr33 p, oWr34 p, oWr35 p, oWr36 p, oWr37 p, oWr38 p, oWr39 p, oWr40 p]
theorem opsWr_back (p : String) : backwards (opsWr p) = true := by kernel_rfl
theorem opsWr_slots (p : String) : slotsOk 61 (opsWr p) = true := by kernel_rfl
/-- What each slot comes to. -/
def psiWr (A : Option Addr) (L c : Nat) (B : List UInt8) (n : Nat) (m : Int) (s : ByteArray) : Nat → Value → World → Prop
  | 0, v, _ => v = .slice A L c
  | 1, v, w => IsB w v (B)
  | 2, v, _ => v = .int .u64 (n : Int)
  | 3, v, w => IsB w v (B ++ vb n)
  | 4, v, _ => v = .string (str (B ++ vb n))
  | 5, v, _ => v = .string (str B)
  | 6, v, _ => v = .int .u64 (n : Int)
  | 7, v, w => IsB w v (vb n)
  | 8, v, _ => v = .string (str (vb n))
  | 9, v, _ => v = .string (str (B ++ vb n))
  | 10, v, _ => v = .bool true
  | 11, v, _ => v = .bool true
  | 12, v, _ => v = .slice A L c
  | 13, v, w => IsB w v (B)
  | 14, v, _ => v = .int .i64 m
  | 15, v, w => IsB w v (B ++ vb (foldN m))
  | 16, v, _ => v = .string (str (B ++ vb (foldN m)))
  | 17, v, _ => v = .string (str B)
  | 18, v, _ => v = .int .i64 m
  | 19, v, w => IsB w v (vb (foldN m))
  | 20, v, _ => v = .string (str (vb (foldN m)))
  | 21, v, _ => v = .string (str (B ++ vb (foldN m)))
  | 22, v, _ => v = .bool true
  | 23, v, _ => v = .bool true
  | 24, v, _ => v = .bool true
  | 25, v, _ => v = .slice A L c
  | 26, v, w => IsB w v (B)
  | 27, v, _ => v = .string s
  | 28, v, w => IsB w v (B ++ (vb s.size ++ s.data.toList))
  | 29, v, _ => v = .string (str (B ++ (vb s.size ++ s.data.toList)))
  | 30, v, _ => v = .string (str B)
  | 31, v, _ => v = .string s
  | 32, v, w => IsB w v (vb s.size ++ s.data.toList)
  | 33, v, _ => v = .string (str (vb s.size ++ s.data.toList))
  | 34, v, _ => v = .string (str (B ++ (vb s.size ++ s.data.toList)))
  | 35, v, _ => v = .bool true
  | 36, v, _ => v = .bool true
  | 37, v, _ => v = .bool true
  | 38, v, _ => v = .bool true
  | 39, v, _ => v = .bool true
  | 40, v, _ => v = .bool true
  | _, _, _ => True
theorem psiWr_grew (A : Option Addr) (L c : Nat) (B : List UInt8) (n : Nat) (m : Int) (s : ByteArray) : ∀ i v w w', psiWr A L c B n m s i v w → Grew w w' → psiWr A L c B n m s i v w' := by
  intro i v w w' h hg
  rcases i with _ | _ | _ | _ | _ | _ | _ | _ | _ | _ | _ | _ | _ | _ | _ | _ | _ | _ | _ | _ | _ | _ | _ | _ | _ | _ | _ | _ | _ | _ | _ | _ | _ | _ | _ | _ | _ | _ | _ | _ | _ | i
  · exact h
  · exact IsB.grew h hg
  · exact h
  · exact IsB.grew h hg
  · exact h
  · exact h
  · exact h
  · exact IsB.grew h hg
  · exact h
  · exact h
  · exact h
  · exact h
  · exact h
  · exact IsB.grew h hg
  · exact h
  · exact IsB.grew h hg
  · exact h
  · exact h
  · exact h
  · exact IsB.grew h hg
  · exact h
  · exact h
  · exact h
  · exact h
  · exact h
  · exact h
  · exact IsB.grew h hg
  · exact h
  · exact IsB.grew h hg
  · exact h
  · exact h
  · exact h
  · exact IsB.grew h hg
  · exact h
  · exact h
  · exact h
  · exact h
  · exact h
  · exact h
  · exact h
  · exact h
  · trivial
set_option maxRecDepth 100000 in
set_option maxHeartbeats 4000000 in
theorem writes_region {p : String} (A : Option Addr) (L c : Nat) (B : List UInt8) (n : Nat) (m : Int) (s : ByteArray) (hn : n < 18446744073709551616) (hm1 : -9223372036854775808 ≤ m) (hm2 : m ≤ 9223372036854775807) (hB : B.length ≤ 1000) (hs : s.size ≤ 1000) (hv1 : (vb n).length ≤ 10) (hv2 : (vb (foldN m)).length ≤ 10) (hv3 : (vb s.size).length ≤ 10) (hsd : s.data.toList.length = s.size) (a : Act) (w : World) (Q : Exit → Act → World → Prop) (hN : a.tmps.size = 61) (h0 : a.tmps.getD 0 undef = .slice A L c) (h1 : a.tmps.getD 1 undef = .int .u64 (n : Int)) (h2 : a.tmps.getD 2 undef = .int .i64 m) (h3 : a.tmps.getD 3 undef = .string s) (h9 : a.tmps.getD 9 undef = .string (str B)) (hAB0 : IsB w (.slice A L c) B) (hQ : ∀ a' w', a'.defers = a.defers → a'.tmps.getD 8 undef = .bool true → Grew w w' → Q .normal a' w')
    : (Code.region 4 (opsWr p).toArray true).wp Try.prog Q a w := by
  have hAB : IsB w.drew (.slice A L c) B := hAB0
  refine (wpIn_wide (n := 1)).1 (wpIn_region_vals 61 hN follows (opsWr_back p) (opsWr_slots p) Grew Grew.refl Grew.trans (psiWr A L c B n m s) (psiWr_grew A L c B n m s) ?_ ?_)
  · intro i o d ho hd a' w' hF hR hp
    rcases i with _ | _ | _ | _ | _ | _ | _ | _ | _ | _ | _ | _ | _ | _ | _ | _ | _ | _ | _ | _ | _ | _ | _ | _ | _ | _ | _ | _ | _ | _ | _ | _ | _ | _ | _ | _ | _ | _ | _ | _ | _ | i
    · obtain rfl : oWr0 p = o := Option.some.inj ho
      obtain rfl : 21 = d := Option.some.inj hd
      exact step_move rfl rfl rfl (hF.at 0 rfl h0) ⟨_, rfl, rfl, Grew.refl _⟩
    · obtain rfl : oWr1 p = o := Option.some.inj ho
      obtain rfl : 22 = d := Option.some.inj hd
      have q0 : a'.tmps.getD 21 undef = .slice A L c := hp 0 (oWr0 p) 21 rfl rfl rfl
      exact step_append (by omega) rfl rfl rfl rfl (show IsB w' (a'.tmps.getD 21 undef) _ from by rw [q0]; exact hAB.grew hR) (fun v w'' h hg => ⟨v, rfl, h, hg⟩)
    · obtain rfl : oWr2 p = o := Option.some.inj ho
      obtain rfl : 23 = d := Option.some.inj hd
      exact step_move rfl rfl rfl (hF.at 1 rfl h1) ⟨_, rfl, rfl, Grew.refl _⟩
    · obtain rfl : oWr3 p = o := Option.some.inj ho
      obtain rfl : 24 = d := Option.some.inj hd
      have q1 : IsB w' (a'.tmps.getD 22 undef) (B) := hp 1 (oWr1 p) 22 rfl rfl rfl
      have q2 : a'.tmps.getD 23 undef = .int .u64 (n : Int) := hp 2 (oWr2 p) 23 rfl rfl rfl
      obtain ⟨A1, L1, c1, e1, hL1, hA1⟩ := q1
      exact step_gives rfl rfl rfl (enters_of Try.func7 (by kernel_rfl) rfl) (vs := #[.slice A1 L1 c1, .int .u64 (n : Int)]) (by simp only [List.map_toArray, List.map_cons, List.map_nil, Act.eval, e1, q2]) (Uint_any A1 B L1 c1 n hL1 hn (by omega) w' hA1) (fun v w'' h hg => ⟨v, rfl, h, hg⟩)
    · obtain rfl : oWr4 p = o := Option.some.inj ho
      obtain rfl : 25 = d := Option.some.inj hd
      have q3 : IsB w' (a'.tmps.getD 24 undef) (B ++ vb n) := hp 3 (oWr3 p) 24 rfl rfl rfl
      exact step_conv rfl rfl rfl (show IsB w' (a'.tmps.getD 24 undef) _ from q3) ⟨_, rfl, rfl, Grew.refl _⟩
    · obtain rfl : oWr5 p = o := Option.some.inj ho
      obtain rfl : 26 = d := Option.some.inj hd
      exact step_move rfl rfl rfl (hF.at 9 rfl h9) ⟨_, rfl, rfl, Grew.refl _⟩
    · obtain rfl : oWr6 p = o := Option.some.inj ho
      obtain rfl : 27 = d := Option.some.inj hd
      exact step_move rfl rfl rfl (hF.at 1 rfl h1) ⟨_, rfl, rfl, Grew.refl _⟩
    · obtain rfl : oWr7 p = o := Option.some.inj ho
      obtain rfl : 28 = d := Option.some.inj hd
      have q6 : a'.tmps.getD 27 undef = .int .u64 (n : Int) := hp 6 (oWr6 p) 27 rfl rfl rfl
      exact step_gives rfl rfl rfl (enters_of Try.func8 (by kernel_rfl) rfl) (vs := #[.int .u64 (n : Int)]) (by simp only [List.map_toArray, List.map_cons, List.map_nil, Act.eval, q6]) (ref_Uint n hn w') (fun v w'' h hg => ⟨v, rfl, h, hg⟩)
    · obtain rfl : oWr8 p = o := Option.some.inj ho
      obtain rfl : 29 = d := Option.some.inj hd
      have q7 : IsB w' (a'.tmps.getD 28 undef) (vb n) := hp 7 (oWr7 p) 28 rfl rfl rfl
      exact step_conv rfl rfl rfl (show IsB w' (a'.tmps.getD 28 undef) _ from q7) ⟨_, rfl, rfl, Grew.refl _⟩
    · obtain rfl : oWr9 p = o := Option.some.inj ho
      obtain rfl : 30 = d := Option.some.inj hd
      have q5 : a'.tmps.getD 26 undef = .string (str B) := hp 5 (oWr5 p) 26 rfl rfl rfl
      have q8 : a'.tmps.getD 29 undef = .string (str (vb n)) := hp 8 (oWr8 p) 29 rfl rfl rfl
      exact step_bin rfl rfl rfl q5 q8 (guard_str _ _ _ _ _ _ _) (run_add _ _ _ (by first | omega | (simp only [List.length_append]; omega))) ⟨_, rfl, rfl, Grew.refl _⟩
    · obtain rfl : oWr10 p = o := Option.some.inj ho
      obtain rfl : 31 = d := Option.some.inj hd
      have q4 : a'.tmps.getD 25 undef = .string (str (B ++ vb n)) := hp 4 (oWr4 p) 25 rfl rfl rfl
      have q9 : a'.tmps.getD 30 undef = .string (str (B ++ vb n)) := hp 9 (oWr9 p) 30 rfl rfl rfl
      exact step_bin rfl rfl rfl q4 q9 (guard_str _ _ _ _ _ _ _) (by rw [run_eq]; simp) ⟨_, rfl, rfl, Grew.refl _⟩
    · obtain rfl : oWr11 p = o := Option.some.inj ho
      obtain rfl : 32 = d := Option.some.inj hd
      have q10 : a'.tmps.getD 31 undef = .bool true := hp 10 (oWr10 p) 31 rfl rfl rfl
      exact step_move rfl rfl rfl q10 ⟨_, rfl, rfl, Grew.refl _⟩
    · obtain rfl : oWr12 p = o := Option.some.inj ho
      obtain rfl : 33 = d := Option.some.inj hd
      have q11 : a'.tmps.getD 32 undef = .bool true := hp 11 (oWr11 p) 32 rfl rfl rfl
      exact step_move rfl (wanted_on rfl (show (opsWr p).toArray[11]? = some (oWr11 p) from rfl) rfl q11) rfl (hF.at 0 rfl h0) ⟨_, rfl, rfl, Grew.refl _⟩
    · obtain rfl : oWr13 p = o := Option.some.inj ho
      obtain rfl : 34 = d := Option.some.inj hd
      have q11 : a'.tmps.getD 32 undef = .bool true := hp 11 (oWr11 p) 32 rfl rfl rfl
      have q12 : a'.tmps.getD 33 undef = .slice A L c := hp 12 (oWr12 p) 33 rfl rfl rfl
      exact step_append (by omega) rfl (wanted_on rfl (show (opsWr p).toArray[11]? = some (oWr11 p) from rfl) rfl q11) rfl rfl (show IsB w' (a'.tmps.getD 33 undef) _ from by rw [q12]; exact hAB.grew hR) (fun v w'' h hg => ⟨v, rfl, h, hg⟩)
    · obtain rfl : oWr14 p = o := Option.some.inj ho
      obtain rfl : 35 = d := Option.some.inj hd
      have q11 : a'.tmps.getD 32 undef = .bool true := hp 11 (oWr11 p) 32 rfl rfl rfl
      exact step_move rfl (wanted_on rfl (show (opsWr p).toArray[11]? = some (oWr11 p) from rfl) rfl q11) rfl (hF.at 2 rfl h2) ⟨_, rfl, rfl, Grew.refl _⟩
    · obtain rfl : oWr15 p = o := Option.some.inj ho
      obtain rfl : 36 = d := Option.some.inj hd
      have q11 : a'.tmps.getD 32 undef = .bool true := hp 11 (oWr11 p) 32 rfl rfl rfl
      have q13 : IsB w' (a'.tmps.getD 34 undef) (B) := hp 13 (oWr13 p) 34 rfl rfl rfl
      have q14 : a'.tmps.getD 35 undef = .int .i64 m := hp 14 (oWr14 p) 35 rfl rfl rfl
      obtain ⟨A1, L1, c1, e1, hL1, hA1⟩ := q13
      exact step_gives rfl (wanted_on rfl (show (opsWr p).toArray[11]? = some (oWr11 p) from rfl) rfl q11) rfl (enters_of Try.func9 (by kernel_rfl) rfl) (vs := #[.slice A1 L1 c1, .int .i64 m]) (by simp only [List.map_toArray, List.map_cons, List.map_nil, Act.eval, e1, q14]) (Int_any A1 B L1 c1 hL1 m hm1 hm2 (by omega) w' hA1) (fun v w'' h hg => ⟨v, rfl, h, hg⟩)
    · obtain rfl : oWr16 p = o := Option.some.inj ho
      obtain rfl : 37 = d := Option.some.inj hd
      have q11 : a'.tmps.getD 32 undef = .bool true := hp 11 (oWr11 p) 32 rfl rfl rfl
      have q15 : IsB w' (a'.tmps.getD 36 undef) (B ++ vb (foldN m)) := hp 15 (oWr15 p) 36 rfl rfl rfl
      exact step_conv rfl (wanted_on rfl (show (opsWr p).toArray[11]? = some (oWr11 p) from rfl) rfl q11) rfl (show IsB w' (a'.tmps.getD 36 undef) _ from q15) ⟨_, rfl, rfl, Grew.refl _⟩
    · obtain rfl : oWr17 p = o := Option.some.inj ho
      obtain rfl : 38 = d := Option.some.inj hd
      have q11 : a'.tmps.getD 32 undef = .bool true := hp 11 (oWr11 p) 32 rfl rfl rfl
      exact step_move rfl (wanted_on rfl (show (opsWr p).toArray[11]? = some (oWr11 p) from rfl) rfl q11) rfl (hF.at 9 rfl h9) ⟨_, rfl, rfl, Grew.refl _⟩
    · obtain rfl : oWr18 p = o := Option.some.inj ho
      obtain rfl : 39 = d := Option.some.inj hd
      have q11 : a'.tmps.getD 32 undef = .bool true := hp 11 (oWr11 p) 32 rfl rfl rfl
      exact step_move rfl (wanted_on rfl (show (opsWr p).toArray[11]? = some (oWr11 p) from rfl) rfl q11) rfl (hF.at 2 rfl h2) ⟨_, rfl, rfl, Grew.refl _⟩
    · obtain rfl : oWr19 p = o := Option.some.inj ho
      obtain rfl : 40 = d := Option.some.inj hd
      have q11 : a'.tmps.getD 32 undef = .bool true := hp 11 (oWr11 p) 32 rfl rfl rfl
      have q18 : a'.tmps.getD 39 undef = .int .i64 m := hp 18 (oWr18 p) 39 rfl rfl rfl
      exact step_gives rfl (wanted_on rfl (show (opsWr p).toArray[11]? = some (oWr11 p) from rfl) rfl q11) rfl (enters_of Try.func10 (by kernel_rfl) rfl) (vs := #[.int .i64 m]) (by simp only [List.map_toArray, List.map_cons, List.map_nil, Act.eval, q18]) (ref_Int m hm1 hm2 w') (fun v w'' h hg => ⟨v, rfl, h, hg⟩)
    · obtain rfl : oWr20 p = o := Option.some.inj ho
      obtain rfl : 41 = d := Option.some.inj hd
      have q11 : a'.tmps.getD 32 undef = .bool true := hp 11 (oWr11 p) 32 rfl rfl rfl
      have q19 : IsB w' (a'.tmps.getD 40 undef) (vb (foldN m)) := hp 19 (oWr19 p) 40 rfl rfl rfl
      exact step_conv rfl (wanted_on rfl (show (opsWr p).toArray[11]? = some (oWr11 p) from rfl) rfl q11) rfl (show IsB w' (a'.tmps.getD 40 undef) _ from q19) ⟨_, rfl, rfl, Grew.refl _⟩
    · obtain rfl : oWr21 p = o := Option.some.inj ho
      obtain rfl : 42 = d := Option.some.inj hd
      have q11 : a'.tmps.getD 32 undef = .bool true := hp 11 (oWr11 p) 32 rfl rfl rfl
      have q17 : a'.tmps.getD 38 undef = .string (str B) := hp 17 (oWr17 p) 38 rfl rfl rfl
      have q20 : a'.tmps.getD 41 undef = .string (str (vb (foldN m))) := hp 20 (oWr20 p) 41 rfl rfl rfl
      exact step_bin rfl (wanted_on rfl (show (opsWr p).toArray[11]? = some (oWr11 p) from rfl) rfl q11) rfl q17 q20 (guard_str _ _ _ _ _ _ _) (run_add _ _ _ (by first | omega | (simp only [List.length_append]; omega))) ⟨_, rfl, rfl, Grew.refl _⟩
    · obtain rfl : oWr22 p = o := Option.some.inj ho
      obtain rfl : 43 = d := Option.some.inj hd
      have q11 : a'.tmps.getD 32 undef = .bool true := hp 11 (oWr11 p) 32 rfl rfl rfl
      have q16 : a'.tmps.getD 37 undef = .string (str (B ++ vb (foldN m))) := hp 16 (oWr16 p) 37 rfl rfl rfl
      have q21 : a'.tmps.getD 42 undef = .string (str (B ++ vb (foldN m))) := hp 21 (oWr21 p) 42 rfl rfl rfl
      exact step_bin rfl (wanted_on rfl (show (opsWr p).toArray[11]? = some (oWr11 p) from rfl) rfl q11) rfl q16 q21 (guard_str _ _ _ _ _ _ _) (by rw [run_eq]; simp) ⟨_, rfl, rfl, Grew.refl _⟩
    · obtain rfl : oWr23 p = o := Option.some.inj ho
      obtain rfl : 44 = d := Option.some.inj hd
      have q11 : a'.tmps.getD 32 undef = .bool true := hp 11 (oWr11 p) 32 rfl rfl rfl
      have q22 : a'.tmps.getD 43 undef = .bool true := hp 22 (oWr22 p) 43 rfl rfl rfl
      exact step_pick rfl rfl rfl q11 (show (if true = true then a'.tmps.getD 43 undef else _) = _ from q22) ⟨_, rfl, rfl, Grew.refl _⟩
    · obtain rfl : oWr24 p = o := Option.some.inj ho
      obtain rfl : 45 = d := Option.some.inj hd
      have q23 : a'.tmps.getD 44 undef = .bool true := hp 23 (oWr23 p) 44 rfl rfl rfl
      exact step_move rfl rfl rfl q23 ⟨_, rfl, rfl, Grew.refl _⟩
    · obtain rfl : oWr25 p = o := Option.some.inj ho
      obtain rfl : 46 = d := Option.some.inj hd
      have q24 : a'.tmps.getD 45 undef = .bool true := hp 24 (oWr24 p) 45 rfl rfl rfl
      exact step_move rfl (wanted_on rfl (show (opsWr p).toArray[24]? = some (oWr24 p) from rfl) rfl q24) rfl (hF.at 0 rfl h0) ⟨_, rfl, rfl, Grew.refl _⟩
    · obtain rfl : oWr26 p = o := Option.some.inj ho
      obtain rfl : 47 = d := Option.some.inj hd
      have q24 : a'.tmps.getD 45 undef = .bool true := hp 24 (oWr24 p) 45 rfl rfl rfl
      have q25 : a'.tmps.getD 46 undef = .slice A L c := hp 25 (oWr25 p) 46 rfl rfl rfl
      exact step_append (by omega) rfl (wanted_on rfl (show (opsWr p).toArray[24]? = some (oWr24 p) from rfl) rfl q24) rfl rfl (show IsB w' (a'.tmps.getD 46 undef) _ from by rw [q25]; exact hAB.grew hR) (fun v w'' h hg => ⟨v, rfl, h, hg⟩)
    · obtain rfl : oWr27 p = o := Option.some.inj ho
      obtain rfl : 48 = d := Option.some.inj hd
      have q24 : a'.tmps.getD 45 undef = .bool true := hp 24 (oWr24 p) 45 rfl rfl rfl
      exact step_move rfl (wanted_on rfl (show (opsWr p).toArray[24]? = some (oWr24 p) from rfl) rfl q24) rfl (hF.at 3 rfl h3) ⟨_, rfl, rfl, Grew.refl _⟩
    · obtain rfl : oWr28 p = o := Option.some.inj ho
      obtain rfl : 49 = d := Option.some.inj hd
      have q24 : a'.tmps.getD 45 undef = .bool true := hp 24 (oWr24 p) 45 rfl rfl rfl
      have q26 : IsB w' (a'.tmps.getD 47 undef) (B) := hp 26 (oWr26 p) 47 rfl rfl rfl
      have q27 : a'.tmps.getD 48 undef = .string s := hp 27 (oWr27 p) 48 rfl rfl rfl
      obtain ⟨A1, L1, c1, e1, hL1, hA1⟩ := q26
      exact step_gives rfl (wanted_on rfl (show (opsWr p).toArray[24]? = some (oWr24 p) from rfl) rfl q24) rfl (enters_of Try.func11 (by kernel_rfl) rfl) (vs := #[.slice A1 L1 c1, .string s]) (by simp only [List.map_toArray, List.map_cons, List.map_nil, Act.eval, e1, q27]) (List.append_assoc B (vb s.size) s.data.toList ▸ Text_any A1 B L1 c1 hL1 s (by omega) (by omega) w' hA1) (fun v w'' h hg => ⟨v, rfl, h, hg⟩)
    · obtain rfl : oWr29 p = o := Option.some.inj ho
      obtain rfl : 50 = d := Option.some.inj hd
      have q24 : a'.tmps.getD 45 undef = .bool true := hp 24 (oWr24 p) 45 rfl rfl rfl
      have q28 : IsB w' (a'.tmps.getD 49 undef) (B ++ (vb s.size ++ s.data.toList)) := hp 28 (oWr28 p) 49 rfl rfl rfl
      exact step_conv rfl (wanted_on rfl (show (opsWr p).toArray[24]? = some (oWr24 p) from rfl) rfl q24) rfl (show IsB w' (a'.tmps.getD 49 undef) _ from q28) ⟨_, rfl, rfl, Grew.refl _⟩
    · obtain rfl : oWr30 p = o := Option.some.inj ho
      obtain rfl : 51 = d := Option.some.inj hd
      have q24 : a'.tmps.getD 45 undef = .bool true := hp 24 (oWr24 p) 45 rfl rfl rfl
      exact step_move rfl (wanted_on rfl (show (opsWr p).toArray[24]? = some (oWr24 p) from rfl) rfl q24) rfl (hF.at 9 rfl h9) ⟨_, rfl, rfl, Grew.refl _⟩
    · obtain rfl : oWr31 p = o := Option.some.inj ho
      obtain rfl : 52 = d := Option.some.inj hd
      have q24 : a'.tmps.getD 45 undef = .bool true := hp 24 (oWr24 p) 45 rfl rfl rfl
      exact step_move rfl (wanted_on rfl (show (opsWr p).toArray[24]? = some (oWr24 p) from rfl) rfl q24) rfl (hF.at 3 rfl h3) ⟨_, rfl, rfl, Grew.refl _⟩
    · obtain rfl : oWr32 p = o := Option.some.inj ho
      obtain rfl : 53 = d := Option.some.inj hd
      have q24 : a'.tmps.getD 45 undef = .bool true := hp 24 (oWr24 p) 45 rfl rfl rfl
      have q31 : a'.tmps.getD 52 undef = .string s := hp 31 (oWr31 p) 52 rfl rfl rfl
      exact step_gives rfl (wanted_on rfl (show (opsWr p).toArray[24]? = some (oWr24 p) from rfl) rfl q24) rfl (enters_of Try.func12 (by kernel_rfl) rfl) (vs := #[.string s]) (by simp only [List.map_toArray, List.map_cons, List.map_nil, Act.eval, q31]) (ref_Text s (by omega) w') (fun v w'' h hg => ⟨v, rfl, h, hg⟩)
    · obtain rfl : oWr33 p = o := Option.some.inj ho
      obtain rfl : 54 = d := Option.some.inj hd
      have q24 : a'.tmps.getD 45 undef = .bool true := hp 24 (oWr24 p) 45 rfl rfl rfl
      have q32 : IsB w' (a'.tmps.getD 53 undef) (vb s.size ++ s.data.toList) := hp 32 (oWr32 p) 53 rfl rfl rfl
      exact step_conv rfl (wanted_on rfl (show (opsWr p).toArray[24]? = some (oWr24 p) from rfl) rfl q24) rfl (show IsB w' (a'.tmps.getD 53 undef) _ from q32) ⟨_, rfl, rfl, Grew.refl _⟩
    · obtain rfl : oWr34 p = o := Option.some.inj ho
      obtain rfl : 55 = d := Option.some.inj hd
      have q24 : a'.tmps.getD 45 undef = .bool true := hp 24 (oWr24 p) 45 rfl rfl rfl
      have q30 : a'.tmps.getD 51 undef = .string (str B) := hp 30 (oWr30 p) 51 rfl rfl rfl
      have q33 : a'.tmps.getD 54 undef = .string (str (vb s.size ++ s.data.toList)) := hp 33 (oWr33 p) 54 rfl rfl rfl
      exact step_bin rfl (wanted_on rfl (show (opsWr p).toArray[24]? = some (oWr24 p) from rfl) rfl q24) rfl q30 q33 (guard_str _ _ _ _ _ _ _) (run_add _ _ _ (by first | omega | (simp only [List.length_append]; omega))) ⟨_, rfl, rfl, Grew.refl _⟩
    · obtain rfl : oWr35 p = o := Option.some.inj ho
      obtain rfl : 56 = d := Option.some.inj hd
      have q24 : a'.tmps.getD 45 undef = .bool true := hp 24 (oWr24 p) 45 rfl rfl rfl
      have q29 : a'.tmps.getD 50 undef = .string (str (B ++ (vb s.size ++ s.data.toList))) := hp 29 (oWr29 p) 50 rfl rfl rfl
      have q34 : a'.tmps.getD 55 undef = .string (str (B ++ (vb s.size ++ s.data.toList))) := hp 34 (oWr34 p) 55 rfl rfl rfl
      exact step_bin rfl (wanted_on rfl (show (opsWr p).toArray[24]? = some (oWr24 p) from rfl) rfl q24) rfl q29 q34 (guard_str _ _ _ _ _ _ _) (by rw [run_eq]; simp) ⟨_, rfl, rfl, Grew.refl _⟩
    · obtain rfl : oWr36 p = o := Option.some.inj ho
      obtain rfl : 57 = d := Option.some.inj hd
      have q24 : a'.tmps.getD 45 undef = .bool true := hp 24 (oWr24 p) 45 rfl rfl rfl
      have q35 : a'.tmps.getD 56 undef = .bool true := hp 35 (oWr35 p) 56 rfl rfl rfl
      exact step_pick rfl rfl rfl q24 (show (if true = true then a'.tmps.getD 56 undef else _) = _ from q35) ⟨_, rfl, rfl, Grew.refl _⟩
    · obtain rfl : oWr37 p = o := Option.some.inj ho
      obtain rfl : 58 = d := Option.some.inj hd
      have q36 : a'.tmps.getD 57 undef = .bool true := hp 36 (oWr36 p) 57 rfl rfl rfl
      exact step_move rfl rfl rfl q36 ⟨_, rfl, rfl, Grew.refl _⟩
    · obtain rfl : oWr38 p = o := Option.some.inj ho
      obtain rfl : 59 = d := Option.some.inj hd
      have q37 : a'.tmps.getD 58 undef = .bool true := hp 37 (oWr37 p) 58 rfl rfl rfl
      exact step_wakes rfl (wanted_on rfl (show (opsWr p).toArray[37]? = some (oWr37 p) from rfl) rfl q37) rfl (fun w'' hg => ⟨_, rfl, rfl, hg⟩)
    · obtain rfl : oWr39 p = o := Option.some.inj ho
      obtain rfl : 60 = d := Option.some.inj hd
      have q37 : a'.tmps.getD 58 undef = .bool true := hp 37 (oWr37 p) 58 rfl rfl rfl
      have q38 : a'.tmps.getD 59 undef = .bool true := hp 38 (oWr38 p) 59 rfl rfl rfl
      exact step_pick rfl rfl rfl q37 (show (if true = true then a'.tmps.getD 59 undef else _) = _ from q38) ⟨_, rfl, rfl, Grew.refl _⟩
    · obtain rfl : oWr40 p = o := Option.some.inj ho
      obtain rfl : 8 = d := Option.some.inj hd
      have q39 : a'.tmps.getD 60 undef = .bool true := hp 39 (oWr39 p) 60 rfl rfl rfl
      exact step_assign rfl rfl rfl q39 ⟨_, rfl, rfl, Grew.refl _⟩
    · exact absurd ((Array.getElem?_eq_some_iff.1 ho).1) (by simp [opsWr])
  · intro a' w' hF hR hp
    exact hQ a' w' hF.defers (hp 40 (oWr40 p) 8 rfl rfl) hR.undraw
end Go.Proofs.Ytmphgahkeoaplaa
