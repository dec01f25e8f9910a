/- The last statement of the law VarintOne, whatever its order of evaluation. -/
import Derived.Test.YtmphgahkeoaplaaSteps
namespace Go.Proofs.Ytmphgahkeoaplaa
open Go.RowKit

def oR70 (p : String) : Oper := { dst := some 28, op := Op.move (Operand.tmp 1), type := 23, pos := p, after := #[], guard := none }
def oR71 (p : String) : Oper := { dst := some 29, op := Op.call { callee := Callee.value (Operand.func 7), args := #[Operand.const (Value.slice none 0 0), Operand.tmp 28], argTypes := #[22, 23] }, type := 22, pos := p, after := #[{ on := 0, ground := Ground.data }], guard := none }
def oR72 (p : String) : Oper := { dst := some 30, op := Op.convert 22 9 (Operand.tmp 29), type := 9, pos := p, after := #[{ on := 1, ground := Ground.data }], guard := none }
def oR73 (p : String) : Oper := { dst := some 31, op := Op.move (Operand.tmp 2), type := 23, pos := p, after := #[], guard := none }
def oR74 (p : String) : Oper := { dst := some 32, op := Op.call { callee := Callee.value (Operand.func 7), args := #[Operand.const (Value.slice none 0 0), Operand.tmp 31], argTypes := #[22, 23] }, type := 22, pos := p, after := #[{ on := 3, ground := Ground.data }, { on := 1, ground := Ground.chain }], guard := none }
def oR75 (p : String) : Oper := { dst := some 33, op := Op.convert 22 9 (Operand.tmp 32), type := 9, pos := p, after := #[{ on := 4, ground := Ground.data }], guard := none }
def oR76 (p : String) : Oper := { dst := some 34, op := Op.binOp BinOp.eql 9 (Operand.tmp 30) (Operand.tmp 33) 9, type := 4, pos := p, after := #[{ on := 2, ground := Ground.data }, { on := 5, ground := Ground.data }], guard := none }
def oR77 (p : String) : Oper := { dst := some 35, op := Op.move (Operand.tmp 1), type := 23, pos := p, after := #[], guard := none }
def oR78 (p : String) : Oper := { dst := some 36, op := Op.move (Operand.tmp 2), type := 23, pos := p, after := #[], guard := none }
def oR79 (p : String) : Oper := { dst := some 37, op := Op.binOp BinOp.eql 23 (Operand.tmp 35) (Operand.tmp 36) 23, type := 4, pos := p, after := #[{ on := 7, ground := Ground.data }, { on := 8, ground := Ground.data }], guard := none }
def oR710 (p : String) : Oper := { dst := some 38, op := Op.binOp BinOp.eql 4 (Operand.tmp 34) (Operand.tmp 37) 4, type := 4, pos := p, after := #[{ on := 6, ground := Ground.data }, { on := 9, ground := Ground.data }], guard := none }
def oR711 (p : String) : Oper := { dst := some 39, op := Op.move (Operand.tmp 38), type := 4, pos := p, after := #[{ on := 10, ground := Ground.data }, { on := 4, ground := Ground.chain }], guard := none }
def oR712 (p : String) : Oper := { dst := some 40, op := Op.call { callee := Callee.value (Operand.func 6), args := #[], argTypes := #[] }, type := 4, pos := p, after := #[{ on := 11, ground := Ground.chain }, { on := 11, ground := Ground.guard }], guard := some (11, true) }
def oR713 (p : String) : Oper := { dst := some 41, op := Op.pick (Operand.tmp 39) (Operand.tmp 40) (Operand.const (Value.bool false)), type := 4, pos := p, after := #[{ on := 11, ground := Ground.data }, { on := 12, ground := Ground.data }], guard := none }
def oR714 (p : String) : Oper := { dst := some 6, op := Op.assign (Operand.tmp 41), type := 4, pos := p, after := #[{ on := 13, ground := Ground.data }, { on := 12, ground := Ground.chain }, { on := 0, ground := Ground.phase }, { on := 1, ground := Ground.phase }, { on := 2, ground := Ground.phase }, { on := 3, ground := Ground.phase }, { on := 4, ground := Ground.phase }, { on := 5, ground := Ground.phase }, { on := 6, ground := Ground.phase }, { on := 7, ground := Ground.phase }, { on := 8, ground := Ground.phase }, { on := 9, ground := Ground.phase }, { on := 10, ground := Ground.phase }, { on := 11, ground := Ground.phase }, { on := 12, ground := Ground.phase }, { on := 13, ground := Ground.phase }], guard := none }
def opsR7 (p : String) : List Oper := [oR70 p, oR71 p, oR72 p, oR73 p, oR74 p, oR75 p, oR76 p, oR77 p, oR78 p, oR79 p, oR710 p, oR711 p, oR712 p, oR713 p, oR714 p]
theorem opsR7_back (p : String) : backwards (opsR7 p) = true := by kernel_rfl
theorem opsR7_slots (p : String) : slotsOk 42 (opsR7 p) = true := by kernel_rfl
/-- What each slot comes to. -/
def psiR7 (n m : Nat) : Nat → Value → World → Prop
  | 0, v, _ => v = .int .u64 (n : Int)
  | 1, v, w => IsB w v (vb n)
  | 2, v, _ => v = .string (str (vb n))
  | 3, v, _ => v = .int .u64 (m : Int)
  | 4, v, w => IsB w v (vb m)
  | 5, v, _ => v = .string (str (vb m))
  | 6, v, _ => v = .bool (vb n == vb m)
  | 7, v, _ => v = .int .u64 (n : Int)
  | 8, v, _ => v = .int .u64 (m : Int)
  | 9, v, _ => v = .bool ((n : Int) == (m : Int))
  | 10, v, _ => v = .bool true
  | 11, v, _ => v = .bool true
  | 12, v, _ => v = .bool true
  | 13, v, _ => v = .bool true
  | 14, v, _ => v = .bool true
  | _, _, _ => True
theorem psiR7_grew (n m : Nat) : ∀ i v w w', psiR7 n m i v w → Grew w w' → psiR7 n m i v w' := by
  intro i v w w' h hg
  rcases i with _ | _ | _ | _ | _ | _ | _ | _ | _ | _ | _ | _ | _ | _ | _ | i
  · exact h
  · exact IsB.grew h hg
  · exact h
  · exact h
  · exact IsB.grew h hg
  · exact h
  · exact h
  · exact h
  · exact h
  · exact h
  · exact h
  · exact h
  · exact h
  · exact h
  · exact h
  · trivial
set_option maxRecDepth 100000 in
set_option maxHeartbeats 4000000 in
theorem one_region7 {p : String} (n m : Nat) (hn : n < 18446744073709551616) (hm : m < 18446744073709551616) (heq : ((vb n == vb m) == ((n : Int) == (m : Int))) = true) (a : Act) (w : World) (Q : Exit → Act → World → Prop) (hN : a.tmps.size = 42) (h1 : a.tmps.getD 1 undef = .int .u64 (n : Int)) (h2 : a.tmps.getD 2 undef = .int .u64 (m : Int)) (hQ : ∀ a' w', a'.defers = a.defers → a'.tmps.getD 6 undef = .bool true → Grew w w' → Q .normal a' w')
    : (Code.region 7 (opsR7 p).toArray true).wp Try.prog Q a w := by
  refine (wpIn_wide (n := 1)).1 (wpIn_region_vals 42 hN follows (opsR7_back p) (opsR7_slots p) Grew Grew.refl Grew.trans (psiR7 n m) (psiR7_grew n m) ?_ ?_)
  · intro i o d ho hd a' w' hF hR hp
    rcases i with _ | _ | _ | _ | _ | _ | _ | _ | _ | _ | _ | _ | _ | _ | _ | i
    · obtain rfl : oR70 p = o := Option.some.inj ho
      obtain rfl : 28 = d := Option.some.inj hd
      exact step_move rfl rfl rfl (hF.at 1 rfl h1) ⟨_, rfl, rfl, Grew.refl _⟩
    · obtain rfl : oR71 p = o := Option.some.inj ho
      obtain rfl : 29 = d := Option.some.inj hd
      have q0 : a'.tmps.getD 28 undef = .int .u64 (n : Int) := hp 0 (oR70 p) 28 rfl rfl rfl
      exact step_gives rfl rfl rfl (enters_of Try.func7 (by kernel_rfl) rfl) (vs := #[.slice none 0 0, .int .u64 (n : Int)]) (by simp only [List.map_toArray, List.map_cons, List.map_nil, Act.eval, q0]) (X := vb n) (Uint_any none [] 0 0 n rfl hn (by simp) w' (HasA.nil _ _ _)) (fun v w'' h hg => ⟨v, rfl, h, hg⟩)
    · obtain rfl : oR72 p = o := Option.some.inj ho
      obtain rfl : 30 = d := Option.some.inj hd
      have q1 : IsB w' (a'.tmps.getD 29 undef) (vb n) := hp 1 (oR71 p) 29 rfl rfl rfl
      exact step_conv rfl rfl rfl (show IsB w' (a'.tmps.getD 29 undef) _ from q1) ⟨_, rfl, rfl, Grew.refl _⟩
    · obtain rfl : oR73 p = o := Option.some.inj ho
      obtain rfl : 31 = d := Option.some.inj hd
      exact step_move rfl rfl rfl (hF.at 2 rfl h2) ⟨_, rfl, rfl, Grew.refl _⟩
    · obtain rfl : oR74 p = o := Option.some.inj ho
      obtain rfl : 32 = d := Option.some.inj hd
      have q3 : a'.tmps.getD 31 undef = .int .u64 (m : Int) := hp 3 (oR73 p) 31 rfl rfl rfl
      exact step_gives rfl rfl rfl (enters_of Try.func7 (by kernel_rfl) rfl) (vs := #[.slice none 0 0, .int .u64 (m : Int)]) (by simp only [List.map_toArray, List.map_cons, List.map_nil, Act.eval, q3]) (X := vb m) (Uint_any none [] 0 0 m rfl hm (by simp) w' (HasA.nil _ _ _)) (fun v w'' h hg => ⟨v, rfl, h, hg⟩)
    · obtain rfl : oR75 p = o := Option.some.inj ho
      obtain rfl : 33 = d := Option.some.inj hd
      have q4 : IsB w' (a'.tmps.getD 32 undef) (vb m) := hp 4 (oR74 p) 32 rfl rfl rfl
      exact step_conv rfl rfl rfl (show IsB w' (a'.tmps.getD 32 undef) _ from q4) ⟨_, rfl, rfl, Grew.refl _⟩
    · obtain rfl : oR76 p = o := Option.some.inj ho
      obtain rfl : 34 = d := Option.some.inj hd
      have q2 : a'.tmps.getD 30 undef = .string (str (vb n)) := hp 2 (oR72 p) 30 rfl rfl rfl
      have q5 : a'.tmps.getD 33 undef = .string (str (vb m)) := hp 5 (oR75 p) 33 rfl rfl rfl
      exact step_bin rfl rfl rfl q2 q5 (guard_str _ _ _ _ _ _ _) (run_eq _ _ _) ⟨_, rfl, rfl, Grew.refl _⟩
    · obtain rfl : oR77 p = o := Option.some.inj ho
      obtain rfl : 35 = d := Option.some.inj hd
      exact step_move rfl rfl rfl (hF.at 1 rfl h1) ⟨_, rfl, rfl, Grew.refl _⟩
    · obtain rfl : oR78 p = o := Option.some.inj ho
      obtain rfl : 36 = d := Option.some.inj hd
      exact step_move rfl rfl rfl (hF.at 2 rfl h2) ⟨_, rfl, rfl, Grew.refl _⟩
    · obtain rfl : oR79 p = o := Option.some.inj ho
      obtain rfl : 37 = d := Option.some.inj hd
      have q7 : a'.tmps.getD 35 undef = .int .u64 (n : Int) := hp 7 (oR77 p) 35 rfl rfl rfl
      have q8 : a'.tmps.getD 36 undef = .int .u64 (m : Int) := hp 8 (oR78 p) 36 rfl rfl rfl
      exact step_bin rfl rfl rfl q7 q8 (guard_int _ _ _ _ _ _ _ _ _) (run_equ _ _ _) ⟨_, rfl, rfl, Grew.refl _⟩
    · obtain rfl : oR710 p = o := Option.some.inj ho
      obtain rfl : 38 = d := Option.some.inj hd
      have q6 : a'.tmps.getD 34 undef = .bool (vb n == vb m) := hp 6 (oR76 p) 34 rfl rfl rfl
      have q9 : a'.tmps.getD 37 undef = .bool ((n : Int) == (m : Int)) := hp 9 (oR79 p) 37 rfl rfl rfl
      exact step_bin rfl rfl rfl q6 q9 (guard_bool _ _ _ _ _ _ _) (by rw [run_eqb, heq]) ⟨_, rfl, rfl, Grew.refl _⟩
    · obtain rfl : oR711 p = o := Option.some.inj ho
      obtain rfl : 39 = d := Option.some.inj hd
      have q10 : a'.tmps.getD 38 undef = .bool true := hp 10 (oR710 p) 38 rfl rfl rfl
      exact step_move rfl rfl rfl q10 ⟨_, rfl, rfl, Grew.refl _⟩
    · obtain rfl : oR712 p = o := Option.some.inj ho
      obtain rfl : 40 = d := Option.some.inj hd
      have q11 : a'.tmps.getD 39 undef = .bool true := hp 11 (oR711 p) 39 rfl rfl rfl
      exact step_wakes rfl (wanted_on rfl (show (opsR7 p).toArray[11]? = some (oR711 p) from rfl) rfl q11) rfl (fun w'' hg => ⟨_, rfl, rfl, hg⟩)
    · obtain rfl : oR713 p = o := Option.some.inj ho
      obtain rfl : 41 = d := Option.some.inj hd
      have q11 : a'.tmps.getD 39 undef = .bool true := hp 11 (oR711 p) 39 rfl rfl rfl
      have q12 : a'.tmps.getD 40 undef = .bool true := hp 12 (oR712 p) 40 rfl rfl rfl
      exact step_pick rfl rfl rfl q11 (show (if true = true then a'.tmps.getD 40 undef else _) = _ from q12) ⟨_, rfl, rfl, Grew.refl _⟩
    · obtain rfl : oR714 p = o := Option.some.inj ho
      obtain rfl : 6 = d := Option.some.inj hd
      have q13 : a'.tmps.getD 41 undef = .bool true := hp 13 (oR713 p) 41 rfl rfl rfl
      exact step_assign rfl rfl rfl q13 ⟨_, rfl, rfl, Grew.refl _⟩
    · exact absurd ((Array.getElem?_eq_some_iff.1 ho).1) (by simp [opsR7])
  · intro a' w' hF hR hp
    exact hQ a' w' hF.defers (hp 14 (oR714 p) 6 rfl rfl) hR.undraw
end Go.Proofs.Ytmphgahkeoaplaa
