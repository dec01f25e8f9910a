/- The statement of the law FrameTells that holds a call, whatever its order of evaluation. -/
import Derived.Test.YtbhncffeoolhfaaDoorFrSpec
namespace Go.Proofs.YtbhncffeoolhfaaDoor
open Go.RowKit

theorem run_nei (t : TypeId) (k : IntKind) (w : World) (x y : Int) : (binOp .neq t (.int k x) (.int k y)).run Tryd.prog w = .ok (.bool (x != y)) w := by
  simp [go_sem]
def oFT70 (p : String) : Oper := { dst := some 48, op := Op.move (Operand.tmp 6), type := 24, pos := p, after := #[], guard := none }
def oFT71 (p : String) : Oper := { dst := some 49, op := Op.binOp BinOp.neq 24 (Operand.tmp 48) (Operand.const (Value.int IntKind.i64 0)) 24, type := 4, pos := p, after := #[{ on := 0, ground := Ground.data }], guard := none }
def oFT72 (p : String) : Oper := { dst := some 50, op := Op.move (Operand.tmp 49), type := 4, pos := p, after := #[{ on := 1, ground := Ground.data }], guard := none }
def oFT73 (p : String) : Oper := { dst := some 51, op := Op.move (Operand.tmp 5), type := 22, pos := p, after := #[{ on := 2, ground := Ground.guard }], guard := some (2, false) }
def oFT74 (p : String) : Oper := { dst := some 52, op := Op.convert 22 9 (Operand.tmp 51), type := 9, pos := p, after := #[{ on := 3, ground := Ground.data }, { on := 2, ground := Ground.guard }], guard := some (2, false) }
def oFT75 (p : String) : Oper := { dst := some 53, op := Op.move (Operand.tmp 0), type := 22, pos := p, after := #[{ on := 2, ground := Ground.guard }], guard := some (2, false) }
def oFT76 (p : String) : Oper := { dst := some 54, op := Op.convert 22 9 (Operand.tmp 53), type := 9, pos := p, after := #[{ on := 5, ground := Ground.data }, { on := 2, ground := Ground.guard }], guard := some (2, false) }
def oFT77 (p : String) : Oper := { dst := some 55, op := Op.move (Operand.tmp 1), type := 22, pos := p, after := #[{ on := 2, ground := Ground.guard }], guard := some (2, false) }
def oFT78 (p : String) : Oper := { dst := some 56, op := Op.call { callee := Callee.value (Operand.func 8), args := #[Operand.tmp 55], argTypes := #[22] }, type := 22, pos := p, after := #[{ on := 7, ground := Ground.data }, { on := 2, ground := Ground.chain }, { on := 2, ground := Ground.guard }], guard := some (2, false) }
def oFT79 (p : String) : Oper := { dst := some 57, op := Op.convert 22 9 (Operand.tmp 56), type := 9, pos := p, after := #[{ on := 8, ground := Ground.data }, { on := 2, ground := Ground.guard }], guard := some (2, false) }
def oFT710 (p : String) : Oper := { dst := some 58, op := Op.binOp BinOp.add 9 (Operand.tmp 54) (Operand.tmp 57) 9, type := 9, pos := p, after := #[{ on := 6, ground := Ground.data }, { on := 9, ground := Ground.data }, { on := 2, ground := Ground.guard }], guard := some (2, false) }
def oFT711 (p : String) : Oper := { dst := some 59, op := Op.binOp BinOp.neq 9 (Operand.tmp 52) (Operand.tmp 58) 9, type := 4, pos := p, after := #[{ on := 4, ground := Ground.data }, { on := 10, ground := Ground.data }, { on := 2, ground := Ground.guard }], guard := some (2, false) }
def oFT712 (p : String) : Oper := { dst := some 60, op := Op.pick (Operand.tmp 50) (Operand.const (Value.bool true)) (Operand.tmp 59), type := 4, pos := p, after := #[{ on := 2, ground := Ground.data }, { on := 11, ground := Ground.data }], guard := none }
def opsFT7 (p : String) : List Oper := [oFT70 p, oFT71 p, oFT72 p, oFT73 p, oFT74 p, oFT75 p, oFT76 p, oFT77 p, oFT78 p, oFT79 p, oFT710 p, oFT711 p, oFT712 p]
theorem opsFT7_back (p : String) : backwards (opsFT7 p) = true := by kernel_rfl
theorem opsFT7_slots (p : String) : slotsOk 133 (opsFT7 p) = true := by kernel_rfl
/-- What each slot comes to. -/
def psiFT7 (A1 : Option Addr) (L1 c1 : Nat) (x : List UInt8) (A2 : Option Addr) (L2 c2 : Nat) (y : List UInt8) (A3 : Option Addr) (L3 c3 : Nat) : Nat → Value → World → Prop
  | 0, v, _ => v = .int .i64 0
  | 1, v, _ => v = .bool false
  | 2, v, _ => v = .bool false
  | 3, v, _ => v = .slice A3 L3 c3
  | 4, v, _ => v = .string (str (x ++ frm y))
  | 5, v, _ => v = .slice A1 L1 c1
  | 6, v, _ => v = .string (str x)
  | 7, v, _ => v = .slice A2 L2 c2
  | 8, v, w => IsB w v (frm y)
  | 9, v, _ => v = .string (str (frm y))
  | 10, v, _ => v = .string (str (x ++ frm y))
  | 11, v, _ => v = .bool false
  | 12, v, _ => v = .bool false
  | _, _, _ => True
theorem psiFT7_grew (A1 : Option Addr) (L1 c1 : Nat) (x : List UInt8) (A2 : Option Addr) (L2 c2 : Nat) (y : List UInt8) (A3 : Option Addr) (L3 c3 : Nat) : ∀ i v w w', psiFT7 A1 L1 c1 x A2 L2 c2 y A3 L3 c3 i v w → Grew w w' → psiFT7 A1 L1 c1 x A2 L2 c2 y A3 L3 c3 i v w' := by
  intro i v w w' h hg
  rcases i with _ | _ | _ | _ | _ | _ | _ | _ | _ | _ | _ | _ | _ | i
  · exact h
  · exact h
  · exact h
  · exact h
  · exact h
  · exact h
  · exact h
  · exact h
  · exact IsB.grew h hg
  · exact h
  · exact h
  · exact h
  · exact h
  · trivial
set_option maxRecDepth 100000 in
set_option maxHeartbeats 4000000 in
theorem ftells_region {p : String} (A1 : Option Addr) (L1 c1 : Nat) (x : List UInt8) (A2 : Option Addr) (L2 c2 : Nat) (y : List UInt8) (A3 : Option Addr) (L3 c3 : Nat) (hL1 : L1 = x.length) (hl1 : L1 ≤ 2000) (hL2 : L2 = y.length) (hl2 : L2 ≤ 2000) (hL3 : L3 = (x ++ frm y).length) (hl3 : (frm y).length ≤ 3000) (a : Act) (w : World) (Q : Exit → Act → World → Prop) (hN : a.tmps.size = 133) (h0 : a.tmps.getD 0 undef = .slice A1 L1 c1) (h1 : a.tmps.getD 1 undef = .slice A2 L2 c2) (h5 : a.tmps.getD 5 undef = .slice A3 L3 c3) (h6 : a.tmps.getD 6 undef = .int .i64 0) (hA1 : HasA w w.heap.size A1 x) (hA2 : HasA w w.heap.size A2 y) (hA3 : HasA w w.heap.size A3 (x ++ frm y)) (hQ : ∀ (v56 : Value), ∀ (w' : World), IsB w' v56 (frm y) → Grew w w' → Q .normal (puts [(48, .int .i64 0), (49, .bool false), (50, .bool false), (51, .slice A3 L3 c3), (52, .string (str (x ++ frm y))), (53, .slice A1 L1 c1), (54, .string (str x)), (55, .slice A2 L2 c2), (56, v56), (57, .string (str (frm y))), (58, .string (str (x ++ frm y))), (59, .bool false), (60, .bool false)] a) w')
    : (Code.region 7 (opsFT7 p).toArray true).wp Tryd.prog Q a w := by
  refine (wpIn_wide (n := 1)).1 (wpIn_region_vals 133 hN follows (opsFT7_back p) (opsFT7_slots p) Grew Grew.refl Grew.trans (psiFT7 A1 L1 c1 x A2 L2 c2 y A3 L3 c3) (psiFT7_grew A1 L1 c1 x A2 L2 c2 y A3 L3 c3) ?_ ?_)
  · intro i o d ho hd a' w' hF hR hp
    rcases i with _ | _ | _ | _ | _ | _ | _ | _ | _ | _ | _ | _ | _ | i
    · obtain rfl : oFT70 p = o := Option.some.inj ho
      obtain rfl : 48 = d := Option.some.inj hd
      exact step_move rfl rfl rfl (hF.at 6 rfl h6) ⟨_, rfl, rfl, Grew.refl _⟩
    · obtain rfl : oFT71 p = o := Option.some.inj ho
      obtain rfl : 49 = d := Option.some.inj hd
      have q0 : a'.tmps.getD 48 undef = .int .i64 0 := hp 0 (oFT70 p) 48 rfl rfl rfl
      exact step_bin rfl rfl rfl q0 rfl (guard_int _ _ _ _ _ _ _ _ _) (run_nei _ _ _ _ _) ⟨_, rfl, rfl, Grew.refl _⟩
    · obtain rfl : oFT72 p = o := Option.some.inj ho
      obtain rfl : 50 = d := Option.some.inj hd
      have q1 : a'.tmps.getD 49 undef = .bool false := hp 1 (oFT71 p) 49 rfl rfl rfl
      exact step_move rfl rfl rfl q1 ⟨_, rfl, rfl, Grew.refl _⟩
    · obtain rfl : oFT73 p = o := Option.some.inj ho
      obtain rfl : 51 = d := Option.some.inj hd
      have q2 : a'.tmps.getD 50 undef = .bool false := hp 2 (oFT72 p) 50 rfl rfl rfl
      exact step_move rfl (wanted_on rfl (show (opsFT7 p).toArray[2]? = some (oFT72 p) from rfl) rfl q2) rfl (hF.at 5 rfl h5) ⟨_, rfl, rfl, Grew.refl _⟩
    · obtain rfl : oFT74 p = o := Option.some.inj ho
      obtain rfl : 52 = d := Option.some.inj hd
      have q2 : a'.tmps.getD 50 undef = .bool false := hp 2 (oFT72 p) 50 rfl rfl rfl
      have q3 : a'.tmps.getD 51 undef = .slice A3 L3 c3 := hp 3 (oFT73 p) 51 rfl rfl rfl
      exact step_cv rfl (wanted_on rfl (show (opsFT7 p).toArray[2]? = some (oFT72 p) from rfl) rfl q2) rfl q3 (run_conv (HasA.below' hA3 hR.undraw) _ Tryd.underlying22 Tryd.underlying5 Tryd.underlying9 hL3) ⟨_, rfl, rfl, Grew.refl _⟩
    · obtain rfl : oFT75 p = o := Option.some.inj ho
      obtain rfl : 53 = d := Option.some.inj hd
      have q2 : a'.tmps.getD 50 undef = .bool false := hp 2 (oFT72 p) 50 rfl rfl rfl
      exact step_move rfl (wanted_on rfl (show (opsFT7 p).toArray[2]? = some (oFT72 p) from rfl) rfl q2) rfl (hF.at 0 rfl h0) ⟨_, rfl, rfl, Grew.refl _⟩
    · obtain rfl : oFT76 p = o := Option.some.inj ho
      obtain rfl : 54 = d := Option.some.inj hd
      have q2 : a'.tmps.getD 50 undef = .bool false := hp 2 (oFT72 p) 50 rfl rfl rfl
      have q5 : a'.tmps.getD 53 undef = .slice A1 L1 c1 := hp 5 (oFT75 p) 53 rfl rfl rfl
      exact step_cv rfl (wanted_on rfl (show (opsFT7 p).toArray[2]? = some (oFT72 p) from rfl) rfl q2) rfl q5 (run_conv (HasA.below' hA1 hR.undraw) _ Tryd.underlying22 Tryd.underlying5 Tryd.underlying9 hL1) ⟨_, rfl, rfl, Grew.refl _⟩
    · obtain rfl : oFT77 p = o := Option.some.inj ho
      obtain rfl : 55 = d := Option.some.inj hd
      have q2 : a'.tmps.getD 50 undef = .bool false := hp 2 (oFT72 p) 50 rfl rfl rfl
      exact step_move rfl (wanted_on rfl (show (opsFT7 p).toArray[2]? = some (oFT72 p) from rfl) rfl q2) rfl (hF.at 1 rfl h1) ⟨_, rfl, rfl, Grew.refl _⟩
    · obtain rfl : oFT78 p = o := Option.some.inj ho
      obtain rfl : 56 = d := Option.some.inj hd
      have q2 : a'.tmps.getD 50 undef = .bool false := hp 2 (oFT72 p) 50 rfl rfl rfl
      have q7 : a'.tmps.getD 55 undef = .slice A2 L2 c2 := hp 7 (oFT77 p) 55 rfl rfl rfl
      exact step_gives rfl (wanted_on rfl (show (opsFT7 p).toArray[2]? = some (oFT72 p) from rfl) rfl q2) rfl (enters_of Tryd.func8 (by kernel_rfl) rfl) (show Array.map a'.eval #[.tmp 55] = _ from by simp only [List.map_toArray, List.map_cons, List.map_nil, Act.eval, q7]) (ref_Frame A2 L2 c2 y hL2 (by omega) w' (HasA.below' hA2 hR.undraw)) (fun v w'' h hg => ⟨v, rfl, h, hg⟩)
    · obtain rfl : oFT79 p = o := Option.some.inj ho
      obtain rfl : 57 = d := Option.some.inj hd
      have q2 : a'.tmps.getD 50 undef = .bool false := hp 2 (oFT72 p) 50 rfl rfl rfl
      have q8 : IsB w' (a'.tmps.getD 56 undef) (frm y) := hp 8 (oFT78 p) 56 rfl rfl rfl
      exact step_conv rfl (wanted_on rfl (show (opsFT7 p).toArray[2]? = some (oFT72 p) from rfl) rfl q2) rfl (show IsB w' (a'.tmps.getD 56 undef) _ from q8) ⟨_, rfl, rfl, Grew.refl _⟩
    · obtain rfl : oFT710 p = o := Option.some.inj ho
      obtain rfl : 58 = d := Option.some.inj hd
      have q2 : a'.tmps.getD 50 undef = .bool false := hp 2 (oFT72 p) 50 rfl rfl rfl
      have q6 : a'.tmps.getD 54 undef = .string (str x) := hp 6 (oFT76 p) 54 rfl rfl rfl
      have q9 : a'.tmps.getD 57 undef = .string (str (frm y)) := hp 9 (oFT79 p) 57 rfl rfl rfl
      exact step_bin rfl (wanted_on rfl (show (opsFT7 p).toArray[2]? = some (oFT72 p) from rfl) rfl q2) rfl q6 q9 (guard_str _ _ _ _ _ _ _) (run_add _ _ _ (by omega)) ⟨_, rfl, rfl, Grew.refl _⟩
    · obtain rfl : oFT711 p = o := Option.some.inj ho
      obtain rfl : 59 = d := Option.some.inj hd
      have q2 : a'.tmps.getD 50 undef = .bool false := hp 2 (oFT72 p) 50 rfl rfl rfl
      have q4 : a'.tmps.getD 52 undef = .string (str (x ++ frm y)) := hp 4 (oFT74 p) 52 rfl rfl rfl
      have q10 : a'.tmps.getD 58 undef = .string (str (x ++ frm y)) := hp 10 (oFT710 p) 58 rfl rfl rfl
      exact step_bin rfl (wanted_on rfl (show (opsFT7 p).toArray[2]? = some (oFT72 p) from rfl) rfl q2) rfl q4 q10 (guard_str _ _ _ _ _ _ _) (by rw [run_neq]; simp) ⟨_, rfl, rfl, Grew.refl _⟩
    · obtain rfl : oFT712 p = o := Option.some.inj ho
      obtain rfl : 60 = d := Option.some.inj hd
      have q2 : a'.tmps.getD 50 undef = .bool false := hp 2 (oFT72 p) 50 rfl rfl rfl
      have q11 : a'.tmps.getD 59 undef = .bool false := hp 11 (oFT711 p) 59 rfl rfl rfl
      exact step_pick rfl rfl rfl q2 (show (if false = true then _ else a'.tmps.getD 59 undef) = _ from q11) ⟨_, rfl, rfl, Grew.refl _⟩
    · exact absurd ((Array.getElem?_eq_some_iff.1 ho).1) (by simp [opsFT7])
  · intro a' w' hF hR hp
    have e0 : psiFT7 A1 L1 c1 x A2 L2 c2 y A3 L3 c3 0 (a'.tmps.getD 48 undef) w' := hp 0 (oFT70 p) 48 rfl rfl
    have e1 : psiFT7 A1 L1 c1 x A2 L2 c2 y A3 L3 c3 1 (a'.tmps.getD 49 undef) w' := hp 1 (oFT71 p) 49 rfl rfl
    have e2 : psiFT7 A1 L1 c1 x A2 L2 c2 y A3 L3 c3 2 (a'.tmps.getD 50 undef) w' := hp 2 (oFT72 p) 50 rfl rfl
    have e3 : psiFT7 A1 L1 c1 x A2 L2 c2 y A3 L3 c3 3 (a'.tmps.getD 51 undef) w' := hp 3 (oFT73 p) 51 rfl rfl
    have e4 : psiFT7 A1 L1 c1 x A2 L2 c2 y A3 L3 c3 4 (a'.tmps.getD 52 undef) w' := hp 4 (oFT74 p) 52 rfl rfl
    have e5 : psiFT7 A1 L1 c1 x A2 L2 c2 y A3 L3 c3 5 (a'.tmps.getD 53 undef) w' := hp 5 (oFT75 p) 53 rfl rfl
    have e6 : psiFT7 A1 L1 c1 x A2 L2 c2 y A3 L3 c3 6 (a'.tmps.getD 54 undef) w' := hp 6 (oFT76 p) 54 rfl rfl
    have e7 : psiFT7 A1 L1 c1 x A2 L2 c2 y A3 L3 c3 7 (a'.tmps.getD 55 undef) w' := hp 7 (oFT77 p) 55 rfl rfl
    have e8 : psiFT7 A1 L1 c1 x A2 L2 c2 y A3 L3 c3 8 (a'.tmps.getD 56 undef) w' := hp 8 (oFT78 p) 56 rfl rfl
    have e9 : psiFT7 A1 L1 c1 x A2 L2 c2 y A3 L3 c3 9 (a'.tmps.getD 57 undef) w' := hp 9 (oFT79 p) 57 rfl rfl
    have e10 : psiFT7 A1 L1 c1 x A2 L2 c2 y A3 L3 c3 10 (a'.tmps.getD 58 undef) w' := hp 10 (oFT710 p) 58 rfl rfl
    have e11 : psiFT7 A1 L1 c1 x A2 L2 c2 y A3 L3 c3 11 (a'.tmps.getD 59 undef) w' := hp 11 (oFT711 p) 59 rfl rfl
    have e12 : psiFT7 A1 L1 c1 x A2 L2 c2 y A3 L3 c3 12 (a'.tmps.getD 60 undef) w' := hp 12 (oFT712 p) 60 rfl rfl
    rw [hF.puts [(48, .int .i64 0), (49, .bool false), (50, .bool false), (51, .slice A3 L3 c3), (52, .string (str (x ++ frm y))), (53, .slice A1 L1 c1), (54, .string (str x)), (55, .slice A2 L2 c2), (56, a'.tmps.getD 56 undef), (57, .string (str (frm y))), (58, .string (str (x ++ frm y))), (59, .bool false), (60, .bool false)] ?_ rfl (by rw [hN]; rfl)]
    · exact hQ _ w' e8 hR.undraw
    · intro x hx
      simp only [List.mem_cons, List.not_mem_nil, or_false] at hx
      rcases hx with rfl | rfl | rfl | rfl | rfl | rfl | rfl | rfl | rfl | rfl | rfl | rfl | rfl
      · exact e0
      · exact e1
      · exact e2
      · exact e3
      · exact e4
      · exact e5
      · exact e6
      · exact e7
      · exact rfl
      · exact e9
      · exact e10
      · exact e11
      · exact e12
end Go.Proofs.YtbhncffeoolhfaaDoor
