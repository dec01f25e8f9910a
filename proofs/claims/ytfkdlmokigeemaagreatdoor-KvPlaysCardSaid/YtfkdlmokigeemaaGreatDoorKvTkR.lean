/- KvTakes: the statement that holds all, whatever its order of evaluation. -/
import Derived.Test.YtfkdlmokigeemaaGreatDoorMKvK
import Derived.Test.YtfkdlmokigeemaaGreatDoorKvDoZ
import Derived.Test.YtfkdlmokigeemaaGreatDoorMKvZ
namespace Go.Proofs.YtfkdlmokigeemaaGreatDoor
open Go.RowKit

theorem run_eqK (w : World) (t : TypeId) (x : ByteArray) : (binOp .eql t (.string x) (.string x)).run Tryz.prog w = .ok (.bool true) w := by
  simp [go_sem]
theorem run_notK (w : World) (b : Bool) : (Op.unary .not (.bool b)).run Tryz.prog w = .ok (.bool (!b)) w := by
  simp [go_sem, Op.unary]
def oTkT0 (p : String) : Oper := { dst := some 50, op := Op.move (Operand.tmp 4), type := 25, pos := p, after := #[], guard := none }
def oTkT1 (p : String) : Oper := { dst := some 51, op := Op.call { callee := Callee.value (Operand.func 12), args := #[Operand.tmp 50, Operand.const (Value.slice none 0 0)], argTypes := #[25, 38] }, type := 38, pos := p, after := #[{ on := 0, ground := Ground.data }], guard := none }
def oTkT2 (p : String) : Oper := { dst := some 52, op := Op.convert 38 9 (Operand.tmp 51), type := 9, pos := p, after := #[{ on := 1, ground := Ground.data }], guard := none }
def oTkT3 (p : String) : Oper := { dst := some 53, op := Op.move (Operand.tmp 0), type := 38, pos := p, after := #[], guard := none }
def oTkT4 (p : String) : Oper := { dst := some 54, op := Op.convert 38 9 (Operand.tmp 53), type := 9, pos := p, after := #[{ on := 3, ground := Ground.data }], guard := none }
def oTkT5 (p : String) : Oper := { dst := some 55, op := Op.binOp BinOp.eql 9 (Operand.tmp 52) (Operand.tmp 54) 9, type := 4, pos := p, after := #[{ on := 2, ground := Ground.data }, { on := 4, ground := Ground.data }], guard := none }
def oTkT6 (p : String) : Oper := { dst := some 56, op := Op.move (Operand.tmp 55), type := 4, pos := p, after := #[{ on := 5, ground := Ground.data }, { on := 1, ground := Ground.chain }], guard := none }
def oTkT7 (p : String) : Oper := { dst := some 57, op := Op.move (Operand.tmp 8), type := 4, pos := p, after := #[{ on := 6, ground := Ground.guard }], guard := some (6, true) }
def oTkT8 (p : String) : Oper := { dst := some 58, op := Op.move (Operand.tmp 57), type := 4, pos := p, after := #[{ on := 7, ground := Ground.data }, { on := 6, ground := Ground.chain }, { on := 6, ground := Ground.guard }], guard := some (6, true) }
def oTkT9 (p : String) : Oper := { dst := some 59, op := Op.move (Operand.tmp 4), type := 25, pos := p, after := #[{ on := 8, ground := Ground.guard }], guard := some (8, false) }
def oTkT10 (p : String) : Oper := { dst := some 60, op := Op.move (Operand.tmp 6), type := 25, pos := p, after := #[{ on := 8, ground := Ground.guard }], guard := some (8, false) }
def oTkT11 (p : String) : Oper := { dst := some 61, op := Op.call { callee := Callee.value (Operand.func 18), args := #[Operand.tmp 59, Operand.tmp 60], argTypes := #[25, 25] }, type := 4, pos := p, after := #[{ on := 9, ground := Ground.data }, { on := 10, ground := Ground.data }, { on := 8, ground := Ground.chain }, { on := 8, ground := Ground.guard }], guard := some (8, false) }
def oTkT12 (p : String) : Oper := { dst := some 62, op := Op.unOp UnOp.not 4 (Operand.tmp 61), type := 4, pos := p, after := #[{ on := 11, ground := Ground.data }, { on := 8, ground := Ground.guard }], guard := some (8, false) }
def oTkT13 (p : String) : Oper := { dst := some 63, op := Op.pick (Operand.tmp 58) (Operand.const (Value.bool true)) (Operand.tmp 62), type := 4, pos := p, after := #[{ on := 8, ground := Ground.data }, { on := 12, ground := Ground.data }, { on := 6, ground := Ground.guard }], guard := some (6, true) }
def oTkT14 (p : String) : Oper := { dst := some 64, op := Op.pick (Operand.tmp 56) (Operand.tmp 63) (Operand.const (Value.bool false)), type := 4, pos := p, after := #[{ on := 6, ground := Ground.data }, { on := 13, ground := Ground.data }], guard := none }
def oTkT15 (p : String) : Oper := { dst := some 65, op := Op.move (Operand.tmp 64), type := 4, pos := p, after := #[{ on := 14, ground := Ground.data }, { on := 11, ground := Ground.chain }], guard := none }
def oTkT16 (p : String) : Oper := { dst := some 66, op := Op.call { callee := Callee.value (Operand.func 6), args := #[], argTypes := #[] }, type := 4, pos := p, after := #[{ on := 15, ground := Ground.chain }, { on := 15, ground := Ground.guard }], guard := some (15, true) }
def oTkT17 (p : String) : Oper := { dst := some 67, op := Op.pick (Operand.tmp 65) (Operand.tmp 66) (Operand.const (Value.bool false)), type := 4, pos := p, after := #[{ on := 15, ground := Ground.data }, { on := 16, ground := Ground.data }], guard := none }
def oTkT18 (p : String) : Oper := { dst := some 2, op := Op.assign (Operand.tmp 67), type := 4, pos := p, after := #[{ on := 17, ground := Ground.data }, { on := 16, ground := Ground.chain }, { on := 0, ground := Ground.phase }, { on := 1, ground := Ground.phase }, { on := 2, ground := Ground.phase }, { on := 3, ground := Ground.phase }, { on := 4, ground := Ground.phase }, { on := 5, ground := Ground.phase }, { on := 6, ground := Ground.phase }, { on := 7, ground := Ground.phase }, { on := 8, ground := Ground.phase }, { on := 9, ground := Ground.phase }, { on := 10, ground := Ground.phase }, { on := 11, ground := Ground.phase }, { on := 12, ground := Ground.phase }, { on := 13, ground := Ground.phase }, { on := 14, ground := Ground.phase }, { on := 15, ground := Ground.phase }, { on := 16, ground := Ground.phase }, { on := 17, ground := Ground.phase }], guard := none }
def opsTkT (p : String) : List Oper := [oTkT0 p, oTkT1 p, oTkT2 p, oTkT3 p, oTkT4 p, oTkT5 p, oTkT6 p, oTkT7 p, oTkT8 p, oTkT9 p, oTkT10 p, oTkT11 p, oTkT12 p, oTkT13 p, oTkT14 p, oTkT15 p, oTkT16 p, oTkT17 p, oTkT18 p]
theorem opsTkT_back (p : String) : backwards (opsTkT p) = true := by kernel_rfl
theorem opsTkT_slots (p : String) : slotsOk 68 (opsTkT p) = true := by kernel_rfl
/-- What each slot comes to. -/
def psiTkT (S _S2 : Nat) (A : Option Addr) (L c : Nat) (X : List UInt8) : Nat → Value → World → Prop
  | 0, v, _ => v = .pointer (some ⟨S, 0, none⟩)
  | 1, v, w => IsB w v (X)
  | 2, v, _ => v = .string (str (X))
  | 3, v, _ => v = .slice A L c
  | 4, v, _ => v = .string (str X)
  | 5, v, _ => v = .bool true
  | 6, v, _ => v = .bool true
  | 7, v, _ => v = .bool true
  | 8, v, _ => v = .bool true
  | 9, v, _ => v = undef
  | 10, v, _ => v = undef
  | 11, v, _ => v = undef
  | 12, v, _ => v = undef
  | 13, v, _ => v = .bool true
  | 14, v, _ => v = .bool true
  | 15, v, _ => v = .bool true
  | 16, v, _ => v = .bool true
  | 17, v, _ => v = .bool true
  | 18, v, _ => v = .bool true
  | _, _, _ => True
theorem psiTkT_grew (S S2 : Nat) (A : Option Addr) (L c : Nat) (X : List UInt8) : ∀ i v w w', psiTkT S S2 A L c X i v w → Grew w w' → psiTkT S S2 A L c X i v w' := by
  intro i v w w' h hg
  rcases i with _ | _ | _ | _ | _ | _ | _ | _ | _ | _ | _ | _ | _ | _ | _ | _ | _ | _ | _ | i
  · exact h
  · exact IsB.grew h hg
  · exact h
  · exact h
  · exact h
  · exact h
  · exact h
  · exact h
  · exact h
  · exact h
  · exact h
  · exact h
  · exact h
  · exact h
  · exact h
  · exact h
  · exact h
  · exact h
  · exact h
  · trivial
set_option maxRecDepth 100000 in
set_option maxHeartbeats 4000000 in
theorem takes_region_had {p : String} (S S2 : Nat) (A : Option Addr) (L c : Nat) (X : List UInt8) (hL : L = X.length) (a : Act) (w : World) (Q : Exit → Act → World → Prop) (hN : a.tmps.size = 68) (h0 : a.tmps.getD 0 undef = .slice A L c) (h4 : a.tmps.getD 4 undef = .pointer (some ⟨S, 0, none⟩)) (_h6 : a.tmps.getD 6 undef = .pointer (some ⟨S2, 0, none⟩)) (h8 : a.tmps.getD 8 undef = .bool true) (hA : HasA w w.heap.size A X) (hPut : ∀ w' : World, Below w.heap.size w w' → Calls Tryz.prog 12 #[.pointer (some ⟨S, 0, none⟩), .slice none 0 0] w' fun e W' => ∃ v m, e = .returned v ∧ W'.ownsRow w'.heap.size 5 1 v m (X.map enc) ∧ Below w'.heap.size w' W')  (hWk : ∀ w' : World, Below w.heap.size w w' → Calls Tryz.prog 6 #[] w' fun e W' => e = .returned (.bool true) ∧ Below w'.heap.size w' W') (hQ : ∀ (v51 : Value), ∀ (w' : World), IsB w' v51 (X) → Grew w w' → Q .normal (puts [(50, .pointer (some ⟨S, 0, none⟩)), (51, v51), (52, .string (str (X))), (53, .slice A L c), (54, .string (str X)), (55, .bool true), (56, .bool true), (57, .bool true), (58, .bool true), (59, undef), (60, undef), (61, undef), (62, undef), (63, .bool true), (64, .bool true), (65, .bool true), (66, .bool true), (67, .bool true), (2, .bool true)] a) w')
    : (Code.region 12 (opsTkT p).toArray true).wp Tryz.prog Q a w := by
  refine (wpIn_wide (n := 1)).1 (wpIn_region_vals 68 hN follows (opsTkT_back p) (opsTkT_slots p) Grew Grew.refl Grew.trans (psiTkT S S2 A L c X) (psiTkT_grew S S2 A L c X) ?_ ?_)
  · intro i o d ho hd a' w' hF hR hp
    rcases i with _ | _ | _ | _ | _ | _ | _ | _ | _ | _ | _ | _ | _ | _ | _ | _ | _ | _ | _ | i
    · obtain rfl : oTkT0 p = o := Option.some.inj ho
      obtain rfl : 50 = d := Option.some.inj hd
      exact step_move rfl rfl rfl (hF.at 4 rfl h4) ⟨_, rfl, rfl, Grew.refl _⟩
    · obtain rfl : oTkT1 p = o := Option.some.inj ho
      obtain rfl : 51 = d := Option.some.inj hd
      have q0 : a'.tmps.getD 50 undef = .pointer (some ⟨S, 0, none⟩) := hp 0 (oTkT0 p) 50 rfl rfl rfl
      refine step_callD rfl rfl rfl (enters_of Tryz.func12 (by kernel_rfl) rfl) (show Array.map a'.eval #[.tmp 50, .const (.slice none 0 0)] = _ from by simp only [List.map_toArray, List.map_cons, List.map_nil, Act.eval, q0]) ((hPut w' hR.undraw).mono ?_)
      rintro e w'' ⟨x, m, rfl, ho, hb⟩
      exact ⟨_, rfl, _, rfl, IsB.own ho, hb⟩
    · obtain rfl : oTkT2 p = o := Option.some.inj ho
      obtain rfl : 52 = d := Option.some.inj hd
      have q1 : IsB w' (a'.tmps.getD 51 undef) (X) := hp 1 (oTkT1 p) 51 rfl rfl rfl
      exact step_conv rfl rfl rfl (show IsB w' (a'.tmps.getD 51 undef) _ from q1) ⟨_, rfl, rfl, Grew.refl _⟩
    · obtain rfl : oTkT3 p = o := Option.some.inj ho
      obtain rfl : 53 = d := Option.some.inj hd
      exact step_move rfl rfl rfl (hF.at 0 rfl h0) ⟨_, rfl, rfl, Grew.refl _⟩
    · obtain rfl : oTkT4 p = o := Option.some.inj ho
      obtain rfl : 54 = d := Option.some.inj hd
      have q3 : a'.tmps.getD 53 undef = .slice A L c := hp 3 (oTkT3 p) 53 rfl rfl rfl
      exact step_cv rfl rfl rfl q3 (run_conv (HasA.below' hA hR.undraw) _ Tryz.underlying38 Tryz.underlying5 Tryz.underlying9 hL) ⟨_, rfl, rfl, Grew.refl _⟩
    · obtain rfl : oTkT5 p = o := Option.some.inj ho
      obtain rfl : 55 = d := Option.some.inj hd
      have q2 : a'.tmps.getD 52 undef = .string (str (X)) := hp 2 (oTkT2 p) 52 rfl rfl rfl
      have q4 : a'.tmps.getD 54 undef = .string (str X) := hp 4 (oTkT4 p) 54 rfl rfl rfl
      exact step_bin rfl rfl rfl q2 q4 (guard_str _ _ _ _ _ _ _) (run_eqK _ _ _) ⟨_, rfl, rfl, Grew.refl _⟩
    · obtain rfl : oTkT6 p = o := Option.some.inj ho
      obtain rfl : 56 = d := Option.some.inj hd
      have q5 : a'.tmps.getD 55 undef = .bool true := hp 5 (oTkT5 p) 55 rfl rfl rfl
      exact step_move rfl rfl rfl q5 ⟨_, rfl, rfl, Grew.refl _⟩
    · obtain rfl : oTkT7 p = o := Option.some.inj ho
      obtain rfl : 57 = d := Option.some.inj hd
      have q6 : a'.tmps.getD 56 undef = .bool true := hp 6 (oTkT6 p) 56 rfl rfl rfl
      exact step_move rfl (wanted_on rfl (show (opsTkT p).toArray[6]? = some (oTkT6 p) from rfl) rfl q6) rfl (hF.at 8 rfl h8) ⟨_, rfl, rfl, Grew.refl _⟩
    · obtain rfl : oTkT8 p = o := Option.some.inj ho
      obtain rfl : 58 = d := Option.some.inj hd
      have q6 : a'.tmps.getD 56 undef = .bool true := hp 6 (oTkT6 p) 56 rfl rfl rfl
      have q7 : a'.tmps.getD 57 undef = .bool true := hp 7 (oTkT7 p) 57 rfl rfl rfl
      exact step_move rfl (wanted_on rfl (show (opsTkT p).toArray[6]? = some (oTkT6 p) from rfl) rfl q6) rfl q7 ⟨_, rfl, rfl, Grew.refl _⟩
    · obtain rfl : oTkT9 p = o := Option.some.inj ho
      obtain rfl : 59 = d := Option.some.inj hd
      have q8 : a'.tmps.getD 58 undef = .bool true := hp 8 (oTkT8 p) 58 rfl rfl rfl
      exact step_off rfl (wanted_off rfl (show (opsTkT p).toArray[8]? = some (oTkT8 p) from rfl) rfl q8) ⟨_, rfl, rfl, Grew.refl _⟩
    · obtain rfl : oTkT10 p = o := Option.some.inj ho
      obtain rfl : 60 = d := Option.some.inj hd
      have q8 : a'.tmps.getD 58 undef = .bool true := hp 8 (oTkT8 p) 58 rfl rfl rfl
      exact step_off rfl (wanted_off rfl (show (opsTkT p).toArray[8]? = some (oTkT8 p) from rfl) rfl q8) ⟨_, rfl, rfl, Grew.refl _⟩
    · obtain rfl : oTkT11 p = o := Option.some.inj ho
      obtain rfl : 61 = d := Option.some.inj hd
      have q8 : a'.tmps.getD 58 undef = .bool true := hp 8 (oTkT8 p) 58 rfl rfl rfl
      exact step_off rfl (wanted_off rfl (show (opsTkT p).toArray[8]? = some (oTkT8 p) from rfl) rfl q8) ⟨_, rfl, rfl, Grew.refl _⟩
    · obtain rfl : oTkT12 p = o := Option.some.inj ho
      obtain rfl : 62 = d := Option.some.inj hd
      have q8 : a'.tmps.getD 58 undef = .bool true := hp 8 (oTkT8 p) 58 rfl rfl rfl
      exact step_off rfl (wanted_off rfl (show (opsTkT p).toArray[8]? = some (oTkT8 p) from rfl) rfl q8) ⟨_, rfl, rfl, Grew.refl _⟩
    · obtain rfl : oTkT13 p = o := Option.some.inj ho
      obtain rfl : 63 = d := Option.some.inj hd
      have q6 : a'.tmps.getD 56 undef = .bool true := hp 6 (oTkT6 p) 56 rfl rfl rfl
      have q8 : a'.tmps.getD 58 undef = .bool true := hp 8 (oTkT8 p) 58 rfl rfl rfl
      exact step_pick rfl (wanted_on rfl (show (opsTkT p).toArray[6]? = some (oTkT6 p) from rfl) rfl q6) rfl q8 rfl ⟨_, rfl, rfl, Grew.refl _⟩
    · obtain rfl : oTkT14 p = o := Option.some.inj ho
      obtain rfl : 64 = d := Option.some.inj hd
      have q6 : a'.tmps.getD 56 undef = .bool true := hp 6 (oTkT6 p) 56 rfl rfl rfl
      have q13 : a'.tmps.getD 63 undef = .bool true := hp 13 (oTkT13 p) 63 rfl rfl rfl
      exact step_pick rfl rfl rfl q6 (show (if true = true then a'.tmps.getD 63 undef else _) = _ from q13) ⟨_, rfl, rfl, Grew.refl _⟩
    · obtain rfl : oTkT15 p = o := Option.some.inj ho
      obtain rfl : 65 = d := Option.some.inj hd
      have q14 : a'.tmps.getD 64 undef = .bool true := hp 14 (oTkT14 p) 64 rfl rfl rfl
      exact step_move rfl rfl rfl q14 ⟨_, rfl, rfl, Grew.refl _⟩
    · obtain rfl : oTkT16 p = o := Option.some.inj ho
      obtain rfl : 66 = d := Option.some.inj hd
      have q15 : a'.tmps.getD 65 undef = .bool true := hp 15 (oTkT15 p) 65 rfl rfl rfl
      refine step_callD rfl (wanted_on rfl (show (opsTkT p).toArray[15]? = some (oTkT15 p) from rfl) rfl q15) rfl (enters_of Tryz.func6 (by kernel_rfl) rfl) (show Array.map a'.eval #[] = _ from by simp only [List.map_toArray, List.map_nil]) ((hWk w' hR.undraw).mono ?_)
      rintro e w'' ⟨rfl, hb⟩
      exact ⟨_, rfl, _, rfl, rfl, hb⟩
    · obtain rfl : oTkT17 p = o := Option.some.inj ho
      obtain rfl : 67 = d := Option.some.inj hd
      have q15 : a'.tmps.getD 65 undef = .bool true := hp 15 (oTkT15 p) 65 rfl rfl rfl
      have q16 : a'.tmps.getD 66 undef = .bool true := hp 16 (oTkT16 p) 66 rfl rfl rfl
      exact step_pick rfl rfl rfl q15 (show (if true = true then a'.tmps.getD 66 undef else _) = _ from q16) ⟨_, rfl, rfl, Grew.refl _⟩
    · obtain rfl : oTkT18 p = o := Option.some.inj ho
      obtain rfl : 2 = d := Option.some.inj hd
      have q17 : a'.tmps.getD 67 undef = .bool true := hp 17 (oTkT17 p) 67 rfl rfl rfl
      exact step_assign rfl rfl rfl q17 ⟨_, rfl, rfl, Grew.refl _⟩
    · exact absurd ((Array.getElem?_eq_some_iff.1 ho).1) (by simp [opsTkT])
  · intro a' w' hF hR hp
    have e0 : psiTkT S S2 A L c X 0 (a'.tmps.getD 50 undef) w' := hp 0 (oTkT0 p) 50 rfl rfl
    have e1 : psiTkT S S2 A L c X 1 (a'.tmps.getD 51 undef) w' := hp 1 (oTkT1 p) 51 rfl rfl
    have e2 : psiTkT S S2 A L c X 2 (a'.tmps.getD 52 undef) w' := hp 2 (oTkT2 p) 52 rfl rfl
    have e3 : psiTkT S S2 A L c X 3 (a'.tmps.getD 53 undef) w' := hp 3 (oTkT3 p) 53 rfl rfl
    have e4 : psiTkT S S2 A L c X 4 (a'.tmps.getD 54 undef) w' := hp 4 (oTkT4 p) 54 rfl rfl
    have e5 : psiTkT S S2 A L c X 5 (a'.tmps.getD 55 undef) w' := hp 5 (oTkT5 p) 55 rfl rfl
    have e6 : psiTkT S S2 A L c X 6 (a'.tmps.getD 56 undef) w' := hp 6 (oTkT6 p) 56 rfl rfl
    have e7 : psiTkT S S2 A L c X 7 (a'.tmps.getD 57 undef) w' := hp 7 (oTkT7 p) 57 rfl rfl
    have e8 : psiTkT S S2 A L c X 8 (a'.tmps.getD 58 undef) w' := hp 8 (oTkT8 p) 58 rfl rfl
    have e9 : psiTkT S S2 A L c X 9 (a'.tmps.getD 59 undef) w' := hp 9 (oTkT9 p) 59 rfl rfl
    have e10 : psiTkT S S2 A L c X 10 (a'.tmps.getD 60 undef) w' := hp 10 (oTkT10 p) 60 rfl rfl
    have e11 : psiTkT S S2 A L c X 11 (a'.tmps.getD 61 undef) w' := hp 11 (oTkT11 p) 61 rfl rfl
    have e12 : psiTkT S S2 A L c X 12 (a'.tmps.getD 62 undef) w' := hp 12 (oTkT12 p) 62 rfl rfl
    have e13 : psiTkT S S2 A L c X 13 (a'.tmps.getD 63 undef) w' := hp 13 (oTkT13 p) 63 rfl rfl
    have e14 : psiTkT S S2 A L c X 14 (a'.tmps.getD 64 undef) w' := hp 14 (oTkT14 p) 64 rfl rfl
    have e15 : psiTkT S S2 A L c X 15 (a'.tmps.getD 65 undef) w' := hp 15 (oTkT15 p) 65 rfl rfl
    have e16 : psiTkT S S2 A L c X 16 (a'.tmps.getD 66 undef) w' := hp 16 (oTkT16 p) 66 rfl rfl
    have e17 : psiTkT S S2 A L c X 17 (a'.tmps.getD 67 undef) w' := hp 17 (oTkT17 p) 67 rfl rfl
    have e18 : psiTkT S S2 A L c X 18 (a'.tmps.getD 2 undef) w' := hp 18 (oTkT18 p) 2 rfl rfl
    rw [hF.puts [(50, .pointer (some ⟨S, 0, none⟩)), (51, a'.tmps.getD 51 undef), (52, .string (str (X))), (53, .slice A L c), (54, .string (str X)), (55, .bool true), (56, .bool true), (57, .bool true), (58, .bool true), (59, undef), (60, undef), (61, undef), (62, undef), (63, .bool true), (64, .bool true), (65, .bool true), (66, .bool true), (67, .bool true), (2, .bool true)] ?_ rfl (by rw [hN]; rfl)]
    · exact hQ _ w' e1 hR.undraw
    · intro x hx
      simp only [List.mem_cons, List.not_mem_nil, or_false] at hx
      rcases hx with rfl | rfl | rfl | rfl | rfl | rfl | rfl | rfl | rfl | rfl | rfl | rfl | rfl | rfl | rfl | rfl | rfl | rfl | rfl
      · exact e0
      · exact rfl
      · exact e2
      · exact e3
      · exact e4
      · exact e5
      · exact e6
      · exact e7
      · exact e8
      · exact e9
      · exact e10
      · exact e11
      · exact e12
      · exact e13
      · exact e14
      · exact e15
      · exact e16
      · exact e17
      · exact e18
def oTkF0 (p : String) : Oper := { dst := some 50, op := Op.move (Operand.tmp 4), type := 25, pos := p, after := #[], guard := none }
def oTkF1 (p : String) : Oper := { dst := some 51, op := Op.call { callee := Callee.value (Operand.func 12), args := #[Operand.tmp 50, Operand.const (Value.slice none 0 0)], argTypes := #[25, 38] }, type := 38, pos := p, after := #[{ on := 0, ground := Ground.data }], guard := none }
def oTkF2 (p : String) : Oper := { dst := some 52, op := Op.convert 38 9 (Operand.tmp 51), type := 9, pos := p, after := #[{ on := 1, ground := Ground.data }], guard := none }
def oTkF3 (p : String) : Oper := { dst := some 53, op := Op.move (Operand.tmp 0), type := 38, pos := p, after := #[], guard := none }
def oTkF4 (p : String) : Oper := { dst := some 54, op := Op.convert 38 9 (Operand.tmp 53), type := 9, pos := p, after := #[{ on := 3, ground := Ground.data }], guard := none }
def oTkF5 (p : String) : Oper := { dst := some 55, op := Op.binOp BinOp.eql 9 (Operand.tmp 52) (Operand.tmp 54) 9, type := 4, pos := p, after := #[{ on := 2, ground := Ground.data }, { on := 4, ground := Ground.data }], guard := none }
def oTkF6 (p : String) : Oper := { dst := some 56, op := Op.move (Operand.tmp 55), type := 4, pos := p, after := #[{ on := 5, ground := Ground.data }, { on := 1, ground := Ground.chain }], guard := none }
def oTkF7 (p : String) : Oper := { dst := some 57, op := Op.move (Operand.tmp 8), type := 4, pos := p, after := #[{ on := 6, ground := Ground.guard }], guard := some (6, true) }
def oTkF8 (p : String) : Oper := { dst := some 58, op := Op.move (Operand.tmp 57), type := 4, pos := p, after := #[{ on := 7, ground := Ground.data }, { on := 6, ground := Ground.chain }, { on := 6, ground := Ground.guard }], guard := some (6, true) }
def oTkF9 (p : String) : Oper := { dst := some 59, op := Op.move (Operand.tmp 4), type := 25, pos := p, after := #[{ on := 8, ground := Ground.guard }], guard := some (8, false) }
def oTkF10 (p : String) : Oper := { dst := some 60, op := Op.move (Operand.tmp 6), type := 25, pos := p, after := #[{ on := 8, ground := Ground.guard }], guard := some (8, false) }
def oTkF11 (p : String) : Oper := { dst := some 61, op := Op.call { callee := Callee.value (Operand.func 18), args := #[Operand.tmp 59, Operand.tmp 60], argTypes := #[25, 25] }, type := 4, pos := p, after := #[{ on := 9, ground := Ground.data }, { on := 10, ground := Ground.data }, { on := 8, ground := Ground.chain }, { on := 8, ground := Ground.guard }], guard := some (8, false) }
def oTkF12 (p : String) : Oper := { dst := some 62, op := Op.unOp UnOp.not 4 (Operand.tmp 61), type := 4, pos := p, after := #[{ on := 11, ground := Ground.data }, { on := 8, ground := Ground.guard }], guard := some (8, false) }
def oTkF13 (p : String) : Oper := { dst := some 63, op := Op.pick (Operand.tmp 58) (Operand.const (Value.bool true)) (Operand.tmp 62), type := 4, pos := p, after := #[{ on := 8, ground := Ground.data }, { on := 12, ground := Ground.data }, { on := 6, ground := Ground.guard }], guard := some (6, true) }
def oTkF14 (p : String) : Oper := { dst := some 64, op := Op.pick (Operand.tmp 56) (Operand.tmp 63) (Operand.const (Value.bool false)), type := 4, pos := p, after := #[{ on := 6, ground := Ground.data }, { on := 13, ground := Ground.data }], guard := none }
def oTkF15 (p : String) : Oper := { dst := some 65, op := Op.move (Operand.tmp 64), type := 4, pos := p, after := #[{ on := 14, ground := Ground.data }, { on := 11, ground := Ground.chain }], guard := none }
def oTkF16 (p : String) : Oper := { dst := some 66, op := Op.call { callee := Callee.value (Operand.func 6), args := #[], argTypes := #[] }, type := 4, pos := p, after := #[{ on := 15, ground := Ground.chain }, { on := 15, ground := Ground.guard }], guard := some (15, true) }
def oTkF17 (p : String) : Oper := { dst := some 67, op := Op.pick (Operand.tmp 65) (Operand.tmp 66) (Operand.const (Value.bool false)), type := 4, pos := p, after := #[{ on := 15, ground := Ground.data }, { on := 16, ground := Ground.data }], guard := none }
def oTkF18 (p : String) : Oper := { dst := some 2, op := Op.assign (Operand.tmp 67), type := 4, pos := p, after := #[{ on := 17, ground := Ground.data }, { on := 16, ground := Ground.chain }, { on := 0, ground := Ground.phase }, { on := 1, ground := Ground.phase }, { on := 2, ground := Ground.phase }, { on := 3, ground := Ground.phase }, { on := 4, ground := Ground.phase }, { on := 5, ground := Ground.phase }, { on := 6, ground := Ground.phase }, { on := 7, ground := Ground.phase }, { on := 8, ground := Ground.phase }, { on := 9, ground := Ground.phase }, { on := 10, ground := Ground.phase }, { on := 11, ground := Ground.phase }, { on := 12, ground := Ground.phase }, { on := 13, ground := Ground.phase }, { on := 14, ground := Ground.phase }, { on := 15, ground := Ground.phase }, { on := 16, ground := Ground.phase }, { on := 17, ground := Ground.phase }], guard := none }
def opsTkF (p : String) : List Oper := [oTkF0 p, oTkF1 p, oTkF2 p, oTkF3 p, oTkF4 p, oTkF5 p, oTkF6 p, oTkF7 p, oTkF8 p, oTkF9 p, oTkF10 p, oTkF11 p, oTkF12 p, oTkF13 p, oTkF14 p, oTkF15 p, oTkF16 p, oTkF17 p, oTkF18 p]
theorem opsTkF_back (p : String) : backwards (opsTkF p) = true := by kernel_rfl
theorem opsTkF_slots (p : String) : slotsOk 68 (opsTkF p) = true := by kernel_rfl
/-- What each slot comes to. -/
def psiTkF (S S2 : Nat) (A : Option Addr) (L c : Nat) (X : List UInt8) : Nat → Value → World → Prop
  | 0, v, _ => v = .pointer (some ⟨S, 0, none⟩)
  | 1, v, w => IsB w v (X)
  | 2, v, _ => v = .string (str (X))
  | 3, v, _ => v = .slice A L c
  | 4, v, _ => v = .string (str X)
  | 5, v, _ => v = .bool true
  | 6, v, _ => v = .bool true
  | 7, v, _ => v = .bool false
  | 8, v, _ => v = .bool false
  | 9, v, _ => v = .pointer (some ⟨S, 0, none⟩)
  | 10, v, _ => v = .pointer (some ⟨S2, 0, none⟩)
  | 11, v, _ => v = .bool false
  | 12, v, _ => v = .bool true
  | 13, v, _ => v = .bool true
  | 14, v, _ => v = .bool true
  | 15, v, _ => v = .bool true
  | 16, v, _ => v = .bool true
  | 17, v, _ => v = .bool true
  | 18, v, _ => v = .bool true
  | _, _, _ => True
theorem psiTkF_grew (S S2 : Nat) (A : Option Addr) (L c : Nat) (X : List UInt8) : ∀ i v w w', psiTkF S S2 A L c X i v w → Grew w w' → psiTkF S S2 A L c X i v w' := by
  intro i v w w' h hg
  rcases i with _ | _ | _ | _ | _ | _ | _ | _ | _ | _ | _ | _ | _ | _ | _ | _ | _ | _ | _ | i
  · exact h
  · exact IsB.grew h hg
  · exact h
  · exact h
  · exact h
  · exact h
  · exact h
  · exact h
  · exact h
  · exact h
  · exact h
  · exact h
  · exact h
  · exact h
  · exact h
  · exact h
  · exact h
  · exact h
  · exact h
  · trivial
set_option maxRecDepth 100000 in
set_option maxHeartbeats 4000000 in
theorem takes_region_no {p : String} (S S2 : Nat) (A : Option Addr) (L c : Nat) (X : List UInt8) (hL : L = X.length) (a : Act) (w : World) (Q : Exit → Act → World → Prop) (hN : a.tmps.size = 68) (h0 : a.tmps.getD 0 undef = .slice A L c) (h4 : a.tmps.getD 4 undef = .pointer (some ⟨S, 0, none⟩)) (h6 : a.tmps.getD 6 undef = .pointer (some ⟨S2, 0, none⟩)) (h8 : a.tmps.getD 8 undef = .bool false) (hA : HasA w w.heap.size A X) (hPut : ∀ w' : World, Below w.heap.size w w' → Calls Tryz.prog 12 #[.pointer (some ⟨S, 0, none⟩), .slice none 0 0] w' fun e W' => ∃ v m, e = .returned v ∧ W'.ownsRow w'.heap.size 5 1 v m (X.map enc) ∧ Below w'.heap.size w' W') (hSm : ∀ w' : World, Below w.heap.size w w' → Calls Tryz.prog 18 #[.pointer (some ⟨S, 0, none⟩), .pointer (some ⟨S2, 0, none⟩)] w' fun e W' => e = .returned (.bool false) ∧ Below w'.heap.size w' W') (hWk : ∀ w' : World, Below w.heap.size w w' → Calls Tryz.prog 6 #[] w' fun e W' => e = .returned (.bool true) ∧ Below w'.heap.size w' W') (hQ : ∀ (v51 : Value), ∀ (w' : World), IsB w' v51 (X) → Grew w w' → Q .normal (puts [(50, .pointer (some ⟨S, 0, none⟩)), (51, v51), (52, .string (str (X))), (53, .slice A L c), (54, .string (str X)), (55, .bool true), (56, .bool true), (57, .bool false), (58, .bool false), (59, .pointer (some ⟨S, 0, none⟩)), (60, .pointer (some ⟨S2, 0, none⟩)), (61, .bool false), (62, .bool true), (63, .bool true), (64, .bool true), (65, .bool true), (66, .bool true), (67, .bool true), (2, .bool true)] a) w')
    : (Code.region 12 (opsTkF p).toArray true).wp Tryz.prog Q a w := by
  refine (wpIn_wide (n := 1)).1 (wpIn_region_vals 68 hN follows (opsTkF_back p) (opsTkF_slots p) Grew Grew.refl Grew.trans (psiTkF S S2 A L c X) (psiTkF_grew S S2 A L c X) ?_ ?_)
  · intro i o d ho hd a' w' hF hR hp
    rcases i with _ | _ | _ | _ | _ | _ | _ | _ | _ | _ | _ | _ | _ | _ | _ | _ | _ | _ | _ | i
    · obtain rfl : oTkF0 p = o := Option.some.inj ho
      obtain rfl : 50 = d := Option.some.inj hd
      exact step_move rfl rfl rfl (hF.at 4 rfl h4) ⟨_, rfl, rfl, Grew.refl _⟩
    · obtain rfl : oTkF1 p = o := Option.some.inj ho
      obtain rfl : 51 = d := Option.some.inj hd
      have q0 : a'.tmps.getD 50 undef = .pointer (some ⟨S, 0, none⟩) := hp 0 (oTkF0 p) 50 rfl rfl rfl
      refine step_callD rfl rfl rfl (enters_of Tryz.func12 (by kernel_rfl) rfl) (show Array.map a'.eval #[.tmp 50, .const (.slice none 0 0)] = _ from by simp only [List.map_toArray, List.map_cons, List.map_nil, Act.eval, q0]) ((hPut w' hR.undraw).mono ?_)
      rintro e w'' ⟨x, m, rfl, ho, hb⟩
      exact ⟨_, rfl, _, rfl, IsB.own ho, hb⟩
    · obtain rfl : oTkF2 p = o := Option.some.inj ho
      obtain rfl : 52 = d := Option.some.inj hd
      have q1 : IsB w' (a'.tmps.getD 51 undef) (X) := hp 1 (oTkF1 p) 51 rfl rfl rfl
      exact step_conv rfl rfl rfl (show IsB w' (a'.tmps.getD 51 undef) _ from q1) ⟨_, rfl, rfl, Grew.refl _⟩
    · obtain rfl : oTkF3 p = o := Option.some.inj ho
      obtain rfl : 53 = d := Option.some.inj hd
      exact step_move rfl rfl rfl (hF.at 0 rfl h0) ⟨_, rfl, rfl, Grew.refl _⟩
    · obtain rfl : oTkF4 p = o := Option.some.inj ho
      obtain rfl : 54 = d := Option.some.inj hd
      have q3 : a'.tmps.getD 53 undef = .slice A L c := hp 3 (oTkF3 p) 53 rfl rfl rfl
      exact step_cv rfl rfl rfl q3 (run_conv (HasA.below' hA hR.undraw) _ Tryz.underlying38 Tryz.underlying5 Tryz.underlying9 hL) ⟨_, rfl, rfl, Grew.refl _⟩
    · obtain rfl : oTkF5 p = o := Option.some.inj ho
      obtain rfl : 55 = d := Option.some.inj hd
      have q2 : a'.tmps.getD 52 undef = .string (str (X)) := hp 2 (oTkF2 p) 52 rfl rfl rfl
      have q4 : a'.tmps.getD 54 undef = .string (str X) := hp 4 (oTkF4 p) 54 rfl rfl rfl
      exact step_bin rfl rfl rfl q2 q4 (guard_str _ _ _ _ _ _ _) (run_eqK _ _ _) ⟨_, rfl, rfl, Grew.refl _⟩
    · obtain rfl : oTkF6 p = o := Option.some.inj ho
      obtain rfl : 56 = d := Option.some.inj hd
      have q5 : a'.tmps.getD 55 undef = .bool true := hp 5 (oTkF5 p) 55 rfl rfl rfl
      exact step_move rfl rfl rfl q5 ⟨_, rfl, rfl, Grew.refl _⟩
    · obtain rfl : oTkF7 p = o := Option.some.inj ho
      obtain rfl : 57 = d := Option.some.inj hd
      have q6 : a'.tmps.getD 56 undef = .bool true := hp 6 (oTkF6 p) 56 rfl rfl rfl
      exact step_move rfl (wanted_on rfl (show (opsTkF p).toArray[6]? = some (oTkF6 p) from rfl) rfl q6) rfl (hF.at 8 rfl h8) ⟨_, rfl, rfl, Grew.refl _⟩
    · obtain rfl : oTkF8 p = o := Option.some.inj ho
      obtain rfl : 58 = d := Option.some.inj hd
      have q6 : a'.tmps.getD 56 undef = .bool true := hp 6 (oTkF6 p) 56 rfl rfl rfl
      have q7 : a'.tmps.getD 57 undef = .bool false := hp 7 (oTkF7 p) 57 rfl rfl rfl
      exact step_move rfl (wanted_on rfl (show (opsTkF p).toArray[6]? = some (oTkF6 p) from rfl) rfl q6) rfl q7 ⟨_, rfl, rfl, Grew.refl _⟩
    · obtain rfl : oTkF9 p = o := Option.some.inj ho
      obtain rfl : 59 = d := Option.some.inj hd
      have q8 : a'.tmps.getD 58 undef = .bool false := hp 8 (oTkF8 p) 58 rfl rfl rfl
      exact step_move rfl (wanted_on rfl (show (opsTkF p).toArray[8]? = some (oTkF8 p) from rfl) rfl q8) rfl (hF.at 4 rfl h4) ⟨_, rfl, rfl, Grew.refl _⟩
    · obtain rfl : oTkF10 p = o := Option.some.inj ho
      obtain rfl : 60 = d := Option.some.inj hd
      have q8 : a'.tmps.getD 58 undef = .bool false := hp 8 (oTkF8 p) 58 rfl rfl rfl
      exact step_move rfl (wanted_on rfl (show (opsTkF p).toArray[8]? = some (oTkF8 p) from rfl) rfl q8) rfl (hF.at 6 rfl h6) ⟨_, rfl, rfl, Grew.refl _⟩
    · obtain rfl : oTkF11 p = o := Option.some.inj ho
      obtain rfl : 61 = d := Option.some.inj hd
      have q8 : a'.tmps.getD 58 undef = .bool false := hp 8 (oTkF8 p) 58 rfl rfl rfl
      have q9 : a'.tmps.getD 59 undef = .pointer (some ⟨S, 0, none⟩) := hp 9 (oTkF9 p) 59 rfl rfl rfl
      have q10 : a'.tmps.getD 60 undef = .pointer (some ⟨S2, 0, none⟩) := hp 10 (oTkF10 p) 60 rfl rfl rfl
      refine step_callD rfl (wanted_on rfl (show (opsTkF p).toArray[8]? = some (oTkF8 p) from rfl) rfl q8) rfl (enters_of Tryz.func18 (by kernel_rfl) rfl) (show Array.map a'.eval #[.tmp 59, .tmp 60] = _ from by simp only [List.map_toArray, List.map_cons, List.map_nil, Act.eval, q9, q10]) ((hSm w' hR.undraw).mono ?_)
      rintro e w'' ⟨rfl, hb⟩
      exact ⟨_, rfl, _, rfl, rfl, hb⟩
    · obtain rfl : oTkF12 p = o := Option.some.inj ho
      obtain rfl : 62 = d := Option.some.inj hd
      have q8 : a'.tmps.getD 58 undef = .bool false := hp 8 (oTkF8 p) 58 rfl rfl rfl
      have q11 : a'.tmps.getD 61 undef = .bool false := hp 11 (oTkF11 p) 61 rfl rfl rfl
      exact step_un rfl (wanted_on rfl (show (opsTkF p).toArray[8]? = some (oTkF8 p) from rfl) rfl q8) rfl q11 (run_notK _ _) ⟨_, rfl, rfl, Grew.refl _⟩
    · obtain rfl : oTkF13 p = o := Option.some.inj ho
      obtain rfl : 63 = d := Option.some.inj hd
      have q6 : a'.tmps.getD 56 undef = .bool true := hp 6 (oTkF6 p) 56 rfl rfl rfl
      have q8 : a'.tmps.getD 58 undef = .bool false := hp 8 (oTkF8 p) 58 rfl rfl rfl
      have q12 : a'.tmps.getD 62 undef = .bool true := hp 12 (oTkF12 p) 62 rfl rfl rfl
      exact step_pick rfl (wanted_on rfl (show (opsTkF p).toArray[6]? = some (oTkF6 p) from rfl) rfl q6) rfl q8 (show (if false = true then _ else a'.tmps.getD 62 undef) = _ from q12) ⟨_, rfl, rfl, Grew.refl _⟩
    · obtain rfl : oTkF14 p = o := Option.some.inj ho
      obtain rfl : 64 = d := Option.some.inj hd
      have q6 : a'.tmps.getD 56 undef = .bool true := hp 6 (oTkF6 p) 56 rfl rfl rfl
      have q13 : a'.tmps.getD 63 undef = .bool true := hp 13 (oTkF13 p) 63 rfl rfl rfl
      exact step_pick rfl rfl rfl q6 (show (if true = true then a'.tmps.getD 63 undef else _) = _ from q13) ⟨_, rfl, rfl, Grew.refl _⟩
    · obtain rfl : oTkF15 p = o := Option.some.inj ho
      obtain rfl : 65 = d := Option.some.inj hd
      have q14 : a'.tmps.getD 64 undef = .bool true := hp 14 (oTkF14 p) 64 rfl rfl rfl
      exact step_move rfl rfl rfl q14 ⟨_, rfl, rfl, Grew.refl _⟩
    · obtain rfl : oTkF16 p = o := Option.some.inj ho
      obtain rfl : 66 = d := Option.some.inj hd
      have q15 : a'.tmps.getD 65 undef = .bool true := hp 15 (oTkF15 p) 65 rfl rfl rfl
      refine step_callD rfl (wanted_on rfl (show (opsTkF p).toArray[15]? = some (oTkF15 p) from rfl) rfl q15) rfl (enters_of Tryz.func6 (by kernel_rfl) rfl) (show Array.map a'.eval #[] = _ from by simp only [List.map_toArray, List.map_nil]) ((hWk w' hR.undraw).mono ?_)
      rintro e w'' ⟨rfl, hb⟩
      exact ⟨_, rfl, _, rfl, rfl, hb⟩
    · obtain rfl : oTkF17 p = o := Option.some.inj ho
      obtain rfl : 67 = d := Option.some.inj hd
      have q15 : a'.tmps.getD 65 undef = .bool true := hp 15 (oTkF15 p) 65 rfl rfl rfl
      have q16 : a'.tmps.getD 66 undef = .bool true := hp 16 (oTkF16 p) 66 rfl rfl rfl
      exact step_pick rfl rfl rfl q15 (show (if true = true then a'.tmps.getD 66 undef else _) = _ from q16) ⟨_, rfl, rfl, Grew.refl _⟩
    · obtain rfl : oTkF18 p = o := Option.some.inj ho
      obtain rfl : 2 = d := Option.some.inj hd
      have q17 : a'.tmps.getD 67 undef = .bool true := hp 17 (oTkF17 p) 67 rfl rfl rfl
      exact step_assign rfl rfl rfl q17 ⟨_, rfl, rfl, Grew.refl _⟩
    · exact absurd ((Array.getElem?_eq_some_iff.1 ho).1) (by simp [opsTkF])
  · intro a' w' hF hR hp
    have e0 : psiTkF S S2 A L c X 0 (a'.tmps.getD 50 undef) w' := hp 0 (oTkF0 p) 50 rfl rfl
    have e1 : psiTkF S S2 A L c X 1 (a'.tmps.getD 51 undef) w' := hp 1 (oTkF1 p) 51 rfl rfl
    have e2 : psiTkF S S2 A L c X 2 (a'.tmps.getD 52 undef) w' := hp 2 (oTkF2 p) 52 rfl rfl
    have e3 : psiTkF S S2 A L c X 3 (a'.tmps.getD 53 undef) w' := hp 3 (oTkF3 p) 53 rfl rfl
    have e4 : psiTkF S S2 A L c X 4 (a'.tmps.getD 54 undef) w' := hp 4 (oTkF4 p) 54 rfl rfl
    have e5 : psiTkF S S2 A L c X 5 (a'.tmps.getD 55 undef) w' := hp 5 (oTkF5 p) 55 rfl rfl
    have e6 : psiTkF S S2 A L c X 6 (a'.tmps.getD 56 undef) w' := hp 6 (oTkF6 p) 56 rfl rfl
    have e7 : psiTkF S S2 A L c X 7 (a'.tmps.getD 57 undef) w' := hp 7 (oTkF7 p) 57 rfl rfl
    have e8 : psiTkF S S2 A L c X 8 (a'.tmps.getD 58 undef) w' := hp 8 (oTkF8 p) 58 rfl rfl
    have e9 : psiTkF S S2 A L c X 9 (a'.tmps.getD 59 undef) w' := hp 9 (oTkF9 p) 59 rfl rfl
    have e10 : psiTkF S S2 A L c X 10 (a'.tmps.getD 60 undef) w' := hp 10 (oTkF10 p) 60 rfl rfl
    have e11 : psiTkF S S2 A L c X 11 (a'.tmps.getD 61 undef) w' := hp 11 (oTkF11 p) 61 rfl rfl
    have e12 : psiTkF S S2 A L c X 12 (a'.tmps.getD 62 undef) w' := hp 12 (oTkF12 p) 62 rfl rfl
    have e13 : psiTkF S S2 A L c X 13 (a'.tmps.getD 63 undef) w' := hp 13 (oTkF13 p) 63 rfl rfl
    have e14 : psiTkF S S2 A L c X 14 (a'.tmps.getD 64 undef) w' := hp 14 (oTkF14 p) 64 rfl rfl
    have e15 : psiTkF S S2 A L c X 15 (a'.tmps.getD 65 undef) w' := hp 15 (oTkF15 p) 65 rfl rfl
    have e16 : psiTkF S S2 A L c X 16 (a'.tmps.getD 66 undef) w' := hp 16 (oTkF16 p) 66 rfl rfl
    have e17 : psiTkF S S2 A L c X 17 (a'.tmps.getD 67 undef) w' := hp 17 (oTkF17 p) 67 rfl rfl
    have e18 : psiTkF S S2 A L c X 18 (a'.tmps.getD 2 undef) w' := hp 18 (oTkF18 p) 2 rfl rfl
    rw [hF.puts [(50, .pointer (some ⟨S, 0, none⟩)), (51, a'.tmps.getD 51 undef), (52, .string (str (X))), (53, .slice A L c), (54, .string (str X)), (55, .bool true), (56, .bool true), (57, .bool false), (58, .bool false), (59, .pointer (some ⟨S, 0, none⟩)), (60, .pointer (some ⟨S2, 0, none⟩)), (61, .bool false), (62, .bool true), (63, .bool true), (64, .bool true), (65, .bool true), (66, .bool true), (67, .bool true), (2, .bool true)] ?_ rfl (by rw [hN]; rfl)]
    · exact hQ _ w' e1 hR.undraw
    · intro x hx
      simp only [List.mem_cons, List.not_mem_nil, or_false] at hx
      rcases hx with rfl | rfl | rfl | rfl | rfl | rfl | rfl | rfl | rfl | rfl | rfl | rfl | rfl | rfl | rfl | rfl | rfl | rfl | rfl
      · exact e0
      · exact rfl
      · exact e2
      · exact e3
      · exact e4
      · exact e5
      · exact e6
      · exact e7
      · exact e8
      · exact e9
      · exact e10
      · exact e11
      · exact e12
      · exact e13
      · exact e14
      · exact e15
      · exact e16
      · exact e17
      · exact e18
end Go.Proofs.YtfkdlmokigeemaaGreatDoor
