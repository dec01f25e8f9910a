/- SessionTakes: the statement that holds all, whatever its order of evaluation. -/
import Derived.Test.YtelbgjnaceffeaaSsWk
import Derived.Test.YtelbgjnaceffeaaRgPiv
import Derived.Test.YtelbgjnaceffeaaStepC
namespace Go.Proofs.Ytelbgjnaceffeaa
open Go.RowKit

theorem run_eqS (w : World) (t : TypeId) (x : ByteArray) : (binOp .eql t (.string x) (.string x)).run Try.prog w = .ok (.bool true) w := by
  simp [go_sem]
theorem run_ne0S (w : World) (t : TypeId) : (binOp .neq t (.int .i64 0) (.int .i64 0)).run Try.prog w = .ok (.bool false) w := by
  simp [go_sem]
theorem run_ne1S (w : World) (t : TypeId) : (binOp .neq t (.int .i64 11) (.int .i64 0)).run Try.prog w = .ok (.bool true) w := by
  simp [go_sem]
def depSt (i : Nat) : Bool := decide (1 ≤ i)
def oStT0 (p : String) : Oper := { dst := some 32, op := Op.move (Operand.tmp 3), type := 24, pos := p, after := #[], guard := none }
def oStT1 (p : String) : Oper := { dst := some 33, op := Op.call { callee := Callee.value (Operand.func 8), args := #[Operand.tmp 32], argTypes := #[24] }, type := 27, pos := p, after := #[{ on := 0, ground := Ground.data }], guard := none }
def oStT2 (p : String) : Oper := { dst := some 34, op := Op.binOp BinOp.neq 27 (Operand.tmp 33) (Operand.const (Value.int IntKind.i64 0)) 27, type := 4, pos := p, after := #[{ on := 1, ground := Ground.data }], guard := none }
def oStT3 (p : String) : Oper := { dst := some 35, op := Op.move (Operand.tmp 34), type := 4, pos := p, after := #[{ on := 2, ground := Ground.data }, { on := 1, ground := Ground.chain }], guard := none }
def oStT4 (p : String) : Oper := { dst := some 36, op := Op.move (Operand.tmp 4), type := 26, pos := p, after := #[{ on := 3, ground := Ground.guard }], guard := some (3, false) }
def oStT5 (p : String) : Oper := { dst := some 37, op := Op.call { callee := Callee.value (Operand.func 9), args := #[Operand.tmp 36, Operand.const (Value.slice none 0 0)], argTypes := #[26, 22] }, type := 22, pos := p, after := #[{ on := 4, ground := Ground.data }, { on := 3, ground := Ground.chain }, { on := 3, ground := Ground.guard }], guard := some (3, false) }
def oStT6 (p : String) : Oper := { dst := some 38, op := Op.convert 22 9 (Operand.tmp 37), type := 9, pos := p, after := #[{ on := 5, ground := Ground.data }, { on := 3, ground := Ground.guard }], guard := some (3, false) }
def oStT7 (p : String) : Oper := { dst := some 39, op := Op.move (Operand.tmp 0), type := 22, pos := p, after := #[{ on := 3, ground := Ground.guard }], guard := some (3, false) }
def oStT8 (p : String) : Oper := { dst := some 40, op := Op.convert 22 9 (Operand.tmp 39), type := 9, pos := p, after := #[{ on := 7, ground := Ground.data }, { on := 3, ground := Ground.guard }], guard := some (3, false) }
def oStT9 (p : String) : Oper := { dst := some 41, op := Op.binOp BinOp.eql 9 (Operand.tmp 38) (Operand.tmp 40) 9, type := 4, pos := p, after := #[{ on := 6, ground := Ground.data }, { on := 8, ground := Ground.data }, { on := 3, ground := Ground.guard }], guard := some (3, false) }
def oStT10 (p : String) : Oper := { dst := some 42, op := Op.pick (Operand.tmp 35) (Operand.const (Value.bool true)) (Operand.tmp 41), type := 4, pos := p, after := #[{ on := 3, ground := Ground.data }, { on := 9, ground := Ground.data }], guard := none }
def oStT11 (p : String) : Oper := { dst := some 43, op := Op.move (Operand.tmp 42), type := 4, pos := p, after := #[{ on := 10, ground := Ground.data }, { on := 5, ground := Ground.chain }], guard := none }
def oStT12 (p : String) : Oper := { dst := some 44, op := Op.call { callee := Callee.value (Operand.func 5), args := #[], argTypes := #[] }, type := 4, pos := p, after := #[{ on := 11, ground := Ground.chain }, { on := 11, ground := Ground.guard }], guard := some (11, true) }
def oStT13 (p : String) : Oper := { dst := some 45, op := Op.pick (Operand.tmp 43) (Operand.tmp 44) (Operand.const (Value.bool false)), type := 4, pos := p, after := #[{ on := 11, ground := Ground.data }, { on := 12, ground := Ground.data }], guard := none }
def oStT14 (p : String) : Oper := { dst := some 2, op := Op.assign (Operand.tmp 45), type := 4, pos := p, after := #[{ on := 13, ground := Ground.data }, { on := 12, ground := Ground.chain }, { on := 0, ground := Ground.phase }, { on := 1, ground := Ground.phase }, { on := 2, ground := Ground.phase }, { on := 3, ground := Ground.phase }, { on := 4, ground := Ground.phase }, { on := 5, ground := Ground.phase }, { on := 6, ground := Ground.phase }, { on := 7, ground := Ground.phase }, { on := 8, ground := Ground.phase }, { on := 9, ground := Ground.phase }, { on := 10, ground := Ground.phase }, { on := 11, ground := Ground.phase }, { on := 12, ground := Ground.phase }, { on := 13, ground := Ground.phase }], guard := none }
def opsStT (p : String) : List Oper := [oStT0 p, oStT1 p, oStT2 p, oStT3 p, oStT4 p, oStT5 p, oStT6 p, oStT7 p, oStT8 p, oStT9 p, oStT10 p, oStT11 p, oStT12 p, oStT13 p, oStT14 p]
theorem opsStT_back (p : String) : backwards (opsStT p) = true := by kernel_rfl
theorem opsStT_slots (p : String) : slotsOk 46 (opsStT p) = true := by kernel_rfl
/-- What each slot comes to. -/
def psiStT (R S : Nat) (A : Option Addr) (L c : Nat) (X : List UInt8) : Nat → Value → World → Prop
  | 0, v, _ => v = .pointer (some ⟨R, 0, none⟩)
  | 1, v, _ => v = .int .i64 0
  | 2, v, _ => v = .bool false
  | 3, v, _ => v = .bool false
  | 4, v, _ => v = .pointer (some ⟨S, 0, none⟩)
  | 5, v, w => IsB w v (X)
  | 6, v, _ => v = .string (str (X))
  | 7, v, _ => v = .slice A L c
  | 8, v, _ => v = .string (str X)
  | 9, v, _ => v = .bool true
  | 10, v, _ => v = .bool true
  | 11, v, _ => v = .bool true
  | 12, v, _ => v = .bool true
  | 13, v, _ => v = .bool true
  | 14, v, _ => v = .bool true
  | _, _, _ => True
theorem psiStT_grew (R S : Nat) (A : Option Addr) (L c : Nat) (X : List UInt8) : ∀ i v w w', psiStT R S A L c X i v w → Grew w w' → psiStT R S A L c X i v w' := by
  intro i v w w' h hg
  rcases i with _ | _ | _ | _ | _ | _ | _ | _ | _ | _ | _ | _ | _ | _ | _ | i
  · exact h
  · exact h
  · exact h
  · exact h
  · exact h
  · exact IsB.grew h hg
  · exact h
  · exact h
  · exact h
  · exact h
  · exact h
  · exact h
  · exact h
  · exact h
  · exact h
  · trivial
set_option maxRecDepth 100000 in
theorem depStT_ok (p : String) : depOk (opsStT p) 1 depSt = true := by kernel_rfl
theorem psiStT_zero (R S : Nat) (A : Option Addr) (L c : Nat) (X : List UInt8) (p : String) : ∀ (_ _ : Nat) i v w w', i < (opsStT p).length → depSt i = false → psiStT R S A L c X i v w → psiStT R S A L c X i v w' := by
  intro _ _ i v w w' _ hd h
  rcases i with _ | _ | _ | _ | _ | _ | _ | _ | _ | _ | _ | _ | _ | _ | _ | i
  · exact h
  · exact absurd hd (by decide)
  · exact absurd hd (by decide)
  · exact absurd hd (by decide)
  · exact absurd hd (by decide)
  · exact absurd hd (by decide)
  · exact absurd hd (by decide)
  · exact absurd hd (by decide)
  · exact absurd hd (by decide)
  · exact absurd hd (by decide)
  · exact absurd hd (by decide)
  · exact absurd hd (by decide)
  · exact absurd hd (by decide)
  · exact absurd hd (by decide)
  · exact absurd hd (by decide)
  · trivial
set_option maxRecDepth 100000 in
set_option maxHeartbeats 4000000 in
theorem stakes_ok {p : String} (R S : Nat) (A : Option Addr) (L c : Nat) (X : List UInt8) (hL : L = X.length) (I0 I1 : World → Prop) (hIs : ∀ w w', I1 w → Grew w w' → I1 w') (a : Act) (w : World) (Q : Exit → Act → World → Prop) (hN : a.tmps.size = 46) (h0 : a.tmps.getD 0 undef = .slice A L c) (h3 : a.tmps.getD 3 undef = .pointer (some ⟨R, 0, none⟩)) (h4 : a.tmps.getD 4 undef = .pointer (some ⟨S, 0, none⟩)) (hI00 : I0 w.drew) (hDo : ∀ w', I0 w' → Calls Try.prog 8 #[.pointer (some ⟨R, 0, none⟩)] w' fun e W' => e = .returned (.int .i64 0) ∧ I1 W') (hPut : ∀ w', I1 w' → Calls Try.prog 9 #[.pointer (some ⟨S, 0, none⟩), .slice none 0 0] w' fun e W' => ∃ v m, e = .returned v ∧ W'.ownsRow w'.heap.size 5 1 v m (X.map enc) ∧ Below w'.heap.size w' W') (hHA : ∀ w', I1 w' → HasA w' w'.heap.size A X) (hWk : ∀ w', I1 w' → Calls Try.prog 5 #[] w' fun e W' => e = .returned (.bool true) ∧ Below w'.heap.size w' W') (hQ : ∀ (v37 : Value), ∀ (w' : World), IsB w' v37 (X) → I1 w' → Q .normal (puts [(32, .pointer (some ⟨R, 0, none⟩)), (33, .int .i64 0), (34, .bool false), (35, .bool false), (36, .pointer (some ⟨S, 0, none⟩)), (37, v37), (38, .string (str (X))), (39, .slice A L c), (40, .string (str X)), (41, .bool true), (42, .bool true), (43, .bool true), (44, .bool true), (45, .bool true), (2, .bool true)] a) w')
    : (Code.region 7 (opsStT p).toArray true).wp Try.prog Q a w := by
  refine (wpIn_wide (n := 1)).1 (wpIn_region_piv 46 hN follows (opsStT_back p) (opsStT_slots p) 1 depSt (depStT_ok p) I0 (fun _ => I1) (fun _ => Grew) (fun _ => hIs) (fun _ => psiStT R S A L c X) (fun _ => psiStT_grew R S A L c X) (psiStT_zero R S A L c X p) hI00 ?_ ?_ (show 1 < 15 by omega) ?_)
  · intro i o d ho hd hic _ a' w' hF hI hI1 hp
    rcases i with _ | _ | _ | _ | _ | _ | _ | _ | _ | _ | _ | _ | _ | _ | _ | i
    · obtain rfl : oStT0 p = o := Option.some.inj ho
      obtain rfl : 32 = d := Option.some.inj hd
      exact step_move rfl rfl rfl (hF.at 3 rfl h3) ⟨_, rfl, rfl, Grew.refl _, fun _ => rfl⟩
    · exact absurd rfl hic
    · obtain rfl : oStT2 p = o := Option.some.inj ho
      obtain rfl : 34 = d := Option.some.inj hd
      have q1 : a'.tmps.getD 33 undef = .int .i64 0 := hp 1 (oStT1 p) 33 rfl rfl rfl
      exact step_bin rfl rfl rfl q1 rfl (guard_int _ _ _ _ _ _ _ _ _) (run_ne0S _ _) ⟨_, rfl, rfl, Grew.refl _, fun _ => rfl⟩
    · obtain rfl : oStT3 p = o := Option.some.inj ho
      obtain rfl : 35 = d := Option.some.inj hd
      have q2 : a'.tmps.getD 34 undef = .bool false := hp 2 (oStT2 p) 34 rfl rfl rfl
      exact step_move rfl rfl rfl q2 ⟨_, rfl, rfl, Grew.refl _, fun _ => rfl⟩
    · obtain rfl : oStT4 p = o := Option.some.inj ho
      obtain rfl : 36 = d := Option.some.inj hd
      have q3 : a'.tmps.getD 35 undef = .bool false := hp 3 (oStT3 p) 35 rfl rfl rfl
      exact step_move rfl (wanted_on rfl (show (opsStT p).toArray[3]? = some (oStT3 p) from rfl) rfl q3) rfl (hF.at 4 rfl h4) ⟨_, rfl, rfl, Grew.refl _, fun _ => rfl⟩
    · obtain rfl : oStT5 p = o := Option.some.inj ho
      obtain rfl : 37 = d := Option.some.inj hd
      have q3 : a'.tmps.getD 35 undef = .bool false := hp 3 (oStT3 p) 35 rfl rfl rfl
      have q4 : a'.tmps.getD 36 undef = .pointer (some ⟨S, 0, none⟩) := hp 4 (oStT4 p) 36 rfl rfl rfl
      refine step_callD rfl (wanted_on rfl (show (opsStT p).toArray[3]? = some (oStT3 p) from rfl) rfl q3) rfl (enters_of Try.func9 (by kernel_rfl) rfl) (show Array.map a'.eval #[.tmp 36, .const (.slice none 0 0)] = _ from by simp only [List.map_toArray, List.map_cons, List.map_nil, Act.eval, q4]) ((hPut w' (hI1 rfl)).mono ?_)
      rintro e w'' ⟨x, m, rfl, ho', hb⟩
      exact ⟨_, rfl, _, rfl, IsB.own ho', hb, fun h' => absurd h' (by decide)⟩
    · obtain rfl : oStT6 p = o := Option.some.inj ho
      obtain rfl : 38 = d := Option.some.inj hd
      have q3 : a'.tmps.getD 35 undef = .bool false := hp 3 (oStT3 p) 35 rfl rfl rfl
      have q5 : IsB w' (a'.tmps.getD 37 undef) (X) := hp 5 (oStT5 p) 37 rfl rfl rfl
      exact step_conv rfl (wanted_on rfl (show (opsStT p).toArray[3]? = some (oStT3 p) from rfl) rfl q3) rfl (show IsB w' (a'.tmps.getD 37 undef) _ from q5) ⟨_, rfl, rfl, Grew.refl _, fun _ => rfl⟩
    · obtain rfl : oStT7 p = o := Option.some.inj ho
      obtain rfl : 39 = d := Option.some.inj hd
      have q3 : a'.tmps.getD 35 undef = .bool false := hp 3 (oStT3 p) 35 rfl rfl rfl
      exact step_move rfl (wanted_on rfl (show (opsStT p).toArray[3]? = some (oStT3 p) from rfl) rfl q3) rfl (hF.at 0 rfl h0) ⟨_, rfl, rfl, Grew.refl _, fun _ => rfl⟩
    · obtain rfl : oStT8 p = o := Option.some.inj ho
      obtain rfl : 40 = d := Option.some.inj hd
      have q3 : a'.tmps.getD 35 undef = .bool false := hp 3 (oStT3 p) 35 rfl rfl rfl
      have q7 : a'.tmps.getD 39 undef = .slice A L c := hp 7 (oStT7 p) 39 rfl rfl rfl
      exact step_cv rfl (wanted_on rfl (show (opsStT p).toArray[3]? = some (oStT3 p) from rfl) rfl q3) rfl q7 (run_conv (hHA w' (hI1 rfl)) _ Try.underlying22 Try.underlying5 Try.underlying9 hL) ⟨_, rfl, rfl, Grew.refl _, fun _ => rfl⟩
    · obtain rfl : oStT9 p = o := Option.some.inj ho
      obtain rfl : 41 = d := Option.some.inj hd
      have q3 : a'.tmps.getD 35 undef = .bool false := hp 3 (oStT3 p) 35 rfl rfl rfl
      have q6 : a'.tmps.getD 38 undef = .string (str (X)) := hp 6 (oStT6 p) 38 rfl rfl rfl
      have q8 : a'.tmps.getD 40 undef = .string (str X) := hp 8 (oStT8 p) 40 rfl rfl rfl
      exact step_bin rfl (wanted_on rfl (show (opsStT p).toArray[3]? = some (oStT3 p) from rfl) rfl q3) rfl q6 q8 (guard_str _ _ _ _ _ _ _) (run_eqS _ _ _) ⟨_, rfl, rfl, Grew.refl _, fun _ => rfl⟩
    · obtain rfl : oStT10 p = o := Option.some.inj ho
      obtain rfl : 42 = d := Option.some.inj hd
      have q3 : a'.tmps.getD 35 undef = .bool false := hp 3 (oStT3 p) 35 rfl rfl rfl
      have q9 : a'.tmps.getD 41 undef = .bool true := hp 9 (oStT9 p) 41 rfl rfl rfl
      exact step_pick rfl rfl rfl q3 (show (if false = true then _ else a'.tmps.getD 41 undef) = _ from q9) ⟨_, rfl, rfl, Grew.refl _, fun _ => rfl⟩
    · obtain rfl : oStT11 p = o := Option.some.inj ho
      obtain rfl : 43 = d := Option.some.inj hd
      have q10 : a'.tmps.getD 42 undef = .bool true := hp 10 (oStT10 p) 42 rfl rfl rfl
      exact step_move rfl rfl rfl q10 ⟨_, rfl, rfl, Grew.refl _, fun _ => rfl⟩
    · obtain rfl : oStT12 p = o := Option.some.inj ho
      obtain rfl : 44 = d := Option.some.inj hd
      have q11 : a'.tmps.getD 43 undef = .bool true := hp 11 (oStT11 p) 43 rfl rfl rfl
      refine step_callD rfl (wanted_on rfl (show (opsStT p).toArray[11]? = some (oStT11 p) from rfl) rfl q11) rfl (enters_of Try.func5 (by kernel_rfl) rfl) (show Array.map a'.eval #[] = _ from by simp only [List.map_toArray, List.map_nil]) ((hWk w' (hI1 rfl)).mono ?_)
      rintro e w'' ⟨rfl, hb⟩
      exact ⟨_, rfl, _, rfl, rfl, hb, fun h' => absurd h' (by decide)⟩
    · obtain rfl : oStT13 p = o := Option.some.inj ho
      obtain rfl : 45 = d := Option.some.inj hd
      have q11 : a'.tmps.getD 43 undef = .bool true := hp 11 (oStT11 p) 43 rfl rfl rfl
      have q12 : a'.tmps.getD 44 undef = .bool true := hp 12 (oStT12 p) 44 rfl rfl rfl
      exact step_pick rfl rfl rfl q11 (show (if true = true then a'.tmps.getD 44 undef else _) = _ from q12) ⟨_, rfl, rfl, Grew.refl _, fun _ => rfl⟩
    · obtain rfl : oStT14 p = o := Option.some.inj ho
      obtain rfl : 2 = d := Option.some.inj hd
      have q13 : a'.tmps.getD 45 undef = .bool true := hp 13 (oStT13 p) 45 rfl rfl rfl
      exact step_assign rfl rfl rfl q13 ⟨_, rfl, rfl, Grew.refl _, fun _ => rfl⟩
    · exact absurd ((Array.getElem?_eq_some_iff.1 ho).1) (by simp [opsStT])
  · intro o d ho hd _ a' w' hF hI hp
    · obtain rfl : oStT1 p = o := Option.some.inj ho
      obtain rfl : 33 = d := Option.some.inj hd
      have q0 : a'.tmps.getD 32 undef = .pointer (some ⟨R, 0, none⟩) := hp 0 (oStT0 p) 32 rfl rfl rfl
      refine step_callD rfl rfl rfl (enters_of Try.func8 (by kernel_rfl) rfl) (show Array.map a'.eval #[.tmp 32] = _ from by simp only [List.map_toArray, List.map_cons, List.map_nil, Act.eval, q0]) ((hDo w' hI).mono ?_)
      rintro e w'' ⟨rfl, hM⟩
      exact ⟨_, rfl, _, 0, rfl, rfl, hM⟩
  · intro _ a' w' hF hR hp
    have e0 : psiStT R S A L c X 0 (a'.tmps.getD 32 undef) w' := hp 0 (oStT0 p) 32 rfl rfl
    have e1 : psiStT R S A L c X 1 (a'.tmps.getD 33 undef) w' := hp 1 (oStT1 p) 33 rfl rfl
    have e2 : psiStT R S A L c X 2 (a'.tmps.getD 34 undef) w' := hp 2 (oStT2 p) 34 rfl rfl
    have e3 : psiStT R S A L c X 3 (a'.tmps.getD 35 undef) w' := hp 3 (oStT3 p) 35 rfl rfl
    have e4 : psiStT R S A L c X 4 (a'.tmps.getD 36 undef) w' := hp 4 (oStT4 p) 36 rfl rfl
    have e5 : psiStT R S A L c X 5 (a'.tmps.getD 37 undef) w' := hp 5 (oStT5 p) 37 rfl rfl
    have e6 : psiStT R S A L c X 6 (a'.tmps.getD 38 undef) w' := hp 6 (oStT6 p) 38 rfl rfl
    have e7 : psiStT R S A L c X 7 (a'.tmps.getD 39 undef) w' := hp 7 (oStT7 p) 39 rfl rfl
    have e8 : psiStT R S A L c X 8 (a'.tmps.getD 40 undef) w' := hp 8 (oStT8 p) 40 rfl rfl
    have e9 : psiStT R S A L c X 9 (a'.tmps.getD 41 undef) w' := hp 9 (oStT9 p) 41 rfl rfl
    have e10 : psiStT R S A L c X 10 (a'.tmps.getD 42 undef) w' := hp 10 (oStT10 p) 42 rfl rfl
    have e11 : psiStT R S A L c X 11 (a'.tmps.getD 43 undef) w' := hp 11 (oStT11 p) 43 rfl rfl
    have e12 : psiStT R S A L c X 12 (a'.tmps.getD 44 undef) w' := hp 12 (oStT12 p) 44 rfl rfl
    have e13 : psiStT R S A L c X 13 (a'.tmps.getD 45 undef) w' := hp 13 (oStT13 p) 45 rfl rfl
    have e14 : psiStT R S A L c X 14 (a'.tmps.getD 2 undef) w' := hp 14 (oStT14 p) 2 rfl rfl
    rw [hF.puts [(32, .pointer (some ⟨R, 0, none⟩)), (33, .int .i64 0), (34, .bool false), (35, .bool false), (36, .pointer (some ⟨S, 0, none⟩)), (37, a'.tmps.getD 37 undef), (38, .string (str (X))), (39, .slice A L c), (40, .string (str X)), (41, .bool true), (42, .bool true), (43, .bool true), (44, .bool true), (45, .bool true), (2, .bool true)] ?_ rfl (by rw [hN]; rfl)]
    · exact hQ _ w' e5 hR
    · intro x hx
      simp only [List.mem_cons, List.not_mem_nil, or_false] at hx
      rcases hx with rfl | rfl | rfl | rfl | rfl | rfl | rfl | rfl | rfl | rfl | rfl | rfl | rfl | rfl | rfl
      · exact e0
      · exact e1
      · exact e2
      · exact e3
      · exact e4
      · exact rfl
      · exact e6
      · exact e7
      · exact e8
      · exact e9
      · exact e10
      · exact e11
      · exact e12
      · exact e13
      · exact e14
def oStF0 (p : String) : Oper := { dst := some 32, op := Op.move (Operand.tmp 3), type := 24, pos := p, after := #[], guard := none }
def oStF1 (p : String) : Oper := { dst := some 33, op := Op.call { callee := Callee.value (Operand.func 8), args := #[Operand.tmp 32], argTypes := #[24] }, type := 27, pos := p, after := #[{ on := 0, ground := Ground.data }], guard := none }
def oStF2 (p : String) : Oper := { dst := some 34, op := Op.binOp BinOp.neq 27 (Operand.tmp 33) (Operand.const (Value.int IntKind.i64 0)) 27, type := 4, pos := p, after := #[{ on := 1, ground := Ground.data }], guard := none }
def oStF3 (p : String) : Oper := { dst := some 35, op := Op.move (Operand.tmp 34), type := 4, pos := p, after := #[{ on := 2, ground := Ground.data }, { on := 1, ground := Ground.chain }], guard := none }
def oStF4 (p : String) : Oper := { dst := some 36, op := Op.move (Operand.tmp 4), type := 26, pos := p, after := #[{ on := 3, ground := Ground.guard }], guard := some (3, false) }
def oStF5 (p : String) : Oper := { dst := some 37, op := Op.call { callee := Callee.value (Operand.func 9), args := #[Operand.tmp 36, Operand.const (Value.slice none 0 0)], argTypes := #[26, 22] }, type := 22, pos := p, after := #[{ on := 4, ground := Ground.data }, { on := 3, ground := Ground.chain }, { on := 3, ground := Ground.guard }], guard := some (3, false) }
def oStF6 (p : String) : Oper := { dst := some 38, op := Op.convert 22 9 (Operand.tmp 37), type := 9, pos := p, after := #[{ on := 5, ground := Ground.data }, { on := 3, ground := Ground.guard }], guard := some (3, false) }
def oStF7 (p : String) : Oper := { dst := some 39, op := Op.move (Operand.tmp 0), type := 22, pos := p, after := #[{ on := 3, ground := Ground.guard }], guard := some (3, false) }
def oStF8 (p : String) : Oper := { dst := some 40, op := Op.convert 22 9 (Operand.tmp 39), type := 9, pos := p, after := #[{ on := 7, ground := Ground.data }, { on := 3, ground := Ground.guard }], guard := some (3, false) }
def oStF9 (p : String) : Oper := { dst := some 41, op := Op.binOp BinOp.eql 9 (Operand.tmp 38) (Operand.tmp 40) 9, type := 4, pos := p, after := #[{ on := 6, ground := Ground.data }, { on := 8, ground := Ground.data }, { on := 3, ground := Ground.guard }], guard := some (3, false) }
def oStF10 (p : String) : Oper := { dst := some 42, op := Op.pick (Operand.tmp 35) (Operand.const (Value.bool true)) (Operand.tmp 41), type := 4, pos := p, after := #[{ on := 3, ground := Ground.data }, { on := 9, ground := Ground.data }], guard := none }
def oStF11 (p : String) : Oper := { dst := some 43, op := Op.move (Operand.tmp 42), type := 4, pos := p, after := #[{ on := 10, ground := Ground.data }, { on := 5, ground := Ground.chain }], guard := none }
def oStF12 (p : String) : Oper := { dst := some 44, op := Op.call { callee := Callee.value (Operand.func 5), args := #[], argTypes := #[] }, type := 4, pos := p, after := #[{ on := 11, ground := Ground.chain }, { on := 11, ground := Ground.guard }], guard := some (11, true) }
def oStF13 (p : String) : Oper := { dst := some 45, op := Op.pick (Operand.tmp 43) (Operand.tmp 44) (Operand.const (Value.bool false)), type := 4, pos := p, after := #[{ on := 11, ground := Ground.data }, { on := 12, ground := Ground.data }], guard := none }
def oStF14 (p : String) : Oper := { dst := some 2, op := Op.assign (Operand.tmp 45), type := 4, pos := p, after := #[{ on := 13, ground := Ground.data }, { on := 12, ground := Ground.chain }, { on := 0, ground := Ground.phase }, { on := 1, ground := Ground.phase }, { on := 2, ground := Ground.phase }, { on := 3, ground := Ground.phase }, { on := 4, ground := Ground.phase }, { on := 5, ground := Ground.phase }, { on := 6, ground := Ground.phase }, { on := 7, ground := Ground.phase }, { on := 8, ground := Ground.phase }, { on := 9, ground := Ground.phase }, { on := 10, ground := Ground.phase }, { on := 11, ground := Ground.phase }, { on := 12, ground := Ground.phase }, { on := 13, ground := Ground.phase }], guard := none }
def opsStF (p : String) : List Oper := [oStF0 p, oStF1 p, oStF2 p, oStF3 p, oStF4 p, oStF5 p, oStF6 p, oStF7 p, oStF8 p, oStF9 p, oStF10 p, oStF11 p, oStF12 p, oStF13 p, oStF14 p]
theorem opsStF_back (p : String) : backwards (opsStF p) = true := by kernel_rfl
theorem opsStF_slots (p : String) : slotsOk 46 (opsStF p) = true := by kernel_rfl
/-- What each slot comes to. -/
def psiStF (R _S : Nat) (_A : Option Addr) (_L _c : Nat) (_X : List UInt8) : Nat → Value → World → Prop
  | 0, v, _ => v = .pointer (some ⟨R, 0, none⟩)
  | 1, v, _ => v = .int .i64 11
  | 2, v, _ => v = .bool true
  | 3, v, _ => v = .bool true
  | 4, v, _ => v = undef
  | 5, v, _ => v = undef
  | 6, v, _ => v = undef
  | 7, v, _ => v = undef
  | 8, v, _ => v = undef
  | 9, v, _ => v = undef
  | 10, v, _ => v = .bool true
  | 11, v, _ => v = .bool true
  | 12, v, _ => v = .bool true
  | 13, v, _ => v = .bool true
  | 14, v, _ => v = .bool true
  | _, _, _ => True
theorem psiStF_grew (R S : Nat) (A : Option Addr) (L c : Nat) (X : List UInt8) : ∀ i v w w', psiStF R S A L c X i v w → Grew w w' → psiStF R S A L c X i v w' := by
  intro i v w w' h hg
  rcases i with _ | _ | _ | _ | _ | _ | _ | _ | _ | _ | _ | _ | _ | _ | _ | i
  · exact h
  · exact h
  · exact h
  · exact h
  · exact h
  · exact h
  · exact h
  · exact h
  · exact h
  · exact h
  · exact h
  · exact h
  · exact h
  · exact h
  · exact h
  · trivial
set_option maxRecDepth 100000 in
theorem depStF_ok (p : String) : depOk (opsStF p) 1 depSt = true := by kernel_rfl
theorem psiStF_zero (R S : Nat) (A : Option Addr) (L c : Nat) (X : List UInt8) (p : String) : ∀ (_ _ : Nat) i v w w', i < (opsStF p).length → depSt i = false → psiStF R S A L c X i v w → psiStF R S A L c X i v w' := by
  intro _ _ i v w w' _ hd h
  rcases i with _ | _ | _ | _ | _ | _ | _ | _ | _ | _ | _ | _ | _ | _ | _ | i
  · exact h
  · exact absurd hd (by decide)
  · exact absurd hd (by decide)
  · exact absurd hd (by decide)
  · exact absurd hd (by decide)
  · exact absurd hd (by decide)
  · exact absurd hd (by decide)
  · exact absurd hd (by decide)
  · exact absurd hd (by decide)
  · exact absurd hd (by decide)
  · exact absurd hd (by decide)
  · exact absurd hd (by decide)
  · exact absurd hd (by decide)
  · exact absurd hd (by decide)
  · exact absurd hd (by decide)
  · trivial
set_option maxRecDepth 100000 in
set_option maxHeartbeats 4000000 in
theorem stakes_more {p : String} (R S : Nat) (A : Option Addr) (L c : Nat) (X : List UInt8) (_hL : L = X.length) (I0 I1 : World → Prop) (hIs : ∀ w w', I1 w → Grew w w' → I1 w') (a : Act) (w : World) (Q : Exit → Act → World → Prop) (hN : a.tmps.size = 46) (_h0 : a.tmps.getD 0 undef = .slice A L c) (h3 : a.tmps.getD 3 undef = .pointer (some ⟨R, 0, none⟩)) (_h4 : a.tmps.getD 4 undef = .pointer (some ⟨S, 0, none⟩)) (hI00 : I0 w.drew) (hDo : ∀ w', I0 w' → Calls Try.prog 8 #[.pointer (some ⟨R, 0, none⟩)] w' fun e W' => e = .returned (.int .i64 11) ∧ I1 W')  (hWk : ∀ w', I1 w' → Calls Try.prog 5 #[] w' fun e W' => e = .returned (.bool true) ∧ Below w'.heap.size w' W') (hQ : ∀ (w' : World), I1 w' → Q .normal (puts [(32, .pointer (some ⟨R, 0, none⟩)), (33, .int .i64 11), (34, .bool true), (35, .bool true), (36, undef), (37, undef), (38, undef), (39, undef), (40, undef), (41, undef), (42, .bool true), (43, .bool true), (44, .bool true), (45, .bool true), (2, .bool true)] a) w')
    : (Code.region 7 (opsStF p).toArray true).wp Try.prog Q a w := by
  refine (wpIn_wide (n := 1)).1 (wpIn_region_piv 46 hN follows (opsStF_back p) (opsStF_slots p) 1 depSt (depStF_ok p) I0 (fun _ => I1) (fun _ => Grew) (fun _ => hIs) (fun _ => psiStF R S A L c X) (fun _ => psiStF_grew R S A L c X) (psiStF_zero R S A L c X p) hI00 ?_ ?_ (show 1 < 15 by omega) ?_)
  · intro i o d ho hd hic _ a' w' hF hI hI1 hp
    rcases i with _ | _ | _ | _ | _ | _ | _ | _ | _ | _ | _ | _ | _ | _ | _ | i
    · obtain rfl : oStF0 p = o := Option.some.inj ho
      obtain rfl : 32 = d := Option.some.inj hd
      exact step_move rfl rfl rfl (hF.at 3 rfl h3) ⟨_, rfl, rfl, Grew.refl _, fun _ => rfl⟩
    · exact absurd rfl hic
    · obtain rfl : oStF2 p = o := Option.some.inj ho
      obtain rfl : 34 = d := Option.some.inj hd
      have q1 : a'.tmps.getD 33 undef = .int .i64 11 := hp 1 (oStF1 p) 33 rfl rfl rfl
      exact step_bin rfl rfl rfl q1 rfl (guard_int _ _ _ _ _ _ _ _ _) (run_ne1S _ _) ⟨_, rfl, rfl, Grew.refl _, fun _ => rfl⟩
    · obtain rfl : oStF3 p = o := Option.some.inj ho
      obtain rfl : 35 = d := Option.some.inj hd
      have q2 : a'.tmps.getD 34 undef = .bool true := hp 2 (oStF2 p) 34 rfl rfl rfl
      exact step_move rfl rfl rfl q2 ⟨_, rfl, rfl, Grew.refl _, fun _ => rfl⟩
    · obtain rfl : oStF4 p = o := Option.some.inj ho
      obtain rfl : 36 = d := Option.some.inj hd
      have q3 : a'.tmps.getD 35 undef = .bool true := hp 3 (oStF3 p) 35 rfl rfl rfl
      exact step_off rfl (wanted_off rfl (show (opsStF p).toArray[3]? = some (oStF3 p) from rfl) rfl q3) ⟨_, rfl, rfl, Grew.refl _, fun _ => rfl⟩
    · obtain rfl : oStF5 p = o := Option.some.inj ho
      obtain rfl : 37 = d := Option.some.inj hd
      have q3 : a'.tmps.getD 35 undef = .bool true := hp 3 (oStF3 p) 35 rfl rfl rfl
      exact step_off rfl (wanted_off rfl (show (opsStF p).toArray[3]? = some (oStF3 p) from rfl) rfl q3) ⟨_, rfl, rfl, Grew.refl _, fun _ => rfl⟩
    · obtain rfl : oStF6 p = o := Option.some.inj ho
      obtain rfl : 38 = d := Option.some.inj hd
      have q3 : a'.tmps.getD 35 undef = .bool true := hp 3 (oStF3 p) 35 rfl rfl rfl
      exact step_off rfl (wanted_off rfl (show (opsStF p).toArray[3]? = some (oStF3 p) from rfl) rfl q3) ⟨_, rfl, rfl, Grew.refl _, fun _ => rfl⟩
    · obtain rfl : oStF7 p = o := Option.some.inj ho
      obtain rfl : 39 = d := Option.some.inj hd
      have q3 : a'.tmps.getD 35 undef = .bool true := hp 3 (oStF3 p) 35 rfl rfl rfl
      exact step_off rfl (wanted_off rfl (show (opsStF p).toArray[3]? = some (oStF3 p) from rfl) rfl q3) ⟨_, rfl, rfl, Grew.refl _, fun _ => rfl⟩
    · obtain rfl : oStF8 p = o := Option.some.inj ho
      obtain rfl : 40 = d := Option.some.inj hd
      have q3 : a'.tmps.getD 35 undef = .bool true := hp 3 (oStF3 p) 35 rfl rfl rfl
      exact step_off rfl (wanted_off rfl (show (opsStF p).toArray[3]? = some (oStF3 p) from rfl) rfl q3) ⟨_, rfl, rfl, Grew.refl _, fun _ => rfl⟩
    · obtain rfl : oStF9 p = o := Option.some.inj ho
      obtain rfl : 41 = d := Option.some.inj hd
      have q3 : a'.tmps.getD 35 undef = .bool true := hp 3 (oStF3 p) 35 rfl rfl rfl
      exact step_off rfl (wanted_off rfl (show (opsStF p).toArray[3]? = some (oStF3 p) from rfl) rfl q3) ⟨_, rfl, rfl, Grew.refl _, fun _ => rfl⟩
    · obtain rfl : oStF10 p = o := Option.some.inj ho
      obtain rfl : 42 = d := Option.some.inj hd
      have q3 : a'.tmps.getD 35 undef = .bool true := hp 3 (oStF3 p) 35 rfl rfl rfl
      exact step_pick rfl rfl rfl q3 rfl ⟨_, rfl, rfl, Grew.refl _, fun _ => rfl⟩
    · obtain rfl : oStF11 p = o := Option.some.inj ho
      obtain rfl : 43 = d := Option.some.inj hd
      have q10 : a'.tmps.getD 42 undef = .bool true := hp 10 (oStF10 p) 42 rfl rfl rfl
      exact step_move rfl rfl rfl q10 ⟨_, rfl, rfl, Grew.refl _, fun _ => rfl⟩
    · obtain rfl : oStF12 p = o := Option.some.inj ho
      obtain rfl : 44 = d := Option.some.inj hd
      have q11 : a'.tmps.getD 43 undef = .bool true := hp 11 (oStF11 p) 43 rfl rfl rfl
      refine step_callD rfl (wanted_on rfl (show (opsStF p).toArray[11]? = some (oStF11 p) from rfl) rfl q11) rfl (enters_of Try.func5 (by kernel_rfl) rfl) (show Array.map a'.eval #[] = _ from by simp only [List.map_toArray, List.map_nil]) ((hWk w' (hI1 rfl)).mono ?_)
      rintro e w'' ⟨rfl, hb⟩
      exact ⟨_, rfl, _, rfl, rfl, hb, fun h' => absurd h' (by decide)⟩
    · obtain rfl : oStF13 p = o := Option.some.inj ho
      obtain rfl : 45 = d := Option.some.inj hd
      have q11 : a'.tmps.getD 43 undef = .bool true := hp 11 (oStF11 p) 43 rfl rfl rfl
      have q12 : a'.tmps.getD 44 undef = .bool true := hp 12 (oStF12 p) 44 rfl rfl rfl
      exact step_pick rfl rfl rfl q11 (show (if true = true then a'.tmps.getD 44 undef else _) = _ from q12) ⟨_, rfl, rfl, Grew.refl _, fun _ => rfl⟩
    · obtain rfl : oStF14 p = o := Option.some.inj ho
      obtain rfl : 2 = d := Option.some.inj hd
      have q13 : a'.tmps.getD 45 undef = .bool true := hp 13 (oStF13 p) 45 rfl rfl rfl
      exact step_assign rfl rfl rfl q13 ⟨_, rfl, rfl, Grew.refl _, fun _ => rfl⟩
    · exact absurd ((Array.getElem?_eq_some_iff.1 ho).1) (by simp [opsStF])
  · intro o d ho hd _ a' w' hF hI hp
    · obtain rfl : oStF1 p = o := Option.some.inj ho
      obtain rfl : 33 = d := Option.some.inj hd
      have q0 : a'.tmps.getD 32 undef = .pointer (some ⟨R, 0, none⟩) := hp 0 (oStF0 p) 32 rfl rfl rfl
      refine step_callD rfl rfl rfl (enters_of Try.func8 (by kernel_rfl) rfl) (show Array.map a'.eval #[.tmp 32] = _ from by simp only [List.map_toArray, List.map_cons, List.map_nil, Act.eval, q0]) ((hDo w' hI).mono ?_)
      rintro e w'' ⟨rfl, hM⟩
      exact ⟨_, rfl, _, 0, rfl, rfl, hM⟩
  · intro _ a' w' hF hR hp
    have e0 : psiStF R S A L c X 0 (a'.tmps.getD 32 undef) w' := hp 0 (oStF0 p) 32 rfl rfl
    have e1 : psiStF R S A L c X 1 (a'.tmps.getD 33 undef) w' := hp 1 (oStF1 p) 33 rfl rfl
    have e2 : psiStF R S A L c X 2 (a'.tmps.getD 34 undef) w' := hp 2 (oStF2 p) 34 rfl rfl
    have e3 : psiStF R S A L c X 3 (a'.tmps.getD 35 undef) w' := hp 3 (oStF3 p) 35 rfl rfl
    have e4 : psiStF R S A L c X 4 (a'.tmps.getD 36 undef) w' := hp 4 (oStF4 p) 36 rfl rfl
    have e5 : psiStF R S A L c X 5 (a'.tmps.getD 37 undef) w' := hp 5 (oStF5 p) 37 rfl rfl
    have e6 : psiStF R S A L c X 6 (a'.tmps.getD 38 undef) w' := hp 6 (oStF6 p) 38 rfl rfl
    have e7 : psiStF R S A L c X 7 (a'.tmps.getD 39 undef) w' := hp 7 (oStF7 p) 39 rfl rfl
    have e8 : psiStF R S A L c X 8 (a'.tmps.getD 40 undef) w' := hp 8 (oStF8 p) 40 rfl rfl
    have e9 : psiStF R S A L c X 9 (a'.tmps.getD 41 undef) w' := hp 9 (oStF9 p) 41 rfl rfl
    have e10 : psiStF R S A L c X 10 (a'.tmps.getD 42 undef) w' := hp 10 (oStF10 p) 42 rfl rfl
    have e11 : psiStF R S A L c X 11 (a'.tmps.getD 43 undef) w' := hp 11 (oStF11 p) 43 rfl rfl
    have e12 : psiStF R S A L c X 12 (a'.tmps.getD 44 undef) w' := hp 12 (oStF12 p) 44 rfl rfl
    have e13 : psiStF R S A L c X 13 (a'.tmps.getD 45 undef) w' := hp 13 (oStF13 p) 45 rfl rfl
    have e14 : psiStF R S A L c X 14 (a'.tmps.getD 2 undef) w' := hp 14 (oStF14 p) 2 rfl rfl
    rw [hF.puts [(32, .pointer (some ⟨R, 0, none⟩)), (33, .int .i64 11), (34, .bool true), (35, .bool true), (36, undef), (37, undef), (38, undef), (39, undef), (40, undef), (41, undef), (42, .bool true), (43, .bool true), (44, .bool true), (45, .bool true), (2, .bool true)] ?_ rfl (by rw [hN]; rfl)]
    · exact hQ  w'  hR
    · intro x hx
      simp only [List.mem_cons, List.not_mem_nil, or_false] at hx
      rcases hx with rfl | rfl | rfl | rfl | rfl | rfl | rfl | rfl | rfl | rfl | rfl | rfl | rfl | rfl | rfl
      · exact e0
      · exact e1
      · exact e2
      · exact e3
      · exact e4
      · exact e5
      · exact e6
      · exact e7
      · exact e8
      · exact e9
      · exact e10
      · exact e11
      · exact e12
      · exact e13
      · exact e14
end Go.Proofs.Ytelbgjnaceffeaa
