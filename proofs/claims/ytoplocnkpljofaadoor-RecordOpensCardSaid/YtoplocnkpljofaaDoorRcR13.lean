/- The statement of the law that a log is opened that compares, whatever its order of evaluation. -/
import Derived.Test.YtoplocnkpljofaaDoorMRc
import Derived.Test.YtoplocnkpljofaaDoorMDk
import Derived.Test.YtoplocnkpljofaaDoorMBase
namespace Go.Proofs.YtoplocnkpljofaaDoor
open Go.RowKit

section
variable {n : Nat} {Q : Exit → Act → World → Prop} {ops : Array Oper} {i : Nat} {o : Oper} {a : Act} {w : World} {K : Act → World → Prop}
theorem step_callR {f : FuncId} {xs : Array Operand} {ts : Array TypeId} {vs : Array Value} (hi : ops[i]? = some o) (hw : Region.wanted o (yielded ops a.tmps) = true)
    (ho : o.op = .call { callee := .value (.func f), args := xs, argTypes := ts }) (eg : ∀ args w, (callFunc f args).run Tryd.prog w = .ok (.enter f args) w) (hxs : xs.map a.eval = vs) (hc : Calls Tryd.prog f vs w fun e w' => ∃ v, e = .returned v ∧ K (a.put o.dst v) w') : wpOpIn Fence.wide n Tryd.prog ops Q i K a w := by
  refine step_call hi hw ho trivial (fun h => by cases h) eg ?_
  rw [hxs]
  exact callsIn_wide.2 hc
end
theorem run_nei6 (t : TypeId) (w : World) (x y : Int) : (binOp .neq t (.int .i64 x) (.int .i64 y)).run Tryd.prog w = .ok (.bool (x != y)) w := by
  simp [go_sem, bne]
def oR130 (p : String) : Oper := { dst := some 57, op := Op.move (Operand.tmp 9), type := 27, pos := p, after := #[], guard := none }
def oR131 (p : String) : Oper := { dst := some 58, op := Op.move (Operand.tmp 12), type := 27, pos := p, after := #[], guard := none }
def oR132 (p : String) : Oper := { dst := some 59, op := Op.binOp BinOp.neq 27 (Operand.tmp 57) (Operand.tmp 58) 27, type := 4, pos := p, after := #[{ on := 0, ground := Ground.data }, { on := 1, ground := Ground.data }], guard := none }
def oR133 (p : String) : Oper := { dst := some 60, op := Op.move (Operand.tmp 59), type := 4, pos := p, after := #[{ on := 2, ground := Ground.data }], guard := none }
def oR134 (p : String) : Oper := { dst := some 61, op := Op.move (Operand.tmp 8), type := 35, pos := p, after := #[{ on := 3, ground := Ground.guard }], guard := some (3, false) }
def oR135 (p : String) : Oper := { dst := some 62, op := Op.move (Operand.tmp 10), type := 35, pos := p, after := #[{ on := 3, ground := Ground.guard }], guard := some (3, false) }
def oR136 (p : String) : Oper := { dst := some 63, op := Op.call { callee := Callee.value (Operand.func 15), args := #[Operand.tmp 61, Operand.tmp 62], argTypes := #[35, 35] }, type := 4, pos := p, after := #[{ on := 4, ground := Ground.data }, { on := 5, ground := Ground.data }, { on := 3, ground := Ground.chain }, { on := 3, ground := Ground.guard }], guard := some (3, false) }
def oR137 (p : String) : Oper := { dst := some 64, op := Op.unOp UnOp.not 4 (Operand.tmp 63), type := 4, pos := p, after := #[{ on := 6, ground := Ground.data }, { on := 3, ground := Ground.guard }], guard := some (3, false) }
def oR138 (p : String) : Oper := { dst := some 65, op := Op.pick (Operand.tmp 60) (Operand.const (Value.bool true)) (Operand.tmp 64), type := 4, pos := p, after := #[{ on := 3, ground := Ground.data }, { on := 7, ground := Ground.data }], guard := none }
def oR139 (p : String) : Oper := { dst := some 66, op := Op.move (Operand.tmp 65), type := 4, pos := p, after := #[{ on := 8, ground := Ground.data }, { on := 6, ground := Ground.chain }], guard := none }
def oR1310 (p : String) : Oper := { dst := some 67, op := Op.move (Operand.tmp 3), type := 25, pos := p, after := #[{ on := 9, ground := Ground.guard }], guard := some (9, false) }
def oR1311 (p : String) : Oper := { dst := some 68, op := Op.call { callee := Callee.value (Operand.func 10), args := #[Operand.tmp 67], argTypes := #[25] }, type := 29, pos := p, after := #[{ on := 10, ground := Ground.data }, { on := 9, ground := Ground.chain }, { on := 9, ground := Ground.guard }], guard := some (9, false) }
def oR1312 (p : String) : Oper := { dst := some 69, op := Op.convert 29 9 (Operand.tmp 68), type := 9, pos := p, after := #[{ on := 11, ground := Ground.data }, { on := 9, ground := Ground.guard }], guard := some (9, false) }
def oR1313 (p : String) : Oper := { dst := some 70, op := Op.move (Operand.tmp 5), type := 29, pos := p, after := #[{ on := 9, ground := Ground.guard }], guard := some (9, false) }
def oR1314 (p : String) : Oper := { dst := some 71, op := Op.move (Operand.tmp 11), type := 3, pos := p, after := #[{ on := 9, ground := Ground.guard }], guard := some (9, false) }
def oR1315 (p : String) : Oper := { dst := some 72, op := Op.slice 29 (Operand.tmp 70) none (some (Operand.tmp 71)) none, type := 29, pos := p, after := #[{ on := 13, ground := Ground.data }, { on := 14, ground := Ground.data }, { on := 9, ground := Ground.guard }], guard := some (9, false) }
def oR1316 (p : String) : Oper := { dst := some 73, op := Op.convert 29 9 (Operand.tmp 72), type := 9, pos := p, after := #[{ on := 15, ground := Ground.data }, { on := 9, ground := Ground.guard }], guard := some (9, false) }
def oR1317 (p : String) : Oper := { dst := some 74, op := Op.binOp BinOp.neq 9 (Operand.tmp 69) (Operand.tmp 73) 9, type := 4, pos := p, after := #[{ on := 12, ground := Ground.data }, { on := 16, ground := Ground.data }, { on := 9, ground := Ground.guard }], guard := some (9, false) }
def oR1318 (p : String) : Oper := { dst := some 75, op := Op.pick (Operand.tmp 66) (Operand.const (Value.bool true)) (Operand.tmp 74), type := 4, pos := p, after := #[{ on := 9, ground := Ground.data }, { on := 17, ground := Ground.data }], guard := none }
def opsR13 (p : String) : List Oper := [oR130 p, oR131 p, oR132 p, oR133 p, oR134 p, oR135 p, oR136 p, oR137 p, oR138 p, oR139 p, oR1310 p, oR1311 p, oR1312 p, oR1313 p, oR1314 p, oR1315 p, oR1316 p, oR1317 p, oR1318 p]
theorem opsR13_back (p : String) : backwards (opsR13 p) = true := by kernel_rfl
theorem opsR13_slots (p : String) : slotsOk 100 (opsR13 p) = true := by kernel_rfl
/-- What each slot comes to. -/
def psiR13 (_P : DiskK) (_w0 : World) (R : Nat) (s : DS) (v8 v10 : Value) (_Xs : List (List UInt8)) (A5 : Option Addr) (M c5 st er : Nat) (X : List UInt8) : Nat → Value → World → Prop
  | 0, v, _ => v = .int .i64 (er : Int)
  | 1, v, _ => v = .int .i64 (er : Int)
  | 2, v, _ => v = .bool false
  | 3, v, _ => v = .bool false
  | 4, v, _ => v = v8
  | 5, v, _ => v = v10
  | 6, v, _ => v = .bool true
  | 7, v, _ => v = .bool false
  | 8, v, _ => v = .bool false
  | 9, v, _ => v = .bool false
  | 10, v, _ => v = .pointer (some ⟨R, 0, none⟩)
  | 11, v, w => IsB w v (s.A)
  | 12, v, _ => v = .string (str (s.A))
  | 13, v, _ => v = .slice A5 M c5
  | 14, v, _ => v = .int .i64 (st : Int)
  | 15, v, _ => v = .slice A5 st c5
  | 16, v, _ => v = .string (str (X.take st))
  | 17, v, _ => v = .bool false
  | 18, v, _ => v = .bool false
  | _, _, _ => True
theorem psiR13_grew (P : DiskK) (w0 : World) (R : Nat) (s : DS) (v8 v10 : Value) (Xs : List (List UInt8)) (A5 : Option Addr) (M c5 st er : Nat) (X : List UInt8) : ∀ i v w w', psiR13 P w0 R s v8 v10 Xs A5 M c5 st er X i v w → Grew w w' → psiR13 P w0 R s v8 v10 Xs A5 M c5 st er X i v w' := by
  intro i v w w' h hg
  rcases i with _ | _ | _ | _ | _ | _ | _ | _ | _ | _ | _ | _ | _ | _ | _ | _ | _ | _ | _ | i
  · exact h
  · exact h
  · exact h
  · exact h
  · exact h
  · exact h
  · exact h
  · exact h
  · exact h
  · exact h
  · exact h
  · exact IsB.grew h hg
  · exact h
  · exact h
  · exact h
  · exact h
  · exact h
  · exact h
  · exact h
  · trivial
set_option maxRecDepth 100000 in
set_option maxHeartbeats 4000000 in
theorem opens_cmp {p : String} (P : DiskK) (w0 : World) (R : Nat) (s : DS) (v8 v10 : Value) (Xs : List (List UInt8)) (A5 : Option Addr) (M c5 st er : Nat) (X : List UInt8) (hXs : Xs.length ≤ 1000000) (hM : M = X.length) (hst : st ≤ M) (hMc : M ≤ c5) (hMm : M ≤ 1000000) (hX : s.A = X.take st) (a : Act) (w : World) (Q : Exit → Act → World → Prop) (hN : a.tmps.size = 100) (h3 : a.tmps.getD 3 undef = .pointer (some ⟨R, 0, none⟩)) (h5 : a.tmps.getD 5 undef = .slice A5 M c5) (h8 : a.tmps.getD 8 undef = v8) (h9 : a.tmps.getD 9 undef = .int .i64 (er : Int)) (h10 : a.tmps.getD 10 undef = v10) (h11 : a.tmps.getD 11 undef = .int .i64 (st : Int)) (h12 : a.tmps.getD 12 undef = .int .i64 (er : Int)) (hl : LiveD P w0 R s w) (hv8 : IsBB w v8 Xs) (hv10 : IsBB w v10 Xs) (hA5 : HasA w w.heap.size A5 X) (hQ : ∀ (v68 : Value), ∀ (w' : World), IsB w' v68 (s.A) → Grew w w' → Q .normal (puts [(57, .int .i64 (er : Int)), (58, .int .i64 (er : Int)), (59, .bool false), (60, .bool false), (61, v8), (62, v10), (63, .bool true), (64, .bool false), (65, .bool false), (66, .bool false), (67, .pointer (some ⟨R, 0, none⟩)), (68, v68), (69, .string (str (s.A))), (70, .slice A5 M c5), (71, .int .i64 (st : Int)), (72, .slice A5 st c5), (73, .string (str (X.take st))), (74, .bool false), (75, .bool false)] a) w')
    : (Code.region 13 (opsR13 p).toArray true).wp Tryd.prog Q a w := by
  refine (wpIn_wide (n := 1)).1 (wpIn_region_vals 100 hN follows (opsR13_back p) (opsR13_slots p) Grew Grew.refl Grew.trans (psiR13 P w0 R s v8 v10 Xs A5 M c5 st er X) (psiR13_grew P w0 R s v8 v10 Xs A5 M c5 st er X) ?_ ?_)
  · intro i o d ho hd a' w' hF hR hp
    rcases i with _ | _ | _ | _ | _ | _ | _ | _ | _ | _ | _ | _ | _ | _ | _ | _ | _ | _ | _ | i
    · obtain rfl : oR130 p = o := Option.some.inj ho
      obtain rfl : 57 = d := Option.some.inj hd
      exact step_move rfl rfl rfl (hF.at 9 rfl h9) ⟨_, rfl, rfl, Grew.refl _⟩
    · obtain rfl : oR131 p = o := Option.some.inj ho
      obtain rfl : 58 = d := Option.some.inj hd
      exact step_move rfl rfl rfl (hF.at 12 rfl h12) ⟨_, rfl, rfl, Grew.refl _⟩
    · obtain rfl : oR132 p = o := Option.some.inj ho
      obtain rfl : 59 = d := Option.some.inj hd
      have q0 : a'.tmps.getD 57 undef = .int .i64 (er : Int) := hp 0 (oR130 p) 57 rfl rfl rfl
      have q1 : a'.tmps.getD 58 undef = .int .i64 (er : Int) := hp 1 (oR131 p) 58 rfl rfl rfl
      exact step_bin rfl rfl rfl q0 q1 (guard_int _ _ _ _ _ _ _ _ _) ((run_nei6 _ _ _ _).trans (by simp)) ⟨_, rfl, rfl, Grew.refl _⟩
    · obtain rfl : oR133 p = o := Option.some.inj ho
      obtain rfl : 60 = d := Option.some.inj hd
      have q2 : a'.tmps.getD 59 undef = .bool false := hp 2 (oR132 p) 59 rfl rfl rfl
      exact step_move rfl rfl rfl q2 ⟨_, rfl, rfl, Grew.refl _⟩
    · obtain rfl : oR134 p = o := Option.some.inj ho
      obtain rfl : 61 = d := Option.some.inj hd
      have q3 : a'.tmps.getD 60 undef = .bool false := hp 3 (oR133 p) 60 rfl rfl rfl
      exact step_move rfl (wanted_on rfl (show (opsR13 p).toArray[3]? = some (oR133 p) from rfl) rfl q3) rfl (hF.at 8 rfl h8) ⟨_, rfl, rfl, Grew.refl _⟩
    · obtain rfl : oR135 p = o := Option.some.inj ho
      obtain rfl : 62 = d := Option.some.inj hd
      have q3 : a'.tmps.getD 60 undef = .bool false := hp 3 (oR133 p) 60 rfl rfl rfl
      exact step_move rfl (wanted_on rfl (show (opsR13 p).toArray[3]? = some (oR133 p) from rfl) rfl q3) rfl (hF.at 10 rfl h10) ⟨_, rfl, rfl, Grew.refl _⟩
    · obtain rfl : oR136 p = o := Option.some.inj ho
      obtain rfl : 63 = d := Option.some.inj hd
      have q3 : a'.tmps.getD 60 undef = .bool false := hp 3 (oR133 p) 60 rfl rfl rfl
      have q4 : a'.tmps.getD 61 undef = v8 := hp 4 (oR134 p) 61 rfl rfl rfl
      have q5 : a'.tmps.getD 62 undef = v10 := hp 5 (oR135 p) 62 rfl rfl rfl
      refine step_callR rfl (wanted_on rfl (show (opsR13 p).toArray[3]? = some (oR133 p) from rfl) rfl q3) rfl (enters_of Tryd.func15 (by kernel_rfl) rfl) (show Array.map a'.eval #[.tmp 61, .tmp 62] = _ from by simp only [List.map_toArray, List.map_cons, List.map_nil, Act.eval, q4, q5]) ((Same6 v8 v10 Xs Xs _ (hv8.grew hR.undraw) (hv10.grew hR.undraw) hXs).mono ?_)
      rintro e w'' ⟨rfl, hb⟩
      exact ⟨_, rfl, _, rfl, (show Value.bool (Xs == Xs) = .bool true by simp), hb⟩
    · obtain rfl : oR137 p = o := Option.some.inj ho
      obtain rfl : 64 = d := Option.some.inj hd
      have q3 : a'.tmps.getD 60 undef = .bool false := hp 3 (oR133 p) 60 rfl rfl rfl
      have q6 : a'.tmps.getD 63 undef = .bool true := hp 6 (oR136 p) 63 rfl rfl rfl
      exact step_un rfl (wanted_on rfl (show (opsR13 p).toArray[3]? = some (oR133 p) from rfl) rfl q3) rfl q6 (run_not _ _) ⟨_, rfl, rfl, Grew.refl _⟩
    · obtain rfl : oR138 p = o := Option.some.inj ho
      obtain rfl : 65 = d := Option.some.inj hd
      have q3 : a'.tmps.getD 60 undef = .bool false := hp 3 (oR133 p) 60 rfl rfl rfl
      have q7 : a'.tmps.getD 64 undef = .bool false := hp 7 (oR137 p) 64 rfl rfl rfl
      exact step_pick rfl rfl rfl q3 (show (if false = true then _ else a'.tmps.getD 64 undef) = _ from q7) ⟨_, rfl, rfl, Grew.refl _⟩
    · obtain rfl : oR139 p = o := Option.some.inj ho
      obtain rfl : 66 = d := Option.some.inj hd
      have q8 : a'.tmps.getD 65 undef = .bool false := hp 8 (oR138 p) 65 rfl rfl rfl
      exact step_move rfl rfl rfl q8 ⟨_, rfl, rfl, Grew.refl _⟩
    · obtain rfl : oR1310 p = o := Option.some.inj ho
      obtain rfl : 67 = d := Option.some.inj hd
      have q9 : a'.tmps.getD 66 undef = .bool false := hp 9 (oR139 p) 66 rfl rfl rfl
      exact step_move rfl (wanted_on rfl (show (opsR13 p).toArray[9]? = some (oR139 p) from rfl) rfl q9) rfl (hF.at 3 rfl h3) ⟨_, rfl, rfl, Grew.refl _⟩
    · obtain rfl : oR1311 p = o := Option.some.inj ho
      obtain rfl : 68 = d := Option.some.inj hd
      have q9 : a'.tmps.getD 66 undef = .bool false := hp 9 (oR139 p) 66 rfl rfl rfl
      have q10 : a'.tmps.getD 67 undef = .pointer (some ⟨R, 0, none⟩) := hp 10 (oR1310 p) 67 rfl rfl rfl
      refine step_callR rfl (wanted_on rfl (show (opsR13 p).toArray[9]? = some (oR139 p) from rfl) rfl q9) rfl (enters_of Tryd.func10 (by kernel_rfl) rfl) (show Array.map a'.eval #[.tmp 67] = _ from by simp only [List.map_toArray, List.map_cons, List.map_nil, Act.eval, q10]) ((LiveD.bytes (hl.grew hR.undraw)).mono ?_)
      rintro e w'' ⟨v, L, rfl, ho, _, hb⟩
      exact ⟨_, rfl, _, rfl, IsB.own ho, hb⟩
    · obtain rfl : oR1312 p = o := Option.some.inj ho
      obtain rfl : 69 = d := Option.some.inj hd
      have q9 : a'.tmps.getD 66 undef = .bool false := hp 9 (oR139 p) 66 rfl rfl rfl
      have q11 : IsB w' (a'.tmps.getD 68 undef) (s.A) := hp 11 (oR1311 p) 68 rfl rfl rfl
      exact step_conv rfl (wanted_on rfl (show (opsR13 p).toArray[9]? = some (oR139 p) from rfl) rfl q9) rfl (show IsB w' (a'.tmps.getD 68 undef) _ from q11) ⟨_, rfl, rfl, Grew.refl _⟩
    · obtain rfl : oR1313 p = o := Option.some.inj ho
      obtain rfl : 70 = d := Option.some.inj hd
      have q9 : a'.tmps.getD 66 undef = .bool false := hp 9 (oR139 p) 66 rfl rfl rfl
      exact step_move rfl (wanted_on rfl (show (opsR13 p).toArray[9]? = some (oR139 p) from rfl) rfl q9) rfl (hF.at 5 rfl h5) ⟨_, rfl, rfl, Grew.refl _⟩
    · obtain rfl : oR1314 p = o := Option.some.inj ho
      obtain rfl : 71 = d := Option.some.inj hd
      have q9 : a'.tmps.getD 66 undef = .bool false := hp 9 (oR139 p) 66 rfl rfl rfl
      exact step_move rfl (wanted_on rfl (show (opsR13 p).toArray[9]? = some (oR139 p) from rfl) rfl q9) rfl (hF.at 11 rfl h11) ⟨_, rfl, rfl, Grew.refl _⟩
    · obtain rfl : oR1315 p = o := Option.some.inj ho
      obtain rfl : 72 = d := Option.some.inj hd
      have q9 : a'.tmps.getD 66 undef = .bool false := hp 9 (oR139 p) 66 rfl rfl rfl
      have q13 : a'.tmps.getD 70 undef = .slice A5 M c5 := hp 13 (oR1313 p) 70 rfl rfl rfl
      have q14 : a'.tmps.getD 71 undef = .int .i64 (st : Int) := hp 14 (oR1314 p) 71 rfl rfl rfl
      exact step_upto rfl (wanted_on rfl (show (opsR13 p).toArray[9]? = some (oR139 p) from rfl) rfl q9) rfl q13 q14 (run_upto6 _ _ _ _ _ (by omega) (by omega)) ⟨_, rfl, rfl, Grew.refl _⟩
    · obtain rfl : oR1316 p = o := Option.some.inj ho
      obtain rfl : 73 = d := Option.some.inj hd
      have q9 : a'.tmps.getD 66 undef = .bool false := hp 9 (oR139 p) 66 rfl rfl rfl
      have q15 : a'.tmps.getD 72 undef = .slice A5 st c5 := hp 15 (oR1315 p) 72 rfl rfl rfl
      exact step_cv rfl (wanted_on rfl (show (opsR13 p).toArray[9]? = some (oR139 p) from rfl) rfl q9) rfl q15 (run_conv ((HasA.take hA5 st).below' hR.undraw) c5 Tryd.underlying29 Tryd.underlying5 Tryd.underlying9 (by simp; omega)) ⟨_, rfl, rfl, Grew.refl _⟩
    · obtain rfl : oR1317 p = o := Option.some.inj ho
      obtain rfl : 74 = d := Option.some.inj hd
      have q9 : a'.tmps.getD 66 undef = .bool false := hp 9 (oR139 p) 66 rfl rfl rfl
      have q12 : a'.tmps.getD 69 undef = .string (str (s.A)) := hp 12 (oR1312 p) 69 rfl rfl rfl
      have q16 : a'.tmps.getD 73 undef = .string (str (X.take st)) := hp 16 (oR1316 p) 73 rfl rfl rfl
      exact step_bin rfl (wanted_on rfl (show (opsR13 p).toArray[9]? = some (oR139 p) from rfl) rfl q9) rfl q12 q16 (guard_str _ _ _ _ _ _ _) (by rw [run_neq, hX]; simp) ⟨_, rfl, rfl, Grew.refl _⟩
    · obtain rfl : oR1318 p = o := Option.some.inj ho
      obtain rfl : 75 = d := Option.some.inj hd
      have q9 : a'.tmps.getD 66 undef = .bool false := hp 9 (oR139 p) 66 rfl rfl rfl
      have q17 : a'.tmps.getD 74 undef = .bool false := hp 17 (oR1317 p) 74 rfl rfl rfl
      exact step_pick rfl rfl rfl q9 (show (if false = true then _ else a'.tmps.getD 74 undef) = _ from q17) ⟨_, rfl, rfl, Grew.refl _⟩
    · exact absurd ((Array.getElem?_eq_some_iff.1 ho).1) (by simp [opsR13])
  · intro a' w' hF hR hp
    have e0 : psiR13 P w0 R s v8 v10 Xs A5 M c5 st er X 0 (a'.tmps.getD 57 undef) w' := hp 0 (oR130 p) 57 rfl rfl
    have e1 : psiR13 P w0 R s v8 v10 Xs A5 M c5 st er X 1 (a'.tmps.getD 58 undef) w' := hp 1 (oR131 p) 58 rfl rfl
    have e2 : psiR13 P w0 R s v8 v10 Xs A5 M c5 st er X 2 (a'.tmps.getD 59 undef) w' := hp 2 (oR132 p) 59 rfl rfl
    have e3 : psiR13 P w0 R s v8 v10 Xs A5 M c5 st er X 3 (a'.tmps.getD 60 undef) w' := hp 3 (oR133 p) 60 rfl rfl
    have e4 : psiR13 P w0 R s v8 v10 Xs A5 M c5 st er X 4 (a'.tmps.getD 61 undef) w' := hp 4 (oR134 p) 61 rfl rfl
    have e5 : psiR13 P w0 R s v8 v10 Xs A5 M c5 st er X 5 (a'.tmps.getD 62 undef) w' := hp 5 (oR135 p) 62 rfl rfl
    have e6 : psiR13 P w0 R s v8 v10 Xs A5 M c5 st er X 6 (a'.tmps.getD 63 undef) w' := hp 6 (oR136 p) 63 rfl rfl
    have e7 : psiR13 P w0 R s v8 v10 Xs A5 M c5 st er X 7 (a'.tmps.getD 64 undef) w' := hp 7 (oR137 p) 64 rfl rfl
    have e8 : psiR13 P w0 R s v8 v10 Xs A5 M c5 st er X 8 (a'.tmps.getD 65 undef) w' := hp 8 (oR138 p) 65 rfl rfl
    have e9 : psiR13 P w0 R s v8 v10 Xs A5 M c5 st er X 9 (a'.tmps.getD 66 undef) w' := hp 9 (oR139 p) 66 rfl rfl
    have e10 : psiR13 P w0 R s v8 v10 Xs A5 M c5 st er X 10 (a'.tmps.getD 67 undef) w' := hp 10 (oR1310 p) 67 rfl rfl
    have e11 : psiR13 P w0 R s v8 v10 Xs A5 M c5 st er X 11 (a'.tmps.getD 68 undef) w' := hp 11 (oR1311 p) 68 rfl rfl
    have e12 : psiR13 P w0 R s v8 v10 Xs A5 M c5 st er X 12 (a'.tmps.getD 69 undef) w' := hp 12 (oR1312 p) 69 rfl rfl
    have e13 : psiR13 P w0 R s v8 v10 Xs A5 M c5 st er X 13 (a'.tmps.getD 70 undef) w' := hp 13 (oR1313 p) 70 rfl rfl
    have e14 : psiR13 P w0 R s v8 v10 Xs A5 M c5 st er X 14 (a'.tmps.getD 71 undef) w' := hp 14 (oR1314 p) 71 rfl rfl
    have e15 : psiR13 P w0 R s v8 v10 Xs A5 M c5 st er X 15 (a'.tmps.getD 72 undef) w' := hp 15 (oR1315 p) 72 rfl rfl
    have e16 : psiR13 P w0 R s v8 v10 Xs A5 M c5 st er X 16 (a'.tmps.getD 73 undef) w' := hp 16 (oR1316 p) 73 rfl rfl
    have e17 : psiR13 P w0 R s v8 v10 Xs A5 M c5 st er X 17 (a'.tmps.getD 74 undef) w' := hp 17 (oR1317 p) 74 rfl rfl
    have e18 : psiR13 P w0 R s v8 v10 Xs A5 M c5 st er X 18 (a'.tmps.getD 75 undef) w' := hp 18 (oR1318 p) 75 rfl rfl
    rw [hF.puts [(57, .int .i64 (er : Int)), (58, .int .i64 (er : Int)), (59, .bool false), (60, .bool false), (61, v8), (62, v10), (63, .bool true), (64, .bool false), (65, .bool false), (66, .bool false), (67, .pointer (some ⟨R, 0, none⟩)), (68, a'.tmps.getD 68 undef), (69, .string (str (s.A))), (70, .slice A5 M c5), (71, .int .i64 (st : Int)), (72, .slice A5 st c5), (73, .string (str (X.take st))), (74, .bool false), (75, .bool false)] ?_ rfl (by rw [hN]; rfl)]
    · exact hQ _ w' e11 hR.undraw
    · intro x hx
      simp only [List.mem_cons, List.not_mem_nil, or_false] at hx
      rcases hx with rfl | rfl | rfl | rfl | rfl | rfl | rfl | rfl | rfl | rfl | rfl | rfl | rfl | rfl | rfl | rfl | rfl | rfl | rfl
      · exact e0
      · exact e1
      · exact e2
      · exact e3
      · exact e4
      · exact e5
      · exact e6
      · exact e7
      · exact e8
      · exact e9
      · exact e10
      · exact rfl
      · exact e12
      · exact e13
      · exact e14
      · exact e15
      · exact e16
      · exact e17
      · exact e18
end Go.Proofs.YtoplocnkpljofaaDoor
