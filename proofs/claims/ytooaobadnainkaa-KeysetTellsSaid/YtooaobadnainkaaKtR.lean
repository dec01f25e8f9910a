/- add's two open statements, whatever their order of evaluation. -/
import Derived.Test.YtooaobadnainkaaKtC
import Derived.Test.YtooaobadnainkaaStepF
import Derived.Test.YtooaobadnainkaaStore
namespace Go.Proofs.Ytooaobadnainkaa
open Go.RowKit

theorem run_fdP2 (w : World) (b : Nat) : (Instr.fieldAt 47 (.pointer (some ⟨b, 0, none⟩)) 2).run Try.prog w = .ok (.pointer (some ⟨b, 2, none⟩)) w := by
  simp [go_sem]
theorem run_fdP3 (w : World) (b : Nat) : (Instr.fieldAt 47 (.pointer (some ⟨b, 0, none⟩)) 3).run Try.prog w = .ok (.pointer (some ⟨b, 3, none⟩)) w := by
  simp [go_sem]
theorem run_fdC0 (w : World) (b : Nat) : (Instr.fieldAt 31 (.pointer (some ⟨b, 0, none⟩)) 0).run Try.prog w = .ok (.pointer (some ⟨b, 0, none⟩)) w := by
  simp [go_sem]
theorem run_ldIW (w : World) (p : Addr) (v : Int) (h : w.cell? p = some (.int .i64 v)) : (Instr.loadAt 3 (.pointer (some p))).run Try.prog w = .ok (.int .i64 v) w := by
  simp [go_sem, h]
theorem run_ldUW (w : World) (p : Addr) (v : Int) (h : w.cell? p = some (.int .u32 v)) : (Instr.loadAt 28 (.pointer (some p))).run Try.prog w = .ok (.int .u32 v) w := by
  simp [go_sem, h]
theorem run_ldMW (w : World) (p : Addr) (b : Option Nat) (h : w.cell? p = some (.map b)) : (Instr.loadAt 45 (.pointer (some p))).run Try.prog w = .ok (.map b) w := by
  simp [go_sem, h]
theorem run_maxN (ts : Array TypeId) (t : TypeId) (w : World) (a b : Nat) : (Builtin.max_ ts t #[.int .i64 (a : Int), .int .i64 (b : Int)]).run Try.prog w = .ok (.int .i64 ((max a b : Nat) : Int)) w := by
  rw [show ((max a b : Nat) : Int) = if (b : Int) > a then (b : Int) else a by split <;> omega]
  simp [Builtin.max_, Builtin.max2]
def oKtA0 (p : String) : Oper := { dst := some 21, op := Op.move (Operand.tmp 0), type := 37, pos := p, after := #[], guard := none }
def oKtA1 (p : String) : Oper := { dst := some 22, op := Op.nilCheck (Operand.tmp 21), type := 0, pos := p, after := #[{ on := 0, ground := Ground.data }], guard := none }
def oKtA2 (p : String) : Oper := { dst := some 23, op := Op.fieldAddr 47 (Operand.tmp 22) 3, type := 0, pos := p, after := #[{ on := 1, ground := Ground.data }], guard := none }
def oKtA3 (p : String) : Oper := { dst := some 24, op := Op.load 3 (Operand.tmp 23), type := 3, pos := p, after := #[{ on := 2, ground := Ground.data }], guard := none }
def oKtA4 (p : String) : Oper := { dst := some 25, op := Op.move (Operand.tmp 0), type := 37, pos := p, after := #[], guard := none }
def oKtA5 (p : String) : Oper := { dst := some 26, op := Op.nilCheck (Operand.tmp 25), type := 0, pos := p, after := #[{ on := 4, ground := Ground.data }], guard := none }
def oKtA6 (p : String) : Oper := { dst := some 27, op := Op.fieldAddr 47 (Operand.tmp 26) 2, type := 0, pos := p, after := #[{ on := 5, ground := Ground.data }], guard := none }
def oKtA7 (p : String) : Oper := { dst := some 28, op := Op.load 45 (Operand.tmp 27), type := 45, pos := p, after := #[{ on := 6, ground := Ground.data }], guard := none }
def oKtA8 (p : String) : Oper := { dst := some 29, op := Op.fieldAddr 31 (Operand.tmp 3) 0, type := 0, pos := p, after := #[], guard := none }
def oKtA9 (p : String) : Oper := { dst := some 30, op := Op.load 28 (Operand.tmp 29), type := 28, pos := p, after := #[{ on := 8, ground := Ground.data }], guard := none }
def oKtA10 (p : String) : Oper := { dst := some 31, op := Op.call { callee := Callee.value (Operand.func 23), args := #[Operand.tmp 28, Operand.tmp 30], argTypes := #[45, 28] }, type := 3, pos := p, after := #[{ on := 7, ground := Ground.data }, { on := 9, ground := Ground.data }], guard := none }
def oKtA11 (p : String) : Oper := { dst := some 32, op := Op.call { callee := Callee.builtin Builtin.max, args := #[Operand.tmp 24, Operand.tmp 31], argTypes := #[3, 3] }, type := 3, pos := p, after := #[{ on := 3, ground := Ground.data }, { on := 10, ground := Ground.data }], guard := none }
def oKtA12 (p : String) : Oper := { dst := some 6, op := Op.assign (Operand.tmp 32), type := 3, pos := p, after := #[{ on := 11, ground := Ground.data }, { on := 10, ground := Ground.chain }, { on := 0, ground := Ground.phase }, { on := 1, ground := Ground.phase }, { on := 2, ground := Ground.phase }, { on := 3, ground := Ground.phase }, { on := 4, ground := Ground.phase }, { on := 5, ground := Ground.phase }, { on := 6, ground := Ground.phase }, { on := 7, ground := Ground.phase }, { on := 8, ground := Ground.phase }, { on := 9, ground := Ground.phase }, { on := 10, ground := Ground.phase }, { on := 11, ground := Ground.phase }], guard := none }
def opsKtA (p : String) : List Oper := [oKtA0 p, oKtA1 p, oKtA2 p, oKtA3 p, oKtA4 p, oKtA5 p, oKtA6 p, oKtA7 p, oKtA8 p, oKtA9 p, oKtA10 p, oKtA11 p, oKtA12 p]
theorem opsKtA_back (p : String) : backwards (opsKtA p) = true := by kernel_rfl
theorem opsKtA_slots (p : String) : slotsOk 79 (opsKtA p) = true := by kernel_rfl
/-- What each slot comes to. -/
def psiKtA (R q bc cl s1 s2 : Nat) : Nat → Value → World → Prop
  | 0, v, _ => v = .pointer (some ⟨R, 0, none⟩)
  | 1, v, _ => v = .pointer (some ⟨R, 0, none⟩)
  | 2, v, _ => v = .pointer (some ⟨R, 3, none⟩)
  | 3, v, _ => v = .int .i64 (s1 : Int)
  | 4, v, _ => v = .pointer (some ⟨R, 0, none⟩)
  | 5, v, _ => v = .pointer (some ⟨R, 0, none⟩)
  | 6, v, _ => v = .pointer (some ⟨R, 2, none⟩)
  | 7, v, _ => v = .map (some bc)
  | 8, v, _ => v = .pointer (some ⟨q, 0, none⟩)
  | 9, v, _ => v = .int .u32 (cl : Int)
  | 10, v, _ => v = .int .i64 (s2 : Int)
  | 11, v, _ => v = .int .i64 ((max s1 s2 : Nat) : Int)
  | 12, v, _ => v = .int .i64 ((max s1 s2 : Nat) : Int)
  | _, _, _ => True
theorem psiKtA_grew (R q bc cl s1 s2 : Nat) : ∀ i v w w', psiKtA R q bc cl s1 s2 i v w → Grew w w' → psiKtA R q bc cl s1 s2 i v w' := by
  intro i v w w' h hg
  rcases i with _ | _ | _ | _ | _ | _ | _ | _ | _ | _ | _ | _ | _ | i
  · exact h
  · exact h
  · exact h
  · exact h
  · exact h
  · exact h
  · exact h
  · exact h
  · exact h
  · exact h
  · exact h
  · exact h
  · exact h
  · trivial
set_option maxRecDepth 100000 in
set_option maxHeartbeats 4000000 in
theorem ktwave {p : String} (R q bc cl s1 s2 : Nat)  (a : Act) (w : World) (Q : Exit → Act → World → Prop) (hN : a.tmps.size = 79) (h0 : a.tmps.getD 0 undef = .pointer (some ⟨R, 0, none⟩)) (h3 : a.tmps.getD 3 undef = .pointer (some ⟨q, 0, none⟩)) (hRl : R < w.heap.size) (hql : q < w.heap.size) (hR3 : w.cell? ⟨R, 3, none⟩ = some (.int .i64 (s1 : Int))) (hR2 : w.cell? ⟨R, 2, none⟩ = some (.map (some bc))) (hq0 : w.cell? ⟨q, 0, none⟩ = some (.int .u32 (cl : Int))) (hB : ∀ w', Grew w w' → Calls Try.prog 23 #[.map (some bc), .int .u32 (cl : Int)] w' fun e W' => e = .returned (.int .i64 (s2 : Int)) ∧ W' = w') (hQ : ∀ (w' : World), Grew w w' → Q .normal (puts [(21, .pointer (some ⟨R, 0, none⟩)), (22, .pointer (some ⟨R, 0, none⟩)), (23, .pointer (some ⟨R, 3, none⟩)), (24, .int .i64 (s1 : Int)), (25, .pointer (some ⟨R, 0, none⟩)), (26, .pointer (some ⟨R, 0, none⟩)), (27, .pointer (some ⟨R, 2, none⟩)), (28, .map (some bc)), (29, .pointer (some ⟨q, 0, none⟩)), (30, .int .u32 (cl : Int)), (31, .int .i64 (s2 : Int)), (32, .int .i64 ((max s1 s2 : Nat) : Int)), (6, .int .i64 ((max s1 s2 : Nat) : Int))] a) w')
    : (Code.region 4 (opsKtA p).toArray true).wp Try.prog Q a w := by
  refine (wpIn_wide (n := 1)).1 (wpIn_region_vals 79 hN follows (opsKtA_back p) (opsKtA_slots p) Grew Grew.refl Grew.trans (psiKtA R q bc cl s1 s2) (psiKtA_grew R q bc cl s1 s2) ?_ ?_)
  · intro i o d ho hd a' w' hF hR hp
    rcases i with _ | _ | _ | _ | _ | _ | _ | _ | _ | _ | _ | _ | _ | i
    · obtain rfl : oKtA0 p = o := Option.some.inj ho
      obtain rfl : 21 = d := Option.some.inj hd
      exact step_move rfl rfl rfl (hF.at 0 rfl h0) ⟨_, rfl, rfl, Grew.refl _⟩
    · obtain rfl : oKtA1 p = o := Option.some.inj ho
      obtain rfl : 22 = d := Option.some.inj hd
      have q0 : a'.tmps.getD 21 undef = .pointer (some ⟨R, 0, none⟩) := hp 0 (oKtA0 p) 21 rfl rfl rfl
      exact step_nilCheckF rfl rfl rfl q0 (trivial) ⟨_, rfl, rfl, Grew.refl _⟩
    · obtain rfl : oKtA2 p = o := Option.some.inj ho
      obtain rfl : 23 = d := Option.some.inj hd
      have q1 : a'.tmps.getD 22 undef = .pointer (some ⟨R, 0, none⟩) := hp 1 (oKtA1 p) 22 rfl rfl rfl
      exact step_fieldF rfl rfl rfl q1 (run_fdP3 _ _) ⟨_, rfl, rfl, Grew.refl _⟩
    · obtain rfl : oKtA3 p = o := Option.some.inj ho
      obtain rfl : 24 = d := Option.some.inj hd
      have q2 : a'.tmps.getD 23 undef = .pointer (some ⟨R, 3, none⟩) := hp 2 (oKtA2 p) 23 rfl rfl rfl
      exact step_load rfl rfl rfl q2 (run_ldIW _ _ _ ((Below.cell hR.undraw (p := ⟨R, 3, none⟩) hRl).trans hR3)) ⟨_, rfl, rfl, Grew.refl _⟩
    · obtain rfl : oKtA4 p = o := Option.some.inj ho
      obtain rfl : 25 = d := Option.some.inj hd
      exact step_move rfl rfl rfl (hF.at 0 rfl h0) ⟨_, rfl, rfl, Grew.refl _⟩
    · obtain rfl : oKtA5 p = o := Option.some.inj ho
      obtain rfl : 26 = d := Option.some.inj hd
      have q4 : a'.tmps.getD 25 undef = .pointer (some ⟨R, 0, none⟩) := hp 4 (oKtA4 p) 25 rfl rfl rfl
      exact step_nilCheckF rfl rfl rfl q4 (trivial) ⟨_, rfl, rfl, Grew.refl _⟩
    · obtain rfl : oKtA6 p = o := Option.some.inj ho
      obtain rfl : 27 = d := Option.some.inj hd
      have q5 : a'.tmps.getD 26 undef = .pointer (some ⟨R, 0, none⟩) := hp 5 (oKtA5 p) 26 rfl rfl rfl
      exact step_fieldF rfl rfl rfl q5 (run_fdP2 _ _) ⟨_, rfl, rfl, Grew.refl _⟩
    · obtain rfl : oKtA7 p = o := Option.some.inj ho
      obtain rfl : 28 = d := Option.some.inj hd
      have q6 : a'.tmps.getD 27 undef = .pointer (some ⟨R, 2, none⟩) := hp 6 (oKtA6 p) 27 rfl rfl rfl
      exact step_load rfl rfl rfl q6 (run_ldMW _ _ _ ((Below.cell hR.undraw (p := ⟨R, 2, none⟩) hRl).trans hR2)) ⟨_, rfl, rfl, Grew.refl _⟩
    · obtain rfl : oKtA8 p = o := Option.some.inj ho
      obtain rfl : 29 = d := Option.some.inj hd
      exact step_fieldF rfl rfl rfl (hF.at 3 rfl h3) (run_fdC0 _ _) ⟨_, rfl, rfl, Grew.refl _⟩
    · obtain rfl : oKtA9 p = o := Option.some.inj ho
      obtain rfl : 30 = d := Option.some.inj hd
      have q8 : a'.tmps.getD 29 undef = .pointer (some ⟨q, 0, none⟩) := hp 8 (oKtA8 p) 29 rfl rfl rfl
      exact step_load rfl rfl rfl q8 (run_ldUW _ _ _ ((Below.cell hR.undraw (p := ⟨q, 0, none⟩) hql).trans hq0)) ⟨_, rfl, rfl, Grew.refl _⟩
    · obtain rfl : oKtA10 p = o := Option.some.inj ho
      obtain rfl : 31 = d := Option.some.inj hd
      have q7 : a'.tmps.getD 28 undef = .map (some bc) := hp 7 (oKtA7 p) 28 rfl rfl rfl
      have q9 : a'.tmps.getD 30 undef = .int .u32 (cl : Int) := hp 9 (oKtA9 p) 30 rfl rfl rfl
      refine step_callD rfl rfl rfl (enters_of Try.func23 (by kernel_rfl) rfl) (show Array.map a'.eval #[.tmp 28, .tmp 30] = _ from by simp only [List.map_toArray, List.map_cons, List.map_nil, Act.eval, q7, q9]) ((hB w' hR.undraw).mono ?_)
      rintro e w'' ⟨rfl, rfl⟩
      exact ⟨_, rfl, _, rfl, rfl, Below.refl _ _⟩
    · obtain rfl : oKtA11 p = o := Option.some.inj ho
      obtain rfl : 32 = d := Option.some.inj hd
      have q3 : a'.tmps.getD 24 undef = .int .i64 (s1 : Int) := hp 3 (oKtA3 p) 24 rfl rfl rfl
      have q10 : a'.tmps.getD 31 undef = .int .i64 (s2 : Int) := hp 10 (oKtA10 p) 31 rfl rfl rfl
      refine step_run (o := oKtA11 p) (v := .int .i64 ((max s1 s2 : Nat) : Int)) (w' := w') rfl rfl (by intro c h; cases h) (by simp [Oper.about, oKtA11, resolve, Target.leads, Sem.run_pure]) (by
        unfold execOp
        simp only [oKtA11, resolve, invoke, builtin, Sem.run_bind, Sem.run_pure, Result.andThen_ok, List.map_toArray, List.map_cons, List.map_nil, Act.eval, q3, q10, run_maxN]) ⟨_, rfl, rfl, Grew.refl _⟩
    · obtain rfl : oKtA12 p = o := Option.some.inj ho
      obtain rfl : 6 = d := Option.some.inj hd
      have q11 : a'.tmps.getD 32 undef = .int .i64 ((max s1 s2 : Nat) : Int) := hp 11 (oKtA11 p) 32 rfl rfl rfl
      exact step_assign rfl rfl rfl q11 ⟨_, rfl, rfl, Grew.refl _⟩
    · exact absurd ((Array.getElem?_eq_some_iff.1 ho).1) (by simp [opsKtA])
  · intro a' w' hF hR hp
    have e0 : psiKtA R q bc cl s1 s2 0 (a'.tmps.getD 21 undef) w' := hp 0 (oKtA0 p) 21 rfl rfl
    have e1 : psiKtA R q bc cl s1 s2 1 (a'.tmps.getD 22 undef) w' := hp 1 (oKtA1 p) 22 rfl rfl
    have e2 : psiKtA R q bc cl s1 s2 2 (a'.tmps.getD 23 undef) w' := hp 2 (oKtA2 p) 23 rfl rfl
    have e3 : psiKtA R q bc cl s1 s2 3 (a'.tmps.getD 24 undef) w' := hp 3 (oKtA3 p) 24 rfl rfl
    have e4 : psiKtA R q bc cl s1 s2 4 (a'.tmps.getD 25 undef) w' := hp 4 (oKtA4 p) 25 rfl rfl
    have e5 : psiKtA R q bc cl s1 s2 5 (a'.tmps.getD 26 undef) w' := hp 5 (oKtA5 p) 26 rfl rfl
    have e6 : psiKtA R q bc cl s1 s2 6 (a'.tmps.getD 27 undef) w' := hp 6 (oKtA6 p) 27 rfl rfl
    have e7 : psiKtA R q bc cl s1 s2 7 (a'.tmps.getD 28 undef) w' := hp 7 (oKtA7 p) 28 rfl rfl
    have e8 : psiKtA R q bc cl s1 s2 8 (a'.tmps.getD 29 undef) w' := hp 8 (oKtA8 p) 29 rfl rfl
    have e9 : psiKtA R q bc cl s1 s2 9 (a'.tmps.getD 30 undef) w' := hp 9 (oKtA9 p) 30 rfl rfl
    have e10 : psiKtA R q bc cl s1 s2 10 (a'.tmps.getD 31 undef) w' := hp 10 (oKtA10 p) 31 rfl rfl
    have e11 : psiKtA R q bc cl s1 s2 11 (a'.tmps.getD 32 undef) w' := hp 11 (oKtA11 p) 32 rfl rfl
    have e12 : psiKtA R q bc cl s1 s2 12 (a'.tmps.getD 6 undef) w' := hp 12 (oKtA12 p) 6 rfl rfl
    rw [hF.puts [(21, .pointer (some ⟨R, 0, none⟩)), (22, .pointer (some ⟨R, 0, none⟩)), (23, .pointer (some ⟨R, 3, none⟩)), (24, .int .i64 (s1 : Int)), (25, .pointer (some ⟨R, 0, none⟩)), (26, .pointer (some ⟨R, 0, none⟩)), (27, .pointer (some ⟨R, 2, none⟩)), (28, .map (some bc)), (29, .pointer (some ⟨q, 0, none⟩)), (30, .int .u32 (cl : Int)), (31, .int .i64 (s2 : Int)), (32, .int .i64 ((max s1 s2 : Nat) : Int)), (6, .int .i64 ((max s1 s2 : Nat) : Int))] ?_ rfl (by rw [hN]; rfl)]
    · exact hQ  w'  hR.undraw
    · intro x hx
      simp only [List.mem_cons, List.not_mem_nil, or_false] at hx
      rcases hx with rfl | rfl | rfl | rfl | rfl | rfl | rfl | rfl | rfl | rfl | rfl | rfl | rfl
      · exact e0
      · exact e1
      · exact e2
      · exact e3
      · exact e4
      · exact e5
      · exact e6
      · exact e7
      · exact e8
      · exact e9
      · exact e10
      · exact e11
      · exact e12
def oKtB0 (p : String) : Oper := { dst := some 48, op := Op.move (Operand.tmp 0), type := 37, pos := p, after := #[], guard := none }
def oKtB1 (p : String) : Oper := { dst := some 49, op := Op.nilCheck (Operand.tmp 48), type := 0, pos := p, after := #[{ on := 0, ground := Ground.data }], guard := none }
def oKtB2 (p : String) : Oper := { dst := some 50, op := Op.fieldAddr 47 (Operand.tmp 49) 2, type := 0, pos := p, after := #[{ on := 1, ground := Ground.data }], guard := none }
def oKtB3 (p : String) : Oper := { dst := some 51, op := Op.load 45 (Operand.tmp 50), type := 45, pos := p, after := #[{ on := 2, ground := Ground.data }], guard := none }
def oKtB4 (p : String) : Oper := { dst := some 52, op := Op.fieldAddr 31 (Operand.tmp 3) 0, type := 0, pos := p, after := #[], guard := none }
def oKtB5 (p : String) : Oper := { dst := some 53, op := Op.load 28 (Operand.tmp 52), type := 28, pos := p, after := #[{ on := 4, ground := Ground.data }], guard := none }
def oKtB6 (p : String) : Oper := { dst := some 54, op := Op.move (Operand.tmp 6), type := 3, pos := p, after := #[], guard := none }
def opsKtB (p : String) : List Oper := [oKtB0 p, oKtB1 p, oKtB2 p, oKtB3 p, oKtB4 p, oKtB5 p, oKtB6 p]
def oKtBL (p : String) : Oper := { dst := none, op := Op.mapUpdate 45 (Operand.tmp 51) (Operand.tmp 53) (Operand.tmp 54), type := 0, pos := p, after := #[{ on := 3, ground := Ground.data }, { on := 5, ground := Ground.data }, { on := 6, ground := Ground.data }, { on := 0, ground := Ground.phase }, { on := 1, ground := Ground.phase }, { on := 2, ground := Ground.phase }, { on := 3, ground := Ground.phase }, { on := 4, ground := Ground.phase }, { on := 5, ground := Ground.phase }, { on := 6, ground := Ground.phase }], guard := none }
theorem opsKtB_back (p : String) : backwards (opsKtB p ++ [oKtBL p]) = true := by kernel_rfl
theorem opsKtB_all (p : String) : ((List.range (opsKtB p).length).all (hasEdge (oKtBL p))) = true := by kernel_rfl
theorem opsKtB_slots (p : String) : slotsOk 79 (opsKtB p) = true := by kernel_rfl
/-- What each slot comes to. -/
def psiKtB (R q bc cl x : Nat) : Nat → Value → World → Prop
  | 0, v, _ => v = .pointer (some ⟨R, 0, none⟩)
  | 1, v, _ => v = .pointer (some ⟨R, 0, none⟩)
  | 2, v, _ => v = .pointer (some ⟨R, 2, none⟩)
  | 3, v, _ => v = .map (some bc)
  | 4, v, _ => v = .pointer (some ⟨q, 0, none⟩)
  | 5, v, _ => v = .int .u32 (cl : Int)
  | 6, v, _ => v = .int .i64 (x : Int)
  | _, _, _ => True
theorem psiKtB_grew (R q bc cl x : Nat) : ∀ i v w w', psiKtB R q bc cl x i v w → Grew w w' → psiKtB R q bc cl x i v w' := by
  intro i v w w' h hg
  rcases i with _ | _ | _ | _ | _ | _ | _ | i
  · exact h
  · exact h
  · exact h
  · exact h
  · exact h
  · exact h
  · exact h
  · trivial
set_option maxRecDepth 100000 in
set_option maxHeartbeats 4000000 in
theorem ktclient {p : String} (R q bc cl x : Nat) (Pq : World → World → Prop) (a : Act) (w : World) (Q : Exit → Act → World → Prop) (hN : a.tmps.size = 79) (h0 : a.tmps.getD 0 undef = .pointer (some ⟨R, 0, none⟩)) (h3 : a.tmps.getD 3 undef = .pointer (some ⟨q, 0, none⟩)) (h6 : a.tmps.getD 6 undef = .int .i64 (x : Int)) (hRl : R < w.heap.size) (hql : q < w.heap.size) (hR2 : w.cell? ⟨R, 2, none⟩ = some (.map (some bc))) (hq0 : w.cell? ⟨q, 0, none⟩ = some (.int .u32 (cl : Int))) (hP : ∀ w', Grew w w' → ∃ W3, (Instr.mapUpdate 45 (.map (some bc)) (.int .u32 (cl : Int)) (.int .i64 (x : Int))).run Try.prog w' = .ok () W3 ∧ Pq w' W3) (hQ : ∀ (w' W3 : World), Grew w w' → Pq w' W3 → Q .normal (puts [(48, .pointer (some ⟨R, 0, none⟩)), (49, .pointer (some ⟨R, 0, none⟩)), (50, .pointer (some ⟨R, 2, none⟩)), (51, .map (some bc)), (52, .pointer (some ⟨q, 0, none⟩)), (53, .int .u32 (cl : Int)), (54, .int .i64 (x : Int))] a) (W3))
    : (Code.region 10 (opsKtB p ++ [oKtBL p]).toArray true).wp Try.prog Q a w := by
  refine (wpIn_wide (n := 1)).1 (wpIn_region_store 79 hN follows (opsKtB_back p) (opsKtB_slots p) (opsKtB_all p) Grew Grew.refl Grew.trans (psiKtB R q bc cl x) (psiKtB_grew R q bc cl x) ?_ ?_)
  · intro i o d ho hd a' w' hF hR hp
    rcases i with _ | _ | _ | _ | _ | _ | _ | i
    · obtain rfl : oKtB0 p = o := Option.some.inj ho
      obtain rfl : 48 = d := Option.some.inj hd
      exact step_move rfl rfl rfl (hF.at 0 rfl h0) ⟨_, rfl, rfl, Grew.refl _⟩
    · obtain rfl : oKtB1 p = o := Option.some.inj ho
      obtain rfl : 49 = d := Option.some.inj hd
      have q0 : a'.tmps.getD 48 undef = .pointer (some ⟨R, 0, none⟩) := hp 0 (oKtB0 p) 48 rfl rfl rfl
      exact step_nilCheckF rfl rfl rfl q0 (trivial) ⟨_, rfl, rfl, Grew.refl _⟩
    · obtain rfl : oKtB2 p = o := Option.some.inj ho
      obtain rfl : 50 = d := Option.some.inj hd
      have q1 : a'.tmps.getD 49 undef = .pointer (some ⟨R, 0, none⟩) := hp 1 (oKtB1 p) 49 rfl rfl rfl
      exact step_fieldF rfl rfl rfl q1 (run_fdP2 _ _) ⟨_, rfl, rfl, Grew.refl _⟩
    · obtain rfl : oKtB3 p = o := Option.some.inj ho
      obtain rfl : 51 = d := Option.some.inj hd
      have q2 : a'.tmps.getD 50 undef = .pointer (some ⟨R, 2, none⟩) := hp 2 (oKtB2 p) 50 rfl rfl rfl
      exact step_load rfl rfl rfl q2 (run_ldMW _ _ _ ((Below.cell hR.undraw (p := ⟨R, 2, none⟩) hRl).trans hR2)) ⟨_, rfl, rfl, Grew.refl _⟩
    · obtain rfl : oKtB4 p = o := Option.some.inj ho
      obtain rfl : 52 = d := Option.some.inj hd
      exact step_fieldF rfl rfl rfl (hF.at 3 rfl h3) (run_fdC0 _ _) ⟨_, rfl, rfl, Grew.refl _⟩
    · obtain rfl : oKtB5 p = o := Option.some.inj ho
      obtain rfl : 53 = d := Option.some.inj hd
      have q4 : a'.tmps.getD 52 undef = .pointer (some ⟨q, 0, none⟩) := hp 4 (oKtB4 p) 52 rfl rfl rfl
      exact step_load rfl rfl rfl q4 (run_ldUW _ _ _ ((Below.cell hR.undraw (p := ⟨q, 0, none⟩) hql).trans hq0)) ⟨_, rfl, rfl, Grew.refl _⟩
    · obtain rfl : oKtB6 p = o := Option.some.inj ho
      obtain rfl : 54 = d := Option.some.inj hd
      exact step_move rfl rfl rfl (hF.at 6 rfl h6) ⟨_, rfl, rfl, Grew.refl _⟩
    · exact absurd ((Array.getElem?_eq_some_iff.1 ho).1) (by simp [opsKtB])
  · intro a' w' hF hR hp
    have e0 : psiKtB R q bc cl x 0 (a'.tmps.getD 48 undef) w' := hp 0 (oKtB0 p) 48 rfl rfl
    have e1 : psiKtB R q bc cl x 1 (a'.tmps.getD 49 undef) w' := hp 1 (oKtB1 p) 49 rfl rfl
    have e2 : psiKtB R q bc cl x 2 (a'.tmps.getD 50 undef) w' := hp 2 (oKtB2 p) 50 rfl rfl
    have e3 : psiKtB R q bc cl x 3 (a'.tmps.getD 51 undef) w' := hp 3 (oKtB3 p) 51 rfl rfl
    have e4 : psiKtB R q bc cl x 4 (a'.tmps.getD 52 undef) w' := hp 4 (oKtB4 p) 52 rfl rfl
    have e5 : psiKtB R q bc cl x 5 (a'.tmps.getD 53 undef) w' := hp 5 (oKtB5 p) 53 rfl rfl
    have e6 : psiKtB R q bc cl x 6 (a'.tmps.getD 54 undef) w' := hp 6 (oKtB6 p) 54 rfl rfl
    have hput : a' = puts [(48, .pointer (some ⟨R, 0, none⟩)), (49, .pointer (some ⟨R, 0, none⟩)), (50, .pointer (some ⟨R, 2, none⟩)), (51, .map (some bc)), (52, .pointer (some ⟨q, 0, none⟩)), (53, .int .u32 (cl : Int)), (54, .int .i64 (x : Int))] a := hF.puts [(48, .pointer (some ⟨R, 0, none⟩)), (49, .pointer (some ⟨R, 0, none⟩)), (50, .pointer (some ⟨R, 2, none⟩)), (51, .map (some bc)), (52, .pointer (some ⟨q, 0, none⟩)), (53, .int .u32 (cl : Int)), (54, .int .i64 (x : Int))] (by
      intro x hx
      simp only [List.mem_cons, List.not_mem_nil, or_false] at hx
      rcases hx with rfl | rfl | rfl | rfl | rfl | rfl | rfl
      · exact e0
      · exact e1
      · exact e2
      · exact e3
      · exact e4
      · exact e5
      · exact e6) rfl (by rw [hN]; rfl)
    obtain ⟨W3, hst, hp3⟩ := hP w' hR.undraw
    have hx1 : a'.eval (.tmp 51) = .map (some bc) := e3
    have hx2 : a'.eval (.tmp 53) = .int .u32 (cl : Int) := e5
    have hx3 : a'.eval (.tmp 54) = .int .i64 (x : Int) := e6
    refine step_skip (o := oKtBL p) (w' := W3) rfl rfl (by intro c h; cases h) (by simp [Oper.about, oKtBL]) (by
      unfold execOp
      simp only [oKtBL, hx1, hx2, hx3, Sem.run_bind, hst, Result.andThen_ok]
      rfl) ?_
    show Q .normal a' _
    rw [hput]
    exact hQ w' W3 hR.undraw hp3
end Go.Proofs.Ytooaobadnainkaa
