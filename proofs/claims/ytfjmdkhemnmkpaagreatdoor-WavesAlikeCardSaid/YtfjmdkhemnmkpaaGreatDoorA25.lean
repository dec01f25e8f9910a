/- Parts of the proof: KtR, KtE. -/
import Derived.Test.YtfjmdkhemnmkpaaGreatDoorA13
import Derived.Test.YtfjmdkhemnmkpaaGreatDoorA10
import Derived.Test.YtfjmdkhemnmkpaaGreatDoorA02
import Derived.Test.YtfjmdkhemnmkpaaGreatDoorA24
import Derived.Deep.DeepCutAuto
namespace Go.Proofs.YtfjmdkhemnmkpaaGreatDoor
open Go.RowKit
theorem run_fdP2 (w : World) (b : Nat) : (Instr.fieldAt 190 (.pointer (some ⟨b, 0, none⟩)) 2).run Tryz.prog w = .ok (.pointer (some ⟨b, 2, none⟩)) w := by
  simp [go_sem]
theorem run_fdP3 (w : World) (b : Nat) : (Instr.fieldAt 190 (.pointer (some ⟨b, 0, none⟩)) 3).run Tryz.prog w = .ok (.pointer (some ⟨b, 3, none⟩)) w := by
  simp [go_sem]
theorem run_fdCW (w : World) (b : Nat) : (Instr.fieldAt 57 (.pointer (some ⟨b, 0, none⟩)) 0).run Tryz.prog w = .ok (.pointer (some ⟨b, 0, none⟩)) w := by
  simp [go_sem]
theorem run_ldIW (w : World) (p : Addr) (v : Int) (h : w.cell? p = some (.int .i64 v)) : (Instr.loadAt 3 (.pointer (some p))).run Tryz.prog w = .ok (.int .i64 v) w := by
  simp [go_sem, h]
theorem run_ldUW (w : World) (p : Addr) (v : Int) (h : w.cell? p = some (.int .u32 v)) : (Instr.loadAt 54 (.pointer (some p))).run Tryz.prog w = .ok (.int .u32 v) w := by
  simp [go_sem, h]
theorem run_ldMW (w : World) (p : Addr) (b : Option Nat) (h : w.cell? p = some (.map b)) : (Instr.loadAt 188 (.pointer (some p))).run Tryz.prog w = .ok (.map b) w := by
  simp [go_sem, h]
theorem run_maxN (ts : Array TypeId) (t : TypeId) (w : World) (a b : Nat) : (Builtin.max_ ts t #[.int .i64 (a : Int), .int .i64 (b : Int)]).run Tryz.prog w = .ok (.int .i64 ((max a b : Nat) : Int)) w := by
  rw [show ((max a b : Nat) : Int) = if (b : Int) > a then (b : Int) else a by split <;> omega]
  simp [Builtin.max_, Builtin.max2]
def oKtA0 (p : String) : Oper := { dst := some 21, op := Op.move (Operand.tmp 0), type := 164, pos := p, after := #[], guard := none }
def oKtA1 (p : String) : Oper := { dst := some 22, op := Op.nilCheck (Operand.tmp 21), type := 0, pos := p, after := #[{ on := 0, ground := Ground.data }], guard := none }
def oKtA2 (p : String) : Oper := { dst := some 23, op := Op.fieldAddr 190 (Operand.tmp 22) 3, type := 0, pos := p, after := #[{ on := 1, ground := Ground.data }], guard := none }
def oKtA3 (p : String) : Oper := { dst := some 24, op := Op.load 3 (Operand.tmp 23), type := 3, pos := p, after := #[{ on := 2, ground := Ground.data }], guard := none }
def oKtA4 (p : String) : Oper := { dst := some 25, op := Op.move (Operand.tmp 0), type := 164, pos := p, after := #[], guard := none }
def oKtA5 (p : String) : Oper := { dst := some 26, op := Op.nilCheck (Operand.tmp 25), type := 0, pos := p, after := #[{ on := 4, ground := Ground.data }], guard := none }
def oKtA6 (p : String) : Oper := { dst := some 27, op := Op.fieldAddr 190 (Operand.tmp 26) 2, type := 0, pos := p, after := #[{ on := 5, ground := Ground.data }], guard := none }
def oKtA7 (p : String) : Oper := { dst := some 28, op := Op.load 188 (Operand.tmp 27), type := 188, pos := p, after := #[{ on := 6, ground := Ground.data }], guard := none }
def oKtA8 (p : String) : Oper := { dst := some 29, op := Op.fieldAddr 57 (Operand.tmp 3) 0, type := 0, pos := p, after := #[], guard := none }
def oKtA9 (p : String) : Oper := { dst := some 30, op := Op.load 54 (Operand.tmp 29), type := 54, pos := p, after := #[{ on := 8, ground := Ground.data }], guard := none }
def oKtA10 (p : String) : Oper := { dst := some 31, op := Op.call { callee := Callee.value (Operand.func 121), args := #[Operand.tmp 28, Operand.tmp 30], argTypes := #[188, 54] }, type := 3, pos := p, after := #[{ on := 7, ground := Ground.data }, { on := 9, ground := Ground.data }], guard := none }
def oKtA11 (p : String) : Oper := { dst := some 32, op := Op.call { callee := Callee.builtin Builtin.max, args := #[Operand.tmp 24, Operand.tmp 31], argTypes := #[3, 3] }, type := 3, pos := p, after := #[{ on := 3, ground := Ground.data }, { on := 10, ground := Ground.data }], guard := none }
def oKtA12 (p : String) : Oper := { dst := some 6, op := Op.assign (Operand.tmp 32), type := 3, pos := p, after := #[{ on := 11, ground := Ground.data }, { on := 10, ground := Ground.chain }, { on := 0, ground := Ground.phase }, { on := 1, ground := Ground.phase }, { on := 2, ground := Ground.phase }, { on := 3, ground := Ground.phase }, { on := 4, ground := Ground.phase }, { on := 5, ground := Ground.phase }, { on := 6, ground := Ground.phase }, { on := 7, ground := Ground.phase }, { on := 8, ground := Ground.phase }, { on := 9, ground := Ground.phase }, { on := 10, ground := Ground.phase }, { on := 11, ground := Ground.phase }], guard := none }
def opsKtA (p : String) : List Oper := [oKtA0 p, oKtA1 p, oKtA2 p, oKtA3 p, oKtA4 p, oKtA5 p, oKtA6 p, oKtA7 p, oKtA8 p, oKtA9 p, oKtA10 p, oKtA11 p, oKtA12 p]
theorem opsKtA_back (p : String) : backwards (opsKtA p) = true := by kernel_rfl
theorem opsKtA_slots (p : String) : slotsOk 79 (opsKtA p) = true := by kernel_rfl
def psiKtA (R q bc cl s1 s2 : Nat) : Nat → Value → World → Prop
  | 0, v, _ => v = .pointer (some ⟨R, 0, none⟩)
  | 1, v, _ => v = .pointer (some ⟨R, 0, none⟩)
  | 2, v, _ => v = .pointer (some ⟨R, 3, none⟩)
  | 3, v, _ => v = .int .i64 (s1 : Int)
  | 4, v, _ => v = .pointer (some ⟨R, 0, none⟩)
  | 5, v, _ => v = .pointer (some ⟨R, 0, none⟩)
  | 6, v, _ => v = .pointer (some ⟨R, 2, none⟩)
  | 7, v, _ => v = .map (some bc)
  | 8, v, _ => v = .pointer (some ⟨q, 0, none⟩)
  | 9, v, _ => v = .int .u32 (cl : Int)
  | 10, v, _ => v = .int .i64 (s2 : Int)
  | 11, v, _ => v = .int .i64 ((max s1 s2 : Nat) : Int)
  | 12, v, _ => v = .int .i64 ((max s1 s2 : Nat) : Int)
  | _, _, _ => True
theorem psiKtA_grew (R q bc cl s1 s2 : Nat) : ∀ i v w w', psiKtA R q bc cl s1 s2 i v w → Grew w w' → psiKtA R q bc cl s1 s2 i v w' := by
  intro i v w w' h hg
  rcases i with _ | _ | _ | _ | _ | _ | _ | _ | _ | _ | _ | _ | _ | i
  · exact h
  · exact h
  · exact h
  · exact h
  · exact h
  · exact h
  · exact h
  · exact h
  · exact h
  · exact h
  · exact h
  · exact h
  · exact h
  · trivial
set_option maxRecDepth 100000 in
set_option maxHeartbeats 4000000 in
theorem ktwave {p : String} (R q bc cl s1 s2 : Nat)  (a : Act) (w : World) (Q : Exit → Act → World → Prop) (hN : a.tmps.size = 79) (h0 : a.tmps.getD 0 undef = .pointer (some ⟨R, 0, none⟩)) (h3 : a.tmps.getD 3 undef = .pointer (some ⟨q, 0, none⟩)) (hRl : R < w.heap.size) (hql : q < w.heap.size) (hR3 : w.cell? ⟨R, 3, none⟩ = some (.int .i64 (s1 : Int))) (hR2 : w.cell? ⟨R, 2, none⟩ = some (.map (some bc))) (hq0 : w.cell? ⟨q, 0, none⟩ = some (.int .u32 (cl : Int))) (hB : ∀ w', Grew w w' → Calls Tryz.prog 121 #[.map (some bc), .int .u32 (cl : Int)] w' fun e W' => e = .returned (.int .i64 (s2 : Int)) ∧ W' = w') (hQ : ∀ (w' : World), Grew w w' → Q .normal (puts [(21, .pointer (some ⟨R, 0, none⟩)), (22, .pointer (some ⟨R, 0, none⟩)), (23, .pointer (some ⟨R, 3, none⟩)), (24, .int .i64 (s1 : Int)), (25, .pointer (some ⟨R, 0, none⟩)), (26, .pointer (some ⟨R, 0, none⟩)), (27, .pointer (some ⟨R, 2, none⟩)), (28, .map (some bc)), (29, .pointer (some ⟨q, 0, none⟩)), (30, .int .u32 (cl : Int)), (31, .int .i64 (s2 : Int)), (32, .int .i64 ((max s1 s2 : Nat) : Int)), (6, .int .i64 ((max s1 s2 : Nat) : Int))] a) w')
    : (Code.region 4 (opsKtA p).toArray true).wp Tryz.prog Q a w := by
  refine (wpIn_wide (n := 1)).1 (wpIn_region_vals 79 hN follows (opsKtA_back p) (opsKtA_slots p) Grew Grew.refl Grew.trans (psiKtA R q bc cl s1 s2) (psiKtA_grew R q bc cl s1 s2) ?_ ?_)
  · intro i o d ho hd a' w' hF hR hp
    rcases i with _ | _ | _ | _ | _ | _ | _ | _ | _ | _ | _ | _ | _ | i
    · obtain rfl : oKtA0 p = o := Option.some.inj ho
      obtain rfl : 21 = d := Option.some.inj hd
      exact step_move rfl rfl rfl (hF.at 0 rfl h0) ⟨_, rfl, rfl, Grew.refl _⟩
    · obtain rfl : oKtA1 p = o := Option.some.inj ho
      obtain rfl : 22 = d := Option.some.inj hd
      have q0 : a'.tmps.getD 21 undef = .pointer (some ⟨R, 0, none⟩) := hp 0 (oKtA0 p) 21 rfl rfl rfl
      exact step_nilCheckF rfl rfl rfl q0 (trivial) ⟨_, rfl, rfl, Grew.refl _⟩
    · obtain rfl : oKtA2 p = o := Option.some.inj ho
      obtain rfl : 23 = d := Option.some.inj hd
      have q1 : a'.tmps.getD 22 undef = .pointer (some ⟨R, 0, none⟩) := hp 1 (oKtA1 p) 22 rfl rfl rfl
      exact step_fieldF rfl rfl rfl q1 (run_fdP3 _ _) ⟨_, rfl, rfl, Grew.refl _⟩
    · obtain rfl : oKtA3 p = o := Option.some.inj ho
      obtain rfl : 24 = d := Option.some.inj hd
      have q2 : a'.tmps.getD 23 undef = .pointer (some ⟨R, 3, none⟩) := hp 2 (oKtA2 p) 23 rfl rfl rfl
      exact step_load rfl rfl rfl q2 (run_ldIW _ _ _ ((Below.cell hR.undraw (p := ⟨R, 3, none⟩) hRl).trans hR3)) ⟨_, rfl, rfl, Grew.refl _⟩
    · obtain rfl : oKtA4 p = o := Option.some.inj ho
      obtain rfl : 25 = d := Option.some.inj hd
      exact step_move rfl rfl rfl (hF.at 0 rfl h0) ⟨_, rfl, rfl, Grew.refl _⟩
    · obtain rfl : oKtA5 p = o := Option.some.inj ho
      obtain rfl : 26 = d := Option.some.inj hd
      have q4 : a'.tmps.getD 25 undef = .pointer (some ⟨R, 0, none⟩) := hp 4 (oKtA4 p) 25 rfl rfl rfl
      exact step_nilCheckF rfl rfl rfl q4 (trivial) ⟨_, rfl, rfl, Grew.refl _⟩
    · obtain rfl : oKtA6 p = o := Option.some.inj ho
      obtain rfl : 27 = d := Option.some.inj hd
      have q5 : a'.tmps.getD 26 undef = .pointer (some ⟨R, 0, none⟩) := hp 5 (oKtA5 p) 26 rfl rfl rfl
      exact step_fieldF rfl rfl rfl q5 (run_fdP2 _ _) ⟨_, rfl, rfl, Grew.refl _⟩
    · obtain rfl : oKtA7 p = o := Option.some.inj ho
      obtain rfl : 28 = d := Option.some.inj hd
      have q6 : a'.tmps.getD 27 undef = .pointer (some ⟨R, 2, none⟩) := hp 6 (oKtA6 p) 27 rfl rfl rfl
      exact step_load rfl rfl rfl q6 (run_ldMW _ _ _ ((Below.cell hR.undraw (p := ⟨R, 2, none⟩) hRl).trans hR2)) ⟨_, rfl, rfl, Grew.refl _⟩
    · obtain rfl : oKtA8 p = o := Option.some.inj ho
      obtain rfl : 29 = d := Option.some.inj hd
      exact step_fieldF rfl rfl rfl (hF.at 3 rfl h3) (run_fdCW _ _) ⟨_, rfl, rfl, Grew.refl _⟩
    · obtain rfl : oKtA9 p = o := Option.some.inj ho
      obtain rfl : 30 = d := Option.some.inj hd
      have q8 : a'.tmps.getD 29 undef = .pointer (some ⟨q, 0, none⟩) := hp 8 (oKtA8 p) 29 rfl rfl rfl
      exact step_load rfl rfl rfl q8 (run_ldUW _ _ _ ((Below.cell hR.undraw (p := ⟨q, 0, none⟩) hql).trans hq0)) ⟨_, rfl, rfl, Grew.refl _⟩
    · obtain rfl : oKtA10 p = o := Option.some.inj ho
      obtain rfl : 31 = d := Option.some.inj hd
      have q7 : a'.tmps.getD 28 undef = .map (some bc) := hp 7 (oKtA7 p) 28 rfl rfl rfl
      have q9 : a'.tmps.getD 30 undef = .int .u32 (cl : Int) := hp 9 (oKtA9 p) 30 rfl rfl rfl
      refine step_callD rfl rfl rfl (enters_of Tryz.func121 (by kernel_rfl) rfl) (show Array.map a'.eval #[.tmp 28, .tmp 30] = _ from by simp only [List.map_toArray, List.map_cons, List.map_nil, Act.eval, q7, q9]) ((hB w' hR.undraw).mono ?_)
      rintro e w'' ⟨rfl, rfl⟩
      exact ⟨_, rfl, _, rfl, rfl, Below.refl _ _⟩
    · obtain rfl : oKtA11 p = o := Option.some.inj ho
      obtain rfl : 32 = d := Option.some.inj hd
      have q3 : a'.tmps.getD 24 undef = .int .i64 (s1 : Int) := hp 3 (oKtA3 p) 24 rfl rfl rfl
      have q10 : a'.tmps.getD 31 undef = .int .i64 (s2 : Int) := hp 10 (oKtA10 p) 31 rfl rfl rfl
      refine step_run (o := oKtA11 p) (v := .int .i64 ((max s1 s2 : Nat) : Int)) (w' := w') rfl rfl (by intro c h; cases h) (by simp [Oper.about, oKtA11, resolve, Target.leads, Sem.run_pure]) (by
        unfold execOp
        simp only [oKtA11, resolve, invoke, builtin, Sem.run_bind, Sem.run_pure, Result.andThen_ok, List.map_toArray, List.map_cons, List.map_nil, Act.eval, q3, q10, run_maxN]) ⟨_, rfl, rfl, Grew.refl _⟩
    · obtain rfl : oKtA12 p = o := Option.some.inj ho
      obtain rfl : 6 = d := Option.some.inj hd
      have q11 : a'.tmps.getD 32 undef = .int .i64 ((max s1 s2 : Nat) : Int) := hp 11 (oKtA11 p) 32 rfl rfl rfl
      exact step_assign rfl rfl rfl q11 ⟨_, rfl, rfl, Grew.refl _⟩
    · exact absurd ((Array.getElem?_eq_some_iff.1 ho).1) (by simp [opsKtA])
  · intro a' w' hF hR hp
    have e0 : psiKtA R q bc cl s1 s2 0 (a'.tmps.getD 21 undef) w' := hp 0 (oKtA0 p) 21 rfl rfl
    have e1 : psiKtA R q bc cl s1 s2 1 (a'.tmps.getD 22 undef) w' := hp 1 (oKtA1 p) 22 rfl rfl
    have e2 : psiKtA R q bc cl s1 s2 2 (a'.tmps.getD 23 undef) w' := hp 2 (oKtA2 p) 23 rfl rfl
    have e3 : psiKtA R q bc cl s1 s2 3 (a'.tmps.getD 24 undef) w' := hp 3 (oKtA3 p) 24 rfl rfl
    have e4 : psiKtA R q bc cl s1 s2 4 (a'.tmps.getD 25 undef) w' := hp 4 (oKtA4 p) 25 rfl rfl
    have e5 : psiKtA R q bc cl s1 s2 5 (a'.tmps.getD 26 undef) w' := hp 5 (oKtA5 p) 26 rfl rfl
    have e6 : psiKtA R q bc cl s1 s2 6 (a'.tmps.getD 27 undef) w' := hp 6 (oKtA6 p) 27 rfl rfl
    have e7 : psiKtA R q bc cl s1 s2 7 (a'.tmps.getD 28 undef) w' := hp 7 (oKtA7 p) 28 rfl rfl
    have e8 : psiKtA R q bc cl s1 s2 8 (a'.tmps.getD 29 undef) w' := hp 8 (oKtA8 p) 29 rfl rfl
    have e9 : psiKtA R q bc cl s1 s2 9 (a'.tmps.getD 30 undef) w' := hp 9 (oKtA9 p) 30 rfl rfl
    have e10 : psiKtA R q bc cl s1 s2 10 (a'.tmps.getD 31 undef) w' := hp 10 (oKtA10 p) 31 rfl rfl
    have e11 : psiKtA R q bc cl s1 s2 11 (a'.tmps.getD 32 undef) w' := hp 11 (oKtA11 p) 32 rfl rfl
    have e12 : psiKtA R q bc cl s1 s2 12 (a'.tmps.getD 6 undef) w' := hp 12 (oKtA12 p) 6 rfl rfl
    rw [hF.puts [(21, .pointer (some ⟨R, 0, none⟩)), (22, .pointer (some ⟨R, 0, none⟩)), (23, .pointer (some ⟨R, 3, none⟩)), (24, .int .i64 (s1 : Int)), (25, .pointer (some ⟨R, 0, none⟩)), (26, .pointer (some ⟨R, 0, none⟩)), (27, .pointer (some ⟨R, 2, none⟩)), (28, .map (some bc)), (29, .pointer (some ⟨q, 0, none⟩)), (30, .int .u32 (cl : Int)), (31, .int .i64 (s2 : Int)), (32, .int .i64 ((max s1 s2 : Nat) : Int)), (6, .int .i64 ((max s1 s2 : Nat) : Int))] ?_ rfl (by rw [hN]; rfl)]
    · exact hQ  w'  hR.undraw
    · intro x hx
      simp only [List.mem_cons, List.not_mem_nil, or_false] at hx
      rcases hx with rfl | rfl | rfl | rfl | rfl | rfl | rfl | rfl | rfl | rfl | rfl | rfl | rfl
      · exact e0
      · exact e1
      · exact e2
      · exact e3
      · exact e4
      · exact e5
      · exact e6
      · exact e7
      · exact e8
      · exact e9
      · exact e10
      · exact e11
      · exact e12
def oKtB0 (p : String) : Oper := { dst := some 48, op := Op.move (Operand.tmp 0), type := 164, pos := p, after := #[], guard := none }
def oKtB1 (p : String) : Oper := { dst := some 49, op := Op.nilCheck (Operand.tmp 48), type := 0, pos := p, after := #[{ on := 0, ground := Ground.data }], guard := none }
def oKtB2 (p : String) : Oper := { dst := some 50, op := Op.fieldAddr 190 (Operand.tmp 49) 2, type := 0, pos := p, after := #[{ on := 1, ground := Ground.data }], guard := none }
def oKtB3 (p : String) : Oper := { dst := some 51, op := Op.load 188 (Operand.tmp 50), type := 188, pos := p, after := #[{ on := 2, ground := Ground.data }], guard := none }
def oKtB4 (p : String) : Oper := { dst := some 52, op := Op.fieldAddr 57 (Operand.tmp 3) 0, type := 0, pos := p, after := #[], guard := none }
def oKtB5 (p : String) : Oper := { dst := some 53, op := Op.load 54 (Operand.tmp 52), type := 54, pos := p, after := #[{ on := 4, ground := Ground.data }], guard := none }
def oKtB6 (p : String) : Oper := { dst := some 54, op := Op.move (Operand.tmp 6), type := 3, pos := p, after := #[], guard := none }
def opsKtB (p : String) : List Oper := [oKtB0 p, oKtB1 p, oKtB2 p, oKtB3 p, oKtB4 p, oKtB5 p, oKtB6 p]
def oKtBL (p : String) : Oper := { dst := none, op := Op.mapUpdate 188 (Operand.tmp 51) (Operand.tmp 53) (Operand.tmp 54), type := 0, pos := p, after := #[{ on := 3, ground := Ground.data }, { on := 5, ground := Ground.data }, { on := 6, ground := Ground.data }, { on := 0, ground := Ground.phase }, { on := 1, ground := Ground.phase }, { on := 2, ground := Ground.phase }, { on := 3, ground := Ground.phase }, { on := 4, ground := Ground.phase }, { on := 5, ground := Ground.phase }, { on := 6, ground := Ground.phase }], guard := none }
theorem opsKtB_back (p : String) : backwards (opsKtB p ++ [oKtBL p]) = true := by kernel_rfl
theorem opsKtB_all (p : String) : ((List.range (opsKtB p).length).all (hasEdge (oKtBL p))) = true := by kernel_rfl
theorem opsKtB_slots (p : String) : slotsOk 79 (opsKtB p) = true := by kernel_rfl
def psiKtB (R q bc cl x : Nat) : Nat → Value → World → Prop
  | 0, v, _ => v = .pointer (some ⟨R, 0, none⟩)
  | 1, v, _ => v = .pointer (some ⟨R, 0, none⟩)
  | 2, v, _ => v = .pointer (some ⟨R, 2, none⟩)
  | 3, v, _ => v = .map (some bc)
  | 4, v, _ => v = .pointer (some ⟨q, 0, none⟩)
  | 5, v, _ => v = .int .u32 (cl : Int)
  | 6, v, _ => v = .int .i64 (x : Int)
  | _, _, _ => True
theorem psiKtB_grew (R q bc cl x : Nat) : ∀ i v w w', psiKtB R q bc cl x i v w → Grew w w' → psiKtB R q bc cl x i v w' := by
  intro i v w w' h hg
  rcases i with _ | _ | _ | _ | _ | _ | _ | i
  · exact h
  · exact h
  · exact h
  · exact h
  · exact h
  · exact h
  · exact h
  · trivial
set_option maxRecDepth 100000 in
set_option maxHeartbeats 4000000 in
theorem ktclient {p : String} (R q bc cl x : Nat) (Pq : World → World → Prop) (a : Act) (w : World) (Q : Exit → Act → World → Prop) (hN : a.tmps.size = 79) (h0 : a.tmps.getD 0 undef = .pointer (some ⟨R, 0, none⟩)) (h3 : a.tmps.getD 3 undef = .pointer (some ⟨q, 0, none⟩)) (h6 : a.tmps.getD 6 undef = .int .i64 (x : Int)) (hRl : R < w.heap.size) (hql : q < w.heap.size) (hR2 : w.cell? ⟨R, 2, none⟩ = some (.map (some bc))) (hq0 : w.cell? ⟨q, 0, none⟩ = some (.int .u32 (cl : Int))) (hP : ∀ w', Grew w w' → ∃ W3, (Instr.mapUpdate 188 (.map (some bc)) (.int .u32 (cl : Int)) (.int .i64 (x : Int))).run Tryz.prog w' = .ok () W3 ∧ Pq w' W3) (hQ : ∀ (w' W3 : World), Grew w w' → Pq w' W3 → Q .normal (puts [(48, .pointer (some ⟨R, 0, none⟩)), (49, .pointer (some ⟨R, 0, none⟩)), (50, .pointer (some ⟨R, 2, none⟩)), (51, .map (some bc)), (52, .pointer (some ⟨q, 0, none⟩)), (53, .int .u32 (cl : Int)), (54, .int .i64 (x : Int))] a) (W3))
    : (Code.region 10 (opsKtB p ++ [oKtBL p]).toArray true).wp Tryz.prog Q a w := by
  refine (wpIn_wide (n := 1)).1 (wpIn_region_store 79 hN follows (opsKtB_back p) (opsKtB_slots p) (opsKtB_all p) Grew Grew.refl Grew.trans (psiKtB R q bc cl x) (psiKtB_grew R q bc cl x) ?_ ?_)
  · intro i o d ho hd a' w' hF hR hp
    rcases i with _ | _ | _ | _ | _ | _ | _ | i
    · obtain rfl : oKtB0 p = o := Option.some.inj ho
      obtain rfl : 48 = d := Option.some.inj hd
      exact step_move rfl rfl rfl (hF.at 0 rfl h0) ⟨_, rfl, rfl, Grew.refl _⟩
    · obtain rfl : oKtB1 p = o := Option.some.inj ho
      obtain rfl : 49 = d := Option.some.inj hd
      have q0 : a'.tmps.getD 48 undef = .pointer (some ⟨R, 0, none⟩) := hp 0 (oKtB0 p) 48 rfl rfl rfl
      exact step_nilCheckF rfl rfl rfl q0 (trivial) ⟨_, rfl, rfl, Grew.refl _⟩
    · obtain rfl : oKtB2 p = o := Option.some.inj ho
      obtain rfl : 50 = d := Option.some.inj hd
      have q1 : a'.tmps.getD 49 undef = .pointer (some ⟨R, 0, none⟩) := hp 1 (oKtB1 p) 49 rfl rfl rfl
      exact step_fieldF rfl rfl rfl q1 (run_fdP2 _ _) ⟨_, rfl, rfl, Grew.refl _⟩
    · obtain rfl : oKtB3 p = o := Option.some.inj ho
      obtain rfl : 51 = d := Option.some.inj hd
      have q2 : a'.tmps.getD 50 undef = .pointer (some ⟨R, 2, none⟩) := hp 2 (oKtB2 p) 50 rfl rfl rfl
      exact step_load rfl rfl rfl q2 (run_ldMW _ _ _ ((Below.cell hR.undraw (p := ⟨R, 2, none⟩) hRl).trans hR2)) ⟨_, rfl, rfl, Grew.refl _⟩
    · obtain rfl : oKtB4 p = o := Option.some.inj ho
      obtain rfl : 52 = d := Option.some.inj hd
      exact step_fieldF rfl rfl rfl (hF.at 3 rfl h3) (run_fdCW _ _) ⟨_, rfl, rfl, Grew.refl _⟩
    · obtain rfl : oKtB5 p = o := Option.some.inj ho
      obtain rfl : 53 = d := Option.some.inj hd
      have q4 : a'.tmps.getD 52 undef = .pointer (some ⟨q, 0, none⟩) := hp 4 (oKtB4 p) 52 rfl rfl rfl
      exact step_load rfl rfl rfl q4 (run_ldUW _ _ _ ((Below.cell hR.undraw (p := ⟨q, 0, none⟩) hql).trans hq0)) ⟨_, rfl, rfl, Grew.refl _⟩
    · obtain rfl : oKtB6 p = o := Option.some.inj ho
      obtain rfl : 54 = d := Option.some.inj hd
      exact step_move rfl rfl rfl (hF.at 6 rfl h6) ⟨_, rfl, rfl, Grew.refl _⟩
    · exact absurd ((Array.getElem?_eq_some_iff.1 ho).1) (by simp [opsKtB])
  · intro a' w' hF hR hp
    have e0 : psiKtB R q bc cl x 0 (a'.tmps.getD 48 undef) w' := hp 0 (oKtB0 p) 48 rfl rfl
    have e1 : psiKtB R q bc cl x 1 (a'.tmps.getD 49 undef) w' := hp 1 (oKtB1 p) 49 rfl rfl
    have e2 : psiKtB R q bc cl x 2 (a'.tmps.getD 50 undef) w' := hp 2 (oKtB2 p) 50 rfl rfl
    have e3 : psiKtB R q bc cl x 3 (a'.tmps.getD 51 undef) w' := hp 3 (oKtB3 p) 51 rfl rfl
    have e4 : psiKtB R q bc cl x 4 (a'.tmps.getD 52 undef) w' := hp 4 (oKtB4 p) 52 rfl rfl
    have e5 : psiKtB R q bc cl x 5 (a'.tmps.getD 53 undef) w' := hp 5 (oKtB5 p) 53 rfl rfl
    have e6 : psiKtB R q bc cl x 6 (a'.tmps.getD 54 undef) w' := hp 6 (oKtB6 p) 54 rfl rfl
    have hput : a' = puts [(48, .pointer (some ⟨R, 0, none⟩)), (49, .pointer (some ⟨R, 0, none⟩)), (50, .pointer (some ⟨R, 2, none⟩)), (51, .map (some bc)), (52, .pointer (some ⟨q, 0, none⟩)), (53, .int .u32 (cl : Int)), (54, .int .i64 (x : Int))] a := hF.puts [(48, .pointer (some ⟨R, 0, none⟩)), (49, .pointer (some ⟨R, 0, none⟩)), (50, .pointer (some ⟨R, 2, none⟩)), (51, .map (some bc)), (52, .pointer (some ⟨q, 0, none⟩)), (53, .int .u32 (cl : Int)), (54, .int .i64 (x : Int))] (by
      intro x hx
      simp only [List.mem_cons, List.not_mem_nil, or_false] at hx
      rcases hx with rfl | rfl | rfl | rfl | rfl | rfl | rfl
      · exact e0
      · exact e1
      · exact e2
      · exact e3
      · exact e4
      · exact e5
      · exact e6) rfl (by rw [hN]; rfl)
    obtain ⟨W3, hst, hp3⟩ := hP w' hR.undraw
    have hx1 : a'.eval (.tmp 51) = .map (some bc) := e3
    have hx2 : a'.eval (.tmp 53) = .int .u32 (cl : Int) := e5
    have hx3 : a'.eval (.tmp 54) = .int .i64 (x : Int) := e6
    refine step_skip (o := oKtBL p) (w' := W3) rfl rfl (by intro c h; cases h) (by simp [Oper.about, oKtBL]) (by
      unfold execOp
      simp only [oKtBL, hx1, hx2, hx3, Sem.run_bind, hst, Result.andThen_ok]
      rfl) ?_
    show Q .normal a' _
    rw [hput]
    exact hQ w' W3 hR.undraw hp3
end Go.Proofs.YtfjmdkhemnmkpaaGreatDoor

namespace Go.Proofs.YtfjmdkhemnmkpaaGreatDoor
open Go.RowKit Go.Maps
theorem Only.cellW {F : Nat → Prop} {w w' : World} (h : Only F w w') {p : Addr} {v : Value} (hp : w.cell? p = some v) (hl : p.block < w.heap.size) (hn : ¬ F p.block) : w'.cell? p = some v :=
  (World.cell?_of_block (h.block p.block hl hn)).trans hp
structure PmQ (W : World) (R g bk bc : Nat) (l : List CM) (m : CM) (x : Nat) (ks : List ByteArray) (j : Nat) : Prop where
  cell : W.heap[R]? = some (.cells #[loneV g, .map (some bk), .map (some bc), .int .i64 (leastW (wavesM l) : Int), .int .i64 (countW (wavesM l) : Int)] 190 (0, 0))
  lim : W.heap[g]? = some (.cells #[.int .i64 4] 3 (0, 0))
  keys : ∃ n, n ≤ 10000 * l.length + j ∧ TwS W bk n (keyS (wavesM l) x (ks.take j))
  cls : ∃ n, n ≤ l.length + 1 ∧ TwU W bc n (clT (wavesM l ++ [(m, x)]))
  ne : bk ≠ bc
section
variable {W W' : World} {R g bk bc : Nat} {l : List CM} {m : CM} {x : Nat} {ks : List ByteArray} {j : Nat}
theorem PmQ.at (h : PmQ W R g bk bc l m x ks j) : W.cell? ⟨R, 1, none⟩ = some (.map (some bk)) ∧ W.cell? ⟨R, 4, none⟩ = some (.int .i64 (countW (wavesM l) : Int)) ∧ W.frozen? ⟨R, 4, none⟩ = false :=
  ⟨blk_cell h.cell 1, blk_cell h.cell 4, blk_frozen h.cell 4⟩
theorem PmQ.of (h : PsQ W R g bk bc l) (hlo : loneM m = false) (hx : x = nextW (wavesM l) m) {nc : Nat} (hnc : nc ≤ l.length) (hT : TwU W' bc (nc + 1) (fun j => if j = m.cl then x + 1 else clT (wavesM l) j)) (hg : W.grownBy W' (some bc)) : PmQ W' R g bk bc l m x ks 0 := by
  obtain ⟨n1, a1, h1⟩ := h.keys
  obtain ⟨l1, l2, l3, l4⟩ := h.lt
  obtain ⟨p1, p2, p3, p4, p5⟩ := h.apart
  have hb : ∀ k, k < W.heap.size → k ≠ bc → W'.heap[k]? = W.heap[k]? := fun k hk hne => hg.block k hk (fun e => hne (Option.some.inj e))
  refine ⟨(hb R l1 p2).trans h.cell, (hb g l2 p4).trans h.lim, ⟨n1, by omega, (h1.keep (hb bk l3 h.ne)).congr (fun k _ => by simp [keyS, inK])⟩, ⟨nc + 1, by omega, hT.congr (fun c _ => ?_)⟩, h.ne⟩
  subst hx
  rw [clT_many hlo]
theorem PmQ.next (h : PmQ W R g bk bc l m x ks j) (hj : j < ks.length) {n : Nat} (hn : n ≤ 10000 * l.length + j) (hT : TwS W' bk (n + 1) (fun k => if k = ks[j] then x + 1 else keyS (wavesM l) x (ks.take j) k)) (hg : W.grownBy W' (some bk)) : PmQ W' R g bk bc l m x ks (j + 1) := by
  obtain ⟨n2, a2, h2⟩ := h.cls
  obtain ⟨n1, a1, h1⟩ := h.keys
  have hb : ∀ k, k < W.heap.size → k ≠ bk → W'.heap[k]? = W.heap[k]? := fun k hk hne => hg.block k hk (fun e => hne (Option.some.inj e))
  refine ⟨(hb R (Array.getElem?_eq_some_iff.1 h.cell).1 (h1.ne_cells h.cell)).trans h.cell, (hb g (Array.getElem?_eq_some_iff.1 h.lim).1 (h1.ne_cells h.lim)).trans h.lim, ⟨n + 1, by omega, hT.congr (fun k _ => ?_)⟩, ⟨n2, a2, h2.keep (hb bc h2.lt (Ne.symm h.ne))⟩, h.ne⟩
  rw [keyS_succ _ _ hj]
theorem PmQ.done (h : PmQ W R g bk bc l m x ks ks.length) (hlo : loneM m = false) (hx : x = nextW (wavesM l) m) (hks : touchK m.ks = ks) (hl : ks.length ≤ 10000) : PsQ (W.setCell ⟨R, 4, none⟩ (.int .i64 ((max (countW (wavesM l)) (x + 1) : Nat) : Int))) R g bk bc (l ++ [m]) := by
  obtain ⟨n1, a1, h1⟩ := h.keys
  obtain ⟨n2, a2, h2⟩ := h.cls
  have hgR : g ≠ R := fun e => by
    have h3 := h.cell
    rw [← e, h.lim] at h3
    exact absurd (congrArg Array.size (Obj.cells.inj (Option.some.inj h3)).1) (by simp)
  have hb : ∀ k, k ≠ R → (W.setCell ⟨R, 4, none⟩ (.int .i64 ((max (countW (wavesM l)) (x + 1) : Nat) : Int))).heap[k]? = W.heap[k]? := fun k hk => Below.heap_setCell _ _ _ _ hk
  refine ⟨?_, (hb g hgR).trans h.lim, ⟨n1, by simp; omega, (h1.keep (hb bk (Ne.symm (h1.ne_cells h.cell)))).congr (fun k _ => ?_)⟩, ⟨n2, by simp; omega, (h2.keep (hb bc (Ne.symm (h2.ne_cells h.cell)))).congr (fun c _ => ?_)⟩, h.ne⟩
  · rw [blk_set h.cell 4, wavesM_snoc, ← hx, least_many hlo, count_any]
    simp
  · rw [wavesM_snoc, hx, keyT_many hlo, hks, List.take_length, ← hx]
    rfl
  · rw [wavesM_snoc, hx]
end
set_option maxRecDepth 100000 in
set_option maxHeartbeats 8000000 in
theorem addP_any {w : World} {R g bk bc : Nat} {l : List CM} (h : PsQ w R g bk bc l) (hl : l.length ≤ 1000) (v : CmdV) (hv : v.ok w) (hn : v.ks.length ≤ 10000) :
    Calls Tryz.prog 99 #[.pointer (some ⟨R, 0, none⟩), v.val] w fun e W' => e = .returned (.int .i64 (nextW (wavesM l) v.m : Int)) ∧ PsQ W' R g bk bc (l ++ [v.m]) ∧ Only (fun x => x = R ∨ x = bk ∨ x = bc) w W' := by
  have HT : Hid (∀ W, Below w.heap.size w W → Calls Tryz.prog 119 #[v.val] W fun e W' => ∃ x, e = .returned x ∧ TxtS W' x (touchK v.ks) ∧ Below W.heap.size W W') := Lib.hid (fun W hb => touches_any v W (hv.below hb) hn)
  have hle : (touchK v.ks).length ≤ 10000 := Nat.le_trans (touchK_le _) hn
  have heach : ∀ k ∈ touchK v.ks, k.size ≤ maxLen := fun k hk => hv.each k ((touchK_mem _ _).1 hk)
  have hcl := hv.cl
  obtain ⟨m, hm⟩ : ∃ m, m = v.m := ⟨_, rfl⟩
  have hmcl : m.cl = v.cl := by rw [hm]; rfl
  have hlo : loneM m = decide (4 < (touchK v.ks).length) := by rw [hm]; rfl
  have hks : touchK m.ks = touchK v.ks := by rw [hm]; rfl
  rw [← hm]
  obtain ⟨ks, hkk⟩ : ∃ ks, ks = touchK v.ks := ⟨_, rfl⟩
  rw [← hkk] at HT hle heach hlo hks
  have HM := Lib.hid (And.intro hmcl (And.intro hlo hks))
  have HE := Lib.hid (And.intro hle heach)
  have HPS := Lib.hid h
  have HL := Lib.hid hl
  clear h hl hv hn hle heach hm hmcl hlo hks hkk
  obtain ⟨cl, sq, kd, KA, L, c, ks0, old, new, n⟩ := v
  simp only [CmdV.val, CmdV.cells] at HT HM hcl ⊢
  go_enter Tryz.func99, Tryz.ntmps99
  go_upto_region 1 with (fail)
  obtain ⟨W0, hW0⟩ : ∃ W0, W0 = w.alloc (Obj.cells #[.int .u32 (cl : Int), .int .u32 (sq : Int), .int .u8 (kd : Int), .slice KA L c, .string old, .string new, .int .i64 n] 57) := ⟨_, rfl⟩
  rw [← hW0]
  obtain ⟨hB0, k0⟩ := boxedW hW0
  obtain ⟨p, hp⟩ : ∃ p, p = w.heap.size := ⟨_, rfl⟩
  rw [← hp] at k0 ⊢
  have HC0 := Lib.hid (show BoxC p ⟨cl, sq, kd, KA, L, c, ks0, old, new, n⟩ W0 from ⟨k0⟩)
  have HB0 := Lib.hid hB0
  have HPW := Lib.hid hp
  clear hW0 hB0 k0 hp
  obtain ⟨x0, x1, x2, x3, x4, x5, x6⟩ := HC0.out.at
  have HT0 := Lib.hid (HT.out W0 HB0.out)
  go_wp2_with fail
  refine HT0.out.mono ?_
  rintro e W1 ⟨x, rfl, ⟨⟨A, N, c3, rfl, hN, hc3, has⟩⟩, hb1⟩
  have HB1 := Lib.hid (HB0.out.trans (Below.mono hb1 HB0.out.size))
  have HP1 := Lib.hid (HPS.out.below HB1.out)
  have HC1 := Lib.hid (HC0.out.below hb1)
  have HA1 := Lib.hid (And.intro hN has)
  clear hN hc3 has hb1 x0 x1 x2 x3 x4 x5 x6 HT HT0
  obtain ⟨q0, q1, q2, q3, q4⟩ := HP1.out.at
  have HF := Lib.hid (more1_any g A N c3 (by have := HA1.out.1; have := HE.out.1; omega) W1 (by simpa using blk_cell HP1.out.lim 0))
  unfold loneV at q0
  go_wp2_with fail
  refine HF.out.mono ?_
  rintro e W2 ⟨rfl, rfl⟩
  obtain ⟨b, hb⟩ : ∃ b, b = loneM m := ⟨_, rfl⟩
  rw [show decide (4 < N) = b by rw [hb, HM.out.2.1, HA1.out.1]]
  have HBB := Lib.hid hb
  clear hb
  cases b with
  | true =>
    have HAL := Lib.hid (addLone_any HP1.out HL.out HBB.out.symm)
    clear q0 q1 q2 q3 q4
    go_wp2_with fail
    refine HAL.out.mono ?_
    rintro e W3 ⟨rfl, h3, h4⟩
    have HZ := Lib.hid (And.intro h3 h4)
    clear h3 h4
    go_wp2
    go_ret
    exact ⟨rfl, HZ.out.1, (Only.of_grew HB1.out).trans HZ.out.2 (fun x e => .inl (.inl e))⟩
  | false =>
    obtain ⟨nk, hnk, hTS⟩ := HP1.out.keys
    obtain ⟨nc, hnc, hTU⟩ := HP1.out.cls
    have HBU := Lib.hid (behindU_any (hTU.keep (w' := W2.drew) rfl) cl hcl (Nat.le_trans (clT_le l cl) (by have := HL.out; omega)))
    obtain ⟨s1, hs1⟩ : ∃ s, s = leastW (wavesM l) := ⟨_, rfl⟩
    obtain ⟨s2, hs2⟩ : ∃ s, s = clT (wavesM l) cl := ⟨_, rfl⟩
    rw [← hs1] at q3
    rw [← hs2] at HBU
    have hs1l : s1 ≤ l.length := by rw [hs1]; exact leastW_le l
    have hs2l : s2 ≤ l.length := by rw [hs2]; exact clT_le l cl
    have HS := Lib.hid (And.intro (And.intro hs1 hs2) (And.intro hs1l hs2l))
    have HTS := Lib.hid (And.intro hnk hTS)
    have HTU := Lib.hid (And.intro hnc hTU)
    clear hnk hTS hnc hTU hs1 hs2 hs1l hs2l
    obtain ⟨x0, x1, x2, x3, x4, x5, x6⟩ := HC1.out.at
    clear x1 x2 x3 x4 x5 x6
    go_upto_region 4 with (fail)
    have hlt := HP1.out.lt
    refine ktwave R p bc cl s1 s2 _ W2 _ rfl rfl rfl hlt.1 HC1.out.lt q3 q2 x0 (fun w' hg => ?_) ?_
    · have HT' := HTU.out.2.keep (hg.block bc hlt.2.2.2)
      have := behindU_any HT' cl hcl (Nat.le_trans (clT_le l cl) (by have := HL.out; omega))
      rwa [← HS.out.1.2] at this
    intro w4 hg4
    have HB4 := Lib.hid (HB1.out.trans (Below.mono hg4 HB1.out.size))
    have HP4 := Lib.hid (HP1.out.below hg4)
    have HC4 := Lib.hid (HC1.out.below hg4)
    have HA4 := Lib.hid (HA1.out.2.below hg4)
    have HT4 : Hid (∀ k, k.size ≤ maxLen → Calls Tryz.prog 122 #[.map (some bk), .string k] w4 fun e W' => e = .returned (.int .i64 (keyT (wavesM l) k : Int)) ∧ W' = w4) := Lib.hid (fun k hk => by
      obtain ⟨n1, _, h1⟩ := HP4.out.keys
      exact behindS_any h1 k hk (Nat.le_trans (keyT_le l k) (by have := HL.out; omega)))
    clear hg4 q0 q1 q2 q3 q4 x0 hlt
    obtain ⟨q0, q1, q2, q3, q4⟩ := HP4.out.at
    clear q0 q2 q3 q4
    simp only [puts, List.foldl_cons, List.foldl_nil, Act.put, List.setIfInBounds_toArray, List.set_cons_succ, List.set_cons_zero]
    have hNi : (N : Int) ≤ 10000 := by have := HA1.out.1; have := HE.out.1; omega
    go_wp2
    go_loopw [6, 35] (fun v6 i wr => wr = w4 ∧ ∃ j : Nat, j ≤ N ∧ i = .int .i64 (j : Int) ∧ v6 = .int .i64 (foldW (wavesM l) (max s1 s2) (ks.take j) : Int)) (fun _ i _ => N - (intOf i).toNat)
    case atStart => exact ⟨rfl, 0, Nat.zero_le _, rfl, rfl⟩
    case round =>
      obtain ⟨rfl, j, hj, rfl, rfl⟩ := hrel
      by_cases hlt : j < N
      · have hji : (j : Int) < N := by omega
        have hj1 : j < ks.length := by have := HA1.out.1; omega
        obtain ⟨kb, ko, e1, l1, f1⟩ := HA4.out (by rintro rfl; simp at hj1)
        subst e1
        have g1 := f1 j hj1
        have hfs := foldW_succ (wavesM l) (max s1 s2) hj1
        have htm := HE.out.2 ks[j] (List.getElem_mem hj1)
        obtain ⟨t, ht⟩ : ∃ t, t = ks[j] := ⟨_, rfl⟩
        rw [← ht] at g1 hfs htm
        obtain ⟨f, hf⟩ : ∃ f, f = foldW (wavesM l) (max s1 s2) (ks.take j) := ⟨_, rfl⟩
        rw [← hf] at hfs ⊢
        have HTC := Lib.hid (HT4.out t htm)
        obtain ⟨k, hk⟩ : ∃ k, k = keyT (wavesM l) t := ⟨_, rfl⟩
        rw [← hk] at HTC hfs
        have HFS := Lib.hid hfs
        have hmx : ∀ (ts : Array TypeId) (ty : TypeId) (w : World), (Builtin.max_ ts ty #[.int .i64 (f : Int), .int .i64 (k : Int)]).run Tryz.prog w = .ok (.int .i64 ((max f k : Nat) : Int)) w := fun ts ty w => run_maxN ts ty w f k
        clear f1 l1 ht htm hf hk hfs
        go_wp2_with fail
        refine HTC.out.mono ?_
        rintro e V ⟨rfl, rfl⟩
        go_wp2
        exact ⟨⟨trivial, j + 1, by omega, by congr 1, by rw [HFS.out]⟩, by simp only [intOf]; omega⟩
      · have hji : ¬ (j : Int) < N := by omega
        obtain rfl : N = j := by omega
        rw [List.take_of_length_le (by have := HA1.out.1; omega)]
        have hxx : foldW (wavesM l) (max s1 s2) ks = nextW (wavesM l) m := by
          rw [nextW_many _ HBB.out.symm, HM.out.1, HM.out.2.2, HS.out.1.1, HS.out.1.2]
          rfl
        obtain ⟨x, hx⟩ : ∃ x, x = foldW (wavesM l) (max s1 s2) ks := ⟨_, rfl⟩
        rw [← hx] at hxx ⊢
        have hxl : x ≤ 1000 := by rw [hxx]; exact Nat.le_trans (nextW_max l m) HL.out
        have HX := Lib.hid (And.intro hxx hxl)
        clear hx hxx hxl hlt
        go_upto_region 10 with (fail)
        obtain ⟨nc2, hnc2, hTU2⟩ := HP4.out.cls
        obtain ⟨y0, _, _, _, _, _, _⟩ := HC4.out.at
        have hlt4 := HP4.out.lt
        have hq2 := HP4.out.at.2.2.1
        refine ktclient R p bc cl x (fun W W3 => TwU W3 bc (nc2 + 1) (fun j => if j = cl then x + 1 else clT (wavesM l) j) ∧ W.grownBy W3 (some bc)) _ wr _ rfl rfl rfl rfl hlt4.1 HC4.out.lt hq2 y0 (fun w' hg => ?_) ?_
        · obtain ⟨W3, h1, h2, h3⟩ := putTU (hTU2.keep (hg.block bc hlt4.2.2.2)) (by have := HL.out; simp only [maxLen]; omega) hcl (x := x) (by have := HX.out.2; omega)
          exact ⟨W3, h1, h2, h3⟩
        intro w5 w6 hg5 hP6
        have hps5 := HP4.out.below hg5
        have HPM : Hid (PmQ w6 R g bk bc l m x ks 0) := Lib.hid (PmQ.of hps5 HBB.out.symm HX.out.1 hnc2 (by rw [HM.out.1]; exact hP6.1) hP6.2)
        have ho6 : Only (fun x => x = bc) wr w6 := (Only.of_grew hg5).trans (Only.of_grown (F := fun x => x = bc) hP6.2 (fun k e => (Option.some.inj e).symm)) (fun x e => .inl e)
        have HA6 : Hid (HasS w6 A ks) := Lib.hid (fun hne => by
          obtain ⟨b, o, e, h1, h2⟩ := HA4.out hne
          refine ⟨b, o, e, Nat.lt_of_lt_of_le h1 ho6.size, fun i hi => ?_⟩
          have := h2 i hi
          exact ho6.cellW this h1 (hTU2.ne_cell this))
        have HO6 : Hid (Only (fun x => x = R ∨ x = bk ∨ x = bc) w w6) := Lib.hid ((Only.of_grew HB4.out).trans ho6 (fun x e => .inl (.inr (.inr e))))
        clear hg5 hP6 hps5 ho6 hTU2 hnc2 y0 hlt4 hq2 q1
        simp only [puts, List.foldl_cons, List.foldl_nil, Act.put, List.setIfInBounds_toArray, List.set_cons_succ, List.set_cons_zero]
        have hxi : (x : Int) ≤ 1000 := by have := HX.out.2; omega
        go_wp2
        go_loopw [57] (fun i wr => ∃ j : Nat, j ≤ N ∧ i = .int .i64 (j : Int) ∧ Hid (PmQ wr R g bk bc l m x ks j ∧ Only (fun x => x = bk) w6 wr)) (fun i _ => N - (intOf i).toNat)
        case atStart => exact ⟨0, Nat.zero_le _, rfl, Lib.hid ⟨HPM.out, Only.refl _ _⟩⟩
        case round =>
          obtain ⟨j, hj, rfl, HR⟩ := hrel
          obtain ⟨q1, q4, z4⟩ := HR.out.1.at
          by_cases hlt : j < N
          · have hji : (j : Int) < N := by omega
            have hj1 : j < ks.length := by have := HA1.out.1; omega
            obtain ⟨nk2, hnk2, hTS2⟩ := HR.out.1.keys
            obtain ⟨n0, _, hTS0⟩ := HPM.out.keys
            obtain ⟨kb, ko, e1, l1, f1⟩ := HA6.out (by rintro rfl; simp at hj1)
            subst e1
            have g0 := f1 j hj1
            have g1 := HR.out.2.cellW g0 l1 (hTS0.ne_cell g0)
            have htm := HE.out.2 ks[j] (List.getElem_mem hj1)
            obtain ⟨W7, hrun, h7, hg7⟩ := putTS hTS2 (by have := HL.out; have := HE.out.1; simp only [maxLen]; omega) htm (x := x) (by omega)
            have H7 : Hid (PmQ W7 R g bk bc l m x ks (j + 1) ∧ Only (fun x => x = bk) w6 W7) := Lib.hid ⟨HR.out.1.next hj1 hnk2 h7 hg7, HR.out.2.grown hg7 (fun k e => .inl (Option.some.inj e).symm)⟩
            obtain ⟨t, ht⟩ : ∃ t, t = ks[j] := ⟨_, rfl⟩
            rw [← ht] at g1 hrun
            clear f1 l1 g0 htm h7 hg7 hTS2 hnk2 hTS0 ht q4 z4
            go_wp2
            exact ⟨⟨j + 1, by omega, by congr 1, H7⟩, by simp only [intOf]; omega⟩
          · have hji : ¬ (j : Int) < N := by omega
            obtain rfl : N = j := by omega
            have hfin := HR.out.1
            rw [show N = ks.length from HA1.out.1] at hfin
            have hd := hfin.done HBB.out.symm HX.out.1 HM.out.2.2 HE.out.1
            obtain ⟨C, hC⟩ : ∃ C, C = countW (wavesM l) := ⟨_, rfl⟩
            have hCl : C ≤ 1000 := by rw [hC]; exact Nat.le_trans (countW_le l) HL.out
            rw [← hC] at hd q4
            have hmx : ∀ (ts : Array TypeId) (ty : TypeId) (w : World), (Builtin.max_ ts ty #[.int .i64 (C : Int), .int .i64 ((x : Int) + 1)]).run Tryz.prog w = .ok (.int .i64 ((max C (x + 1) : Nat) : Int)) w := fun ts ty w => run_maxN ts ty w C (x + 1)
            have HD : Hid (PsQ (wr.setCell ⟨R, 4, none⟩ (.int .i64 ((max C (x + 1) : Nat) : Int))) R g bk bc (l ++ [m]) ∧ Only (fun x => x = R ∨ x = bk ∨ x = bc) w (wr.setCell ⟨R, 4, none⟩ (.int .i64 ((max C (x + 1) : Nat) : Int)))) := Lib.hid ⟨hd, Only.setCell (p := ⟨R, 4, none⟩) (HO6.out.trans HR.out.2 (fun x e => .inl (.inr (.inl e)))) (.inl (.inl rfl)) _⟩
            obtain ⟨M, hM⟩ : ∃ M, M = max C (x + 1) := ⟨_, rfl⟩
            rw [← hM] at hmx HD
            clear hfin hd hC hCl hM hlt
            go_wp2
            go_ret
            exact ⟨by rw [HX.out.1]; rfl, HD.out⟩
end Go.Proofs.YtfjmdkhemnmkpaaGreatDoor
