/- The statement of the law FrameRows that tells where a frame's sum begins, whatever its order of evaluation. -/
import Derived.Test.YtbhncffeoolhfaaDoorFrCmp
namespace Go.Proofs.YtbhncffeoolhfaaDoor
open Go.RowKit

theorem run_ixI (w : World) (b o L c q : Nat) (h : q < L) : (Instr.indexAt 35 (.slice (some ⟨b, o, none⟩) L c) (.int .i64 (q : Int))).run Tryd.prog w = .ok (.pointer (some ⟨b, o + q, none⟩)) w := by
  have h1 : (0 : Int) ≤ q := by omega
  have h2 : (q : Int) < L := by omega
  simp [go_sem, h1, h2, h]
theorem run_ldI (w : World) (p : Addr) (n : Int) (h : w.cell? p = some (.int .i64 n)) : (Instr.loadAt 3 (.pointer (some p))).run Tryd.prog w = .ok (.int .i64 n) w := by
  simp [go_sem, h]
theorem run_subi (t : TypeId) (w : World) (x y z : Int) (h1 : -9223372036854775808 ≤ x - y) (h2 : x - y ≤ 9223372036854775807) (hz : x - y = z) : (binOp .sub t (.int .i64 x) (.int .i64 y)).run Tryd.prog w = .ok (.int .i64 z) w := by
  subst hz
  simp [go_sem, IntKind.wrap_i64]; omega
def oFR290 (p : String) : Oper := { dst := some 178, op := Op.move (Operand.tmp 8), type := 35, pos := p, after := #[], guard := none }
def oFR291 (p : String) : Oper := { dst := some 179, op := Op.move (Operand.tmp 19), type := 3, pos := p, after := #[], guard := none }
def oFR292 (p : String) : Oper := { dst := some 180, op := Op.indexAddr 35 (Operand.tmp 178) (Operand.tmp 179), type := 0, pos := p, after := #[{ on := 0, ground := Ground.data }, { on := 1, ground := Ground.data }], guard := none }
def oFR293 (p : String) : Oper := { dst := some 181, op := Op.load 3 (Operand.tmp 180), type := 3, pos := p, after := #[{ on := 2, ground := Ground.data }], guard := none }
def oFR294 (p : String) : Oper := { dst := some 182, op := Op.move (Operand.tmp 0), type := 30, pos := p, after := #[], guard := none }
def oFR295 (p : String) : Oper := { dst := some 183, op := Op.move (Operand.tmp 19), type := 3, pos := p, after := #[], guard := none }
def oFR296 (p : String) : Oper := { dst := some 184, op := Op.indexAddr 30 (Operand.tmp 182) (Operand.tmp 183), type := 0, pos := p, after := #[{ on := 4, ground := Ground.data }, { on := 5, ground := Ground.data }], guard := none }
def oFR297 (p : String) : Oper := { dst := some 185, op := Op.load 22 (Operand.tmp 184), type := 22, pos := p, after := #[{ on := 6, ground := Ground.data }], guard := none }
def oFR298 (p : String) : Oper := { dst := some 186, op := Op.call { callee := Callee.builtin Builtin.len, args := #[Operand.tmp 185], argTypes := #[22] }, type := 3, pos := p, after := #[{ on := 7, ground := Ground.data }], guard := none }
def oFR299 (p : String) : Oper := { dst := some 187, op := Op.binOp BinOp.sub 3 (Operand.tmp 181) (Operand.tmp 186) 3, type := 3, pos := p, after := #[{ on := 3, ground := Ground.data }, { on := 8, ground := Ground.data }], guard := none }
def oFR2910 (p : String) : Oper := { dst := some 188, op := Op.binOp BinOp.sub 3 (Operand.tmp 187) (Operand.const (Value.int IntKind.i64 4)) 3, type := 3, pos := p, after := #[{ on := 9, ground := Ground.data }], guard := none }
def oFR2911 (p : String) : Oper := { dst := some 20, op := Op.assign (Operand.tmp 188), type := 3, pos := p, after := #[{ on := 10, ground := Ground.data }, { on := 0, ground := Ground.phase }, { on := 1, ground := Ground.phase }, { on := 2, ground := Ground.phase }, { on := 3, ground := Ground.phase }, { on := 4, ground := Ground.phase }, { on := 5, ground := Ground.phase }, { on := 6, ground := Ground.phase }, { on := 7, ground := Ground.phase }, { on := 8, ground := Ground.phase }, { on := 9, ground := Ground.phase }, { on := 10, ground := Ground.phase }], guard := none }
def opsFR29 (p : String) : List Oper := [oFR290 p, oFR291 p, oFR292 p, oFR293 p, oFR294 p, oFR295 p, oFR296 p, oFR297 p, oFR298 p, oFR299 p, oFR2910 p, oFR2911 p]
theorem opsFR29_back (p : String) : backwards (opsFR29 p) = true := by kernel_rfl
theorem opsFR29_slots (p : String) : slotsOk 233 (opsFR29 p) = true := by kernel_rfl
/-- What each slot comes to. -/
def psiFR29 (ge k ce b0 o0 c0 I E P : Nat) (A3 : Option Addr) (L3 c3 : Nat) : Nat → Value → World → Prop
  | 0, v, _ => v = .slice (some ⟨ge, 0, none⟩) k ce
  | 1, v, _ => v = .int .i64 (I : Int)
  | 2, v, _ => v = .pointer (some ⟨ge, 0 + I, none⟩)
  | 3, v, _ => v = .int .i64 (E : Int)
  | 4, v, _ => v = .slice (some ⟨b0, o0, none⟩) k c0
  | 5, v, _ => v = .int .i64 (I : Int)
  | 6, v, _ => v = .pointer (some ⟨b0, o0 + I, none⟩)
  | 7, v, _ => v = .slice A3 L3 c3
  | 8, v, _ => v = .int .i64 (L3 : Int)
  | 9, v, _ => v = .int .i64 ((E : Int) - (L3 : Int))
  | 10, v, _ => v = .int .i64 (P : Int)
  | 11, v, _ => v = .int .i64 (P : Int)
  | _, _, _ => True
theorem psiFR29_grew (ge k ce b0 o0 c0 I E P : Nat) (A3 : Option Addr) (L3 c3 : Nat) : ∀ i v w w', psiFR29 ge k ce b0 o0 c0 I E P A3 L3 c3 i v w → Grew w w' → psiFR29 ge k ce b0 o0 c0 I E P A3 L3 c3 i v w' := by
  intro i v w w' h hg
  rcases i with _ | _ | _ | _ | _ | _ | _ | _ | _ | _ | _ | _ | i
  · exact h
  · exact h
  · exact h
  · exact h
  · exact h
  · exact h
  · exact h
  · exact h
  · exact h
  · exact h
  · exact h
  · exact h
  · trivial
set_option maxRecDepth 100000 in
set_option maxHeartbeats 4000000 in
theorem frows_from {p : String} (ge k ce b0 o0 c0 I E P : Nat) (A3 : Option Addr) (L3 c3 : Nat) (hI : I < k) (hE : E ≤ 100000) (hP : E = P + 4 + L3) (a : Act) (w : World) (Q : Exit → Act → World → Prop) (hN : a.tmps.size = 233) (h0 : a.tmps.getD 0 undef = .slice (some ⟨b0, o0, none⟩) k c0) (h8 : a.tmps.getD 8 undef = .slice (some ⟨ge, 0, none⟩) k ce) (h19 : a.tmps.getD 19 undef = .int .i64 (I : Int)) (hge : ge < w.heap.size) (hb0 : b0 < w.heap.size) (hx1 : w.cell? ⟨ge, 0 + I, none⟩ = some (.int .i64 (E : Int))) (hx2 : w.cell? ⟨b0, o0 + I, none⟩ = some (.slice A3 L3 c3)) (hQ : ∀ (w' : World), Grew w w' → Q .normal (puts [(178, .slice (some ⟨ge, 0, none⟩) k ce), (179, .int .i64 (I : Int)), (180, .pointer (some ⟨ge, 0 + I, none⟩)), (181, .int .i64 (E : Int)), (182, .slice (some ⟨b0, o0, none⟩) k c0), (183, .int .i64 (I : Int)), (184, .pointer (some ⟨b0, o0 + I, none⟩)), (185, .slice A3 L3 c3), (186, .int .i64 (L3 : Int)), (187, .int .i64 ((E : Int) - (L3 : Int))), (188, .int .i64 (P : Int)), (20, .int .i64 (P : Int))] a) w')
    : (Code.region 29 (opsFR29 p).toArray true).wp Tryd.prog Q a w := by
  refine (wpIn_wide (n := 1)).1 (wpIn_region_vals 233 hN follows (opsFR29_back p) (opsFR29_slots p) Grew Grew.refl Grew.trans (psiFR29 ge k ce b0 o0 c0 I E P A3 L3 c3) (psiFR29_grew ge k ce b0 o0 c0 I E P A3 L3 c3) ?_ ?_)
  · intro i o d ho hd a' w' hF hR hp
    rcases i with _ | _ | _ | _ | _ | _ | _ | _ | _ | _ | _ | _ | i
    · obtain rfl : oFR290 p = o := Option.some.inj ho
      obtain rfl : 178 = d := Option.some.inj hd
      exact step_move rfl rfl rfl (hF.at 8 rfl h8) ⟨_, rfl, rfl, Grew.refl _⟩
    · obtain rfl : oFR291 p = o := Option.some.inj ho
      obtain rfl : 179 = d := Option.some.inj hd
      exact step_move rfl rfl rfl (hF.at 19 rfl h19) ⟨_, rfl, rfl, Grew.refl _⟩
    · obtain rfl : oFR292 p = o := Option.some.inj ho
      obtain rfl : 180 = d := Option.some.inj hd
      have q0 : a'.tmps.getD 178 undef = .slice (some ⟨ge, 0, none⟩) k ce := hp 0 (oFR290 p) 178 rfl rfl rfl
      have q1 : a'.tmps.getD 179 undef = .int .i64 (I : Int) := hp 1 (oFR291 p) 179 rfl rfl rfl
      exact step_index rfl rfl rfl q0 q1 (run_ixI _ _ _ _ _ _ hI) ⟨_, rfl, rfl, Grew.refl _⟩
    · obtain rfl : oFR293 p = o := Option.some.inj ho
      obtain rfl : 181 = d := Option.some.inj hd
      have q2 : a'.tmps.getD 180 undef = .pointer (some ⟨ge, 0 + I, none⟩) := hp 2 (oFR292 p) 180 rfl rfl rfl
      exact step_load rfl rfl rfl q2 (run_ldI _ _ _ ((Below.cell hR.undraw (p := ⟨ge, 0 + I, none⟩) hge).trans hx1)) ⟨_, rfl, rfl, Grew.refl _⟩
    · obtain rfl : oFR294 p = o := Option.some.inj ho
      obtain rfl : 182 = d := Option.some.inj hd
      exact step_move rfl rfl rfl (hF.at 0 rfl h0) ⟨_, rfl, rfl, Grew.refl _⟩
    · obtain rfl : oFR295 p = o := Option.some.inj ho
      obtain rfl : 183 = d := Option.some.inj hd
      exact step_move rfl rfl rfl (hF.at 19 rfl h19) ⟨_, rfl, rfl, Grew.refl _⟩
    · obtain rfl : oFR296 p = o := Option.some.inj ho
      obtain rfl : 184 = d := Option.some.inj hd
      have q4 : a'.tmps.getD 182 undef = .slice (some ⟨b0, o0, none⟩) k c0 := hp 4 (oFR294 p) 182 rfl rfl rfl
      have q5 : a'.tmps.getD 183 undef = .int .i64 (I : Int) := hp 5 (oFR295 p) 183 rfl rfl rfl
      exact step_index rfl rfl rfl q4 q5 (run_ixB _ _ _ _ _ _ hI) ⟨_, rfl, rfl, Grew.refl _⟩
    · obtain rfl : oFR297 p = o := Option.some.inj ho
      obtain rfl : 185 = d := Option.some.inj hd
      have q6 : a'.tmps.getD 184 undef = .pointer (some ⟨b0, o0 + I, none⟩) := hp 6 (oFR296 p) 184 rfl rfl rfl
      exact step_load rfl rfl rfl q6 (run_ldB _ _ _ _ _ ((Below.cell hR.undraw (p := ⟨b0, o0 + I, none⟩) hb0).trans hx2)) ⟨_, rfl, rfl, Grew.refl _⟩
    · obtain rfl : oFR298 p = o := Option.some.inj ho
      obtain rfl : 186 = d := Option.some.inj hd
      have q7 : a'.tmps.getD 185 undef = .slice A3 L3 c3 := hp 7 (oFR297 p) 185 rfl rfl rfl
      exact step_len Tryd.underlying22 rfl rfl rfl q7 ⟨_, rfl, rfl, Grew.refl _⟩
    · obtain rfl : oFR299 p = o := Option.some.inj ho
      obtain rfl : 187 = d := Option.some.inj hd
      have q3 : a'.tmps.getD 181 undef = .int .i64 (E : Int) := hp 3 (oFR293 p) 181 rfl rfl rfl
      have q8 : a'.tmps.getD 186 undef = .int .i64 (L3 : Int) := hp 8 (oFR298 p) 186 rfl rfl rfl
      exact step_bin rfl rfl rfl q3 q8 (guard_int _ _ _ _ _ _ _ _ _) (run_subi _ _ _ _ _ (by omega) (by omega) rfl) ⟨_, rfl, rfl, Grew.refl _⟩
    · obtain rfl : oFR2910 p = o := Option.some.inj ho
      obtain rfl : 188 = d := Option.some.inj hd
      have q9 : a'.tmps.getD 187 undef = .int .i64 ((E : Int) - (L3 : Int)) := hp 9 (oFR299 p) 187 rfl rfl rfl
      exact step_bin rfl rfl rfl q9 rfl (guard_int _ _ _ _ _ _ _ _ _) (run_subi _ _ _ _ _ (by omega) (by omega) (by omega)) ⟨_, rfl, rfl, Grew.refl _⟩
    · obtain rfl : oFR2911 p = o := Option.some.inj ho
      obtain rfl : 20 = d := Option.some.inj hd
      have q10 : a'.tmps.getD 188 undef = .int .i64 (P : Int) := hp 10 (oFR2910 p) 188 rfl rfl rfl
      exact step_assign rfl rfl rfl q10 ⟨_, rfl, rfl, Grew.refl _⟩
    · exact absurd ((Array.getElem?_eq_some_iff.1 ho).1) (by simp [opsFR29])
  · intro a' w' hF hR hp
    have e0 : psiFR29 ge k ce b0 o0 c0 I E P A3 L3 c3 0 (a'.tmps.getD 178 undef) w' := hp 0 (oFR290 p) 178 rfl rfl
    have e1 : psiFR29 ge k ce b0 o0 c0 I E P A3 L3 c3 1 (a'.tmps.getD 179 undef) w' := hp 1 (oFR291 p) 179 rfl rfl
    have e2 : psiFR29 ge k ce b0 o0 c0 I E P A3 L3 c3 2 (a'.tmps.getD 180 undef) w' := hp 2 (oFR292 p) 180 rfl rfl
    have e3 : psiFR29 ge k ce b0 o0 c0 I E P A3 L3 c3 3 (a'.tmps.getD 181 undef) w' := hp 3 (oFR293 p) 181 rfl rfl
    have e4 : psiFR29 ge k ce b0 o0 c0 I E P A3 L3 c3 4 (a'.tmps.getD 182 undef) w' := hp 4 (oFR294 p) 182 rfl rfl
    have e5 : psiFR29 ge k ce b0 o0 c0 I E P A3 L3 c3 5 (a'.tmps.getD 183 undef) w' := hp 5 (oFR295 p) 183 rfl rfl
    have e6 : psiFR29 ge k ce b0 o0 c0 I E P A3 L3 c3 6 (a'.tmps.getD 184 undef) w' := hp 6 (oFR296 p) 184 rfl rfl
    have e7 : psiFR29 ge k ce b0 o0 c0 I E P A3 L3 c3 7 (a'.tmps.getD 185 undef) w' := hp 7 (oFR297 p) 185 rfl rfl
    have e8 : psiFR29 ge k ce b0 o0 c0 I E P A3 L3 c3 8 (a'.tmps.getD 186 undef) w' := hp 8 (oFR298 p) 186 rfl rfl
    have e9 : psiFR29 ge k ce b0 o0 c0 I E P A3 L3 c3 9 (a'.tmps.getD 187 undef) w' := hp 9 (oFR299 p) 187 rfl rfl
    have e10 : psiFR29 ge k ce b0 o0 c0 I E P A3 L3 c3 10 (a'.tmps.getD 188 undef) w' := hp 10 (oFR2910 p) 188 rfl rfl
    have e11 : psiFR29 ge k ce b0 o0 c0 I E P A3 L3 c3 11 (a'.tmps.getD 20 undef) w' := hp 11 (oFR2911 p) 20 rfl rfl
    rw [hF.puts [(178, .slice (some ⟨ge, 0, none⟩) k ce), (179, .int .i64 (I : Int)), (180, .pointer (some ⟨ge, 0 + I, none⟩)), (181, .int .i64 (E : Int)), (182, .slice (some ⟨b0, o0, none⟩) k c0), (183, .int .i64 (I : Int)), (184, .pointer (some ⟨b0, o0 + I, none⟩)), (185, .slice A3 L3 c3), (186, .int .i64 (L3 : Int)), (187, .int .i64 ((E : Int) - (L3 : Int))), (188, .int .i64 (P : Int)), (20, .int .i64 (P : Int))] ?_ rfl (by rw [hN]; rfl)]
    · exact hQ  w'  hR.undraw
    · intro x hx
      simp only [List.mem_cons, List.not_mem_nil, or_false] at hx
      rcases hx with rfl | rfl | rfl | rfl | rfl | rfl | rfl | rfl | rfl | rfl | rfl | rfl
      · exact e0
      · exact e1
      · exact e2
      · exact e3
      · exact e4
      · exact e5
      · exact e6
      · exact e7
      · exact e8
      · exact e9
      · exact e10
      · exact e11
end Go.Proofs.YtbhncffeoolhfaaDoor
