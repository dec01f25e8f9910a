/- The reference's All: the statement that holds two commands against each other, whatever its order of evaluation. -/
import Derived.Test.YtfaplmpenlbajaaDoorCmSame
import Derived.Test.YtfaplmpenlbajaaDoorCmRow
import Derived.Test.YtfaplmpenlbajaaDoorMBase
namespace Go.Proofs.YtfaplmpenlbajaaDoor
open Go.RowKit

theorem run_ixC (w : World) (b o L c q : Nat) (h : q < L) : (Instr.indexAt 22 (.slice (some ⟨b, o, none⟩) L c) (.int .i64 (q : Int))).run Tryd.prog w = .ok (.pointer (some ⟨b, o + q * 7, none⟩)) w := by
  have h1 : (0 : Int) ≤ q := by omega
  have h2 : (q : Int) < L := by omega
  simp [go_sem, h1, h2]
theorem run_ldC (w : World) (b o : Nat) (x : CmdV) (h : ∀ i u, x.cells[i]? = some u → w.cell? ⟨b, o + i, none⟩ = some u) : (Instr.loadAt 26 (.pointer (some ⟨b, o, none⟩))).run Tryd.prog w = .ok x.val w := by
  have h0 := h 0 _ rfl
  have h1 := h 1 _ rfl
  have h2 := h 2 _ rfl
  have h3 := h 3 _ rfl
  have h4 := h 4 _ rfl
  have h5 := h 5 _ rfl
  have h6 := h 6 _ rfl
  simp only [Nat.add_zero] at h0
  simp [go_sem, h0, h1, h2, h3, h4, h5, h6, CmdV.val, CmdV.cells]
theorem run_notC (w : World) (b : Bool) : (Op.unary .not (.bool b)).run Tryd.prog w = .ok (.bool (!b)) w := by
  simp [go_sem, Op.unary]
section
variable {n : Nat} {Q : Exit → Act → World → Prop} {ops : Array Oper} {i : Nat} {o : Oper} {a : Act} {w : World} {K : Act → World → Prop}
theorem step_callC {f : FuncId} {xs : Array Operand} {ts : Array TypeId} {vs : Array Value} (hi : ops[i]? = some o) (hw : Region.wanted o (yielded ops a.tmps) = true)
    (ho : o.op = .call { callee := .value (.func f), args := xs, argTypes := ts }) (eg : ∀ args w, (callFunc f args).run Tryd.prog w = .ok (.enter f args) w) (hxs : xs.map a.eval = vs) (hc : Calls Tryd.prog f vs w fun e w' => ∃ v, e = .returned v ∧ K (a.put o.dst v) w') : wpOpIn Fence.wide n Tryd.prog ops Q i K a w := by
  refine step_call hi hw ho trivial (fun h => by cases h) eg ?_
  rw [hxs]
  exact callsIn_wide.2 hc
end
def oCA60 (p : String) : Oper := { dst := some 17, op := Op.move (Operand.tmp 0), type := 22, pos := p, after := #[], guard := none }
def oCA61 (p : String) : Oper := { dst := some 18, op := Op.move (Operand.tmp 5), type := 3, pos := p, after := #[], guard := none }
def oCA62 (p : String) : Oper := { dst := some 19, op := Op.indexAddr 22 (Operand.tmp 17) (Operand.tmp 18), type := 0, pos := p, after := #[{ on := 0, ground := Ground.data }, { on := 1, ground := Ground.data }], guard := none }
def oCA63 (p : String) : Oper := { dst := some 20, op := Op.load 26 (Operand.tmp 19), type := 26, pos := p, after := #[{ on := 2, ground := Ground.data }], guard := none }
def oCA64 (p : String) : Oper := { dst := some 21, op := Op.move (Operand.tmp 1), type := 22, pos := p, after := #[], guard := none }
def oCA65 (p : String) : Oper := { dst := some 22, op := Op.move (Operand.tmp 5), type := 3, pos := p, after := #[], guard := none }
def oCA66 (p : String) : Oper := { dst := some 23, op := Op.indexAddr 22 (Operand.tmp 21) (Operand.tmp 22), type := 0, pos := p, after := #[{ on := 4, ground := Ground.data }, { on := 5, ground := Ground.data }], guard := none }
def oCA67 (p : String) : Oper := { dst := some 24, op := Op.load 26 (Operand.tmp 23), type := 26, pos := p, after := #[{ on := 6, ground := Ground.data }], guard := none }
def oCA68 (p : String) : Oper := { dst := some 25, op := Op.call { callee := Callee.value (Operand.func 15), args := #[Operand.tmp 20, Operand.tmp 24], argTypes := #[26, 26] }, type := 4, pos := p, after := #[{ on := 3, ground := Ground.data }, { on := 7, ground := Ground.data }], guard := none }
def oCA69 (p : String) : Oper := { dst := some 26, op := Op.unOp UnOp.not 4 (Operand.tmp 25), type := 4, pos := p, after := #[{ on := 8, ground := Ground.data }], guard := none }
def opsCA6 (p : String) : List Oper := [oCA60 p, oCA61 p, oCA62 p, oCA63 p, oCA64 p, oCA65 p, oCA66 p, oCA67 p, oCA68 p, oCA69 p]
theorem opsCA6_back (p : String) : backwards (opsCA6 p) = true := by kernel_rfl
theorem opsCA6_slots (p : String) : slotsOk 27 (opsCA6 p) = true := by kernel_rfl
/-- What each slot comes to. -/
def psiCA6 (b1 o1 L1 c1 b2 o2 L2 c2 q : Nat) (x y : CmdV) : Nat → Value → World → Prop
  | 0, v, _ => v = .slice (some ⟨b1, o1, none⟩) L1 c1
  | 1, v, _ => v = .int .i64 (q : Int)
  | 2, v, _ => v = .pointer (some ⟨b1, o1 + q * 7, none⟩)
  | 3, v, _ => v = x.val
  | 4, v, _ => v = .slice (some ⟨b2, o2, none⟩) L2 c2
  | 5, v, _ => v = .int .i64 (q : Int)
  | 6, v, _ => v = .pointer (some ⟨b2, o2 + q * 7, none⟩)
  | 7, v, _ => v = y.val
  | 8, v, _ => v = .bool (x.same y)
  | 9, v, _ => v = .bool (!(x.same y))
  | _, _, _ => True
theorem psiCA6_grew (b1 o1 L1 c1 b2 o2 L2 c2 q : Nat) (x y : CmdV) : ∀ i v w w', psiCA6 b1 o1 L1 c1 b2 o2 L2 c2 q x y i v w → Grew w w' → psiCA6 b1 o1 L1 c1 b2 o2 L2 c2 q x y i v w' := by
  intro i v w w' h hg
  rcases i with _ | _ | _ | _ | _ | _ | _ | _ | _ | _ | i
  · exact h
  · exact h
  · exact h
  · exact h
  · exact h
  · exact h
  · exact h
  · exact h
  · exact h
  · exact h
  · trivial
set_option maxRecDepth 100000 in
set_option maxHeartbeats 4000000 in
theorem all_cmp {p : String} (b1 o1 L1 c1 b2 o2 L2 c2 q : Nat) (x y : CmdV) (hq1 : q < L1) (hq2 : q < L2) (a : Act) (w : World) (Q : Exit → Act → World → Prop) (hN : a.tmps.size = 27) (h0 : a.tmps.getD 0 undef = .slice (some ⟨b1, o1, none⟩) L1 c1) (h1 : a.tmps.getD 1 undef = .slice (some ⟨b2, o2, none⟩) L2 c2) (h5 : a.tmps.getD 5 undef = .int .i64 (q : Int)) (hb1 : b1 < w.heap.size) (hb2 : b2 < w.heap.size) (hc1 : ∀ i u, x.cells[i]? = some u → w.cell? ⟨b1, o1 + q * 7 + i, none⟩ = some u) (hc2 : ∀ i u, y.cells[i]? = some u → w.cell? ⟨b2, o2 + q * 7 + i, none⟩ = some u) (hx : x.ok w) (hy : y.ok w) (hQ : ∀ (w' : World), Grew w w' → Q .normal (puts [(17, .slice (some ⟨b1, o1, none⟩) L1 c1), (18, .int .i64 (q : Int)), (19, .pointer (some ⟨b1, o1 + q * 7, none⟩)), (20, x.val), (21, .slice (some ⟨b2, o2, none⟩) L2 c2), (22, .int .i64 (q : Int)), (23, .pointer (some ⟨b2, o2 + q * 7, none⟩)), (24, y.val), (25, .bool (x.same y)), (26, .bool (!(x.same y)))] a) w')
    : (Code.region 6 (opsCA6 p).toArray true).wp Tryd.prog Q a w := by
  refine (wpIn_wide (n := 1)).1 (wpIn_region_vals 27 hN follows (opsCA6_back p) (opsCA6_slots p) Grew Grew.refl Grew.trans (psiCA6 b1 o1 L1 c1 b2 o2 L2 c2 q x y) (psiCA6_grew b1 o1 L1 c1 b2 o2 L2 c2 q x y) ?_ ?_)
  · intro i o d ho hd a' w' hF hR hp
    rcases i with _ | _ | _ | _ | _ | _ | _ | _ | _ | _ | i
    · obtain rfl : oCA60 p = o := Option.some.inj ho
      obtain rfl : 17 = d := Option.some.inj hd
      exact step_move rfl rfl rfl (hF.at 0 rfl h0) ⟨_, rfl, rfl, Grew.refl _⟩
    · obtain rfl : oCA61 p = o := Option.some.inj ho
      obtain rfl : 18 = d := Option.some.inj hd
      exact step_move rfl rfl rfl (hF.at 5 rfl h5) ⟨_, rfl, rfl, Grew.refl _⟩
    · obtain rfl : oCA62 p = o := Option.some.inj ho
      obtain rfl : 19 = d := Option.some.inj hd
      have q0 : a'.tmps.getD 17 undef = .slice (some ⟨b1, o1, none⟩) L1 c1 := hp 0 (oCA60 p) 17 rfl rfl rfl
      have q1 : a'.tmps.getD 18 undef = .int .i64 (q : Int) := hp 1 (oCA61 p) 18 rfl rfl rfl
      exact step_index rfl rfl rfl q0 q1 (run_ixC _ _ _ _ _ _ hq1) ⟨_, rfl, rfl, Grew.refl _⟩
    · obtain rfl : oCA63 p = o := Option.some.inj ho
      obtain rfl : 20 = d := Option.some.inj hd
      have q2 : a'.tmps.getD 19 undef = .pointer (some ⟨b1, o1 + q * 7, none⟩) := hp 2 (oCA62 p) 19 rfl rfl rfl
      exact step_load rfl rfl rfl q2 (run_ldC _ _ _ _ (fun i u hu => (Below.cell hR.undraw (p := ⟨b1, o1 + q * 7 + i, none⟩) hb1).trans (hc1 i u hu))) ⟨_, rfl, rfl, Grew.refl _⟩
    · obtain rfl : oCA64 p = o := Option.some.inj ho
      obtain rfl : 21 = d := Option.some.inj hd
      exact step_move rfl rfl rfl (hF.at 1 rfl h1) ⟨_, rfl, rfl, Grew.refl _⟩
    · obtain rfl : oCA65 p = o := Option.some.inj ho
      obtain rfl : 22 = d := Option.some.inj hd
      exact step_move rfl rfl rfl (hF.at 5 rfl h5) ⟨_, rfl, rfl, Grew.refl _⟩
    · obtain rfl : oCA66 p = o := Option.some.inj ho
      obtain rfl : 23 = d := Option.some.inj hd
      have q4 : a'.tmps.getD 21 undef = .slice (some ⟨b2, o2, none⟩) L2 c2 := hp 4 (oCA64 p) 21 rfl rfl rfl
      have q5 : a'.tmps.getD 22 undef = .int .i64 (q : Int) := hp 5 (oCA65 p) 22 rfl rfl rfl
      exact step_index rfl rfl rfl q4 q5 (run_ixC _ _ _ _ _ _ hq2) ⟨_, rfl, rfl, Grew.refl _⟩
    · obtain rfl : oCA67 p = o := Option.some.inj ho
      obtain rfl : 24 = d := Option.some.inj hd
      have q6 : a'.tmps.getD 23 undef = .pointer (some ⟨b2, o2 + q * 7, none⟩) := hp 6 (oCA66 p) 23 rfl rfl rfl
      exact step_load rfl rfl rfl q6 (run_ldC _ _ _ _ (fun i u hu => (Below.cell hR.undraw (p := ⟨b2, o2 + q * 7 + i, none⟩) hb2).trans (hc2 i u hu))) ⟨_, rfl, rfl, Grew.refl _⟩
    · obtain rfl : oCA68 p = o := Option.some.inj ho
      obtain rfl : 25 = d := Option.some.inj hd
      have q3 : a'.tmps.getD 20 undef = x.val := hp 3 (oCA63 p) 20 rfl rfl rfl
      have q7 : a'.tmps.getD 24 undef = y.val := hp 7 (oCA67 p) 24 rfl rfl rfl
      refine step_callC rfl rfl rfl (enters_of Tryd.func15 (by kernel_rfl) rfl) (show Array.map a'.eval #[.tmp 20, .tmp 24] = _ from by simp only [List.map_toArray, List.map_cons, List.map_nil, Act.eval, q3, q7]) ((refSame_any x y _ (hx.below hR.undraw) (hy.below hR.undraw)).mono ?_)
      rintro e w'' ⟨rfl, hb⟩
      exact ⟨_, rfl, _, rfl, rfl, hb⟩
    · obtain rfl : oCA69 p = o := Option.some.inj ho
      obtain rfl : 26 = d := Option.some.inj hd
      have q8 : a'.tmps.getD 25 undef = .bool (x.same y) := hp 8 (oCA68 p) 25 rfl rfl rfl
      exact step_un rfl rfl rfl q8 (run_notC _ _) ⟨_, rfl, rfl, Grew.refl _⟩
    · exact absurd ((Array.getElem?_eq_some_iff.1 ho).1) (by simp [opsCA6])
  · intro a' w' hF hR hp
    have e0 : psiCA6 b1 o1 L1 c1 b2 o2 L2 c2 q x y 0 (a'.tmps.getD 17 undef) w' := hp 0 (oCA60 p) 17 rfl rfl
    have e1 : psiCA6 b1 o1 L1 c1 b2 o2 L2 c2 q x y 1 (a'.tmps.getD 18 undef) w' := hp 1 (oCA61 p) 18 rfl rfl
    have e2 : psiCA6 b1 o1 L1 c1 b2 o2 L2 c2 q x y 2 (a'.tmps.getD 19 undef) w' := hp 2 (oCA62 p) 19 rfl rfl
    have e3 : psiCA6 b1 o1 L1 c1 b2 o2 L2 c2 q x y 3 (a'.tmps.getD 20 undef) w' := hp 3 (oCA63 p) 20 rfl rfl
    have e4 : psiCA6 b1 o1 L1 c1 b2 o2 L2 c2 q x y 4 (a'.tmps.getD 21 undef) w' := hp 4 (oCA64 p) 21 rfl rfl
    have e5 : psiCA6 b1 o1 L1 c1 b2 o2 L2 c2 q x y 5 (a'.tmps.getD 22 undef) w' := hp 5 (oCA65 p) 22 rfl rfl
    have e6 : psiCA6 b1 o1 L1 c1 b2 o2 L2 c2 q x y 6 (a'.tmps.getD 23 undef) w' := hp 6 (oCA66 p) 23 rfl rfl
    have e7 : psiCA6 b1 o1 L1 c1 b2 o2 L2 c2 q x y 7 (a'.tmps.getD 24 undef) w' := hp 7 (oCA67 p) 24 rfl rfl
    have e8 : psiCA6 b1 o1 L1 c1 b2 o2 L2 c2 q x y 8 (a'.tmps.getD 25 undef) w' := hp 8 (oCA68 p) 25 rfl rfl
    have e9 : psiCA6 b1 o1 L1 c1 b2 o2 L2 c2 q x y 9 (a'.tmps.getD 26 undef) w' := hp 9 (oCA69 p) 26 rfl rfl
    rw [hF.puts [(17, .slice (some ⟨b1, o1, none⟩) L1 c1), (18, .int .i64 (q : Int)), (19, .pointer (some ⟨b1, o1 + q * 7, none⟩)), (20, x.val), (21, .slice (some ⟨b2, o2, none⟩) L2 c2), (22, .int .i64 (q : Int)), (23, .pointer (some ⟨b2, o2 + q * 7, none⟩)), (24, y.val), (25, .bool (x.same y)), (26, .bool (!(x.same y)))] ?_ rfl (by rw [hN]; rfl)]
    · exact hQ  w'  hR.undraw
    · intro x hx
      simp only [List.mem_cons, List.not_mem_nil, or_false] at hx
      rcases hx with rfl | rfl | rfl | rfl | rfl | rfl | rfl | rfl | rfl | rfl
      · exact e0
      · exact e1
      · exact e2
      · exact e3
      · exact e4
      · exact e5
      · exact e6
      · exact e7
      · exact e8
      · exact e9
end Go.Proofs.YtfaplmpenlbajaaDoor
