/- The statements that hold two rows of slices against each other, whatever their order of evaluation. -/
import Derived.Test.YtbhncffeoolhfaaDoorFrSpec
namespace Go.Proofs.YtbhncffeoolhfaaDoor
open Go.RowKit

theorem run_ixB (w : World) (b o L c q : Nat) (h : q < L) : (Instr.indexAt 30 (.slice (some ⟨b, o, none⟩) L c) (.int .i64 (q : Int))).run Tryd.prog w = .ok (.pointer (some ⟨b, o + q, none⟩)) w := by
  have h1 : (0 : Int) ≤ q := by omega
  have h2 : (q : Int) < L := by omega
  simp [go_sem, h1, h2, h]
theorem run_ldB (w : World) (p : Addr) (A : Option Addr) (L c : Nat) (h : w.cell? p = some (.slice A L c)) : (Instr.loadAt 22 (.pointer (some p))).run Tryd.prog w = .ok (.slice A L c) w := by
  simp [go_sem, h]
def oFT200 (p : String) : Oper := { dst := some 121, op := Op.move (Operand.tmp 13), type := 30, pos := p, after := #[], guard := none }
def oFT201 (p : String) : Oper := { dst := some 122, op := Op.move (Operand.tmp 19), type := 3, pos := p, after := #[], guard := none }
def oFT202 (p : String) : Oper := { dst := some 123, op := Op.indexAddr 30 (Operand.tmp 121) (Operand.tmp 122), type := 0, pos := p, after := #[{ on := 0, ground := Ground.data }, { on := 1, ground := Ground.data }], guard := none }
def oFT203 (p : String) : Oper := { dst := some 124, op := Op.load 22 (Operand.tmp 123), type := 22, pos := p, after := #[{ on := 2, ground := Ground.data }], guard := none }
def oFT204 (p : String) : Oper := { dst := some 125, op := Op.convert 22 9 (Operand.tmp 124), type := 9, pos := p, after := #[{ on := 3, ground := Ground.data }], guard := none }
def oFT205 (p : String) : Oper := { dst := some 126, op := Op.move (Operand.tmp 16), type := 30, pos := p, after := #[], guard := none }
def oFT206 (p : String) : Oper := { dst := some 127, op := Op.move (Operand.tmp 19), type := 3, pos := p, after := #[], guard := none }
def oFT207 (p : String) : Oper := { dst := some 128, op := Op.indexAddr 30 (Operand.tmp 126) (Operand.tmp 127), type := 0, pos := p, after := #[{ on := 5, ground := Ground.data }, { on := 6, ground := Ground.data }], guard := none }
def oFT208 (p : String) : Oper := { dst := some 129, op := Op.load 22 (Operand.tmp 128), type := 22, pos := p, after := #[{ on := 7, ground := Ground.data }], guard := none }
def oFT209 (p : String) : Oper := { dst := some 130, op := Op.convert 22 9 (Operand.tmp 129), type := 9, pos := p, after := #[{ on := 8, ground := Ground.data }], guard := none }
def oFT2010 (p : String) : Oper := { dst := some 131, op := Op.binOp BinOp.neq 9 (Operand.tmp 125) (Operand.tmp 130) 9, type := 4, pos := p, after := #[{ on := 4, ground := Ground.data }, { on := 9, ground := Ground.data }], guard := none }
def opsFT20 (p : String) : List Oper := [oFT200 p, oFT201 p, oFT202 p, oFT203 p, oFT204 p, oFT205 p, oFT206 p, oFT207 p, oFT208 p, oFT209 p, oFT2010 p]
theorem opsFT20_back (p : String) : backwards (opsFT20 p) = true := by kernel_rfl
theorem opsFT20_slots (p : String) : slotsOk 133 (opsFT20 p) = true := by kernel_rfl
/-- What each slot comes to. -/
def psiFT20 (b1 o1 L1 c1 b2 o2 L2 c2 q : Nat) (A3 : Option Addr) (L3 c3 : Nat) (A4 : Option Addr) (L4 c4 : Nat) (X : List UInt8) : Nat → Value → World → Prop
  | 0, v, _ => v = .slice (some ⟨b1, o1, none⟩) L1 c1
  | 1, v, _ => v = .int .i64 (q : Int)
  | 2, v, _ => v = .pointer (some ⟨b1, o1 + q, none⟩)
  | 3, v, _ => v = .slice A3 L3 c3
  | 4, v, _ => v = .string (str X)
  | 5, v, _ => v = .slice (some ⟨b2, o2, none⟩) L2 c2
  | 6, v, _ => v = .int .i64 (q : Int)
  | 7, v, _ => v = .pointer (some ⟨b2, o2 + q, none⟩)
  | 8, v, _ => v = .slice A4 L4 c4
  | 9, v, _ => v = .string (str X)
  | 10, v, _ => v = .bool false
  | _, _, _ => True
theorem psiFT20_grew (b1 o1 L1 c1 b2 o2 L2 c2 q : Nat) (A3 : Option Addr) (L3 c3 : Nat) (A4 : Option Addr) (L4 c4 : Nat) (X : List UInt8) : ∀ i v w w', psiFT20 b1 o1 L1 c1 b2 o2 L2 c2 q A3 L3 c3 A4 L4 c4 X i v w → Grew w w' → psiFT20 b1 o1 L1 c1 b2 o2 L2 c2 q A3 L3 c3 A4 L4 c4 X i v w' := by
  intro i v w w' h hg
  rcases i with _ | _ | _ | _ | _ | _ | _ | _ | _ | _ | _ | i
  · exact h
  · exact h
  · exact h
  · exact h
  · exact h
  · exact h
  · exact h
  · exact h
  · exact h
  · exact h
  · exact h
  · trivial
set_option maxRecDepth 100000 in
set_option maxHeartbeats 4000000 in
theorem ftells_cmp {p : String} (b1 o1 L1 c1 b2 o2 L2 c2 q : Nat) (A3 : Option Addr) (L3 c3 : Nat) (A4 : Option Addr) (L4 c4 : Nat) (X : List UInt8) (hq1 : q < L1) (hq2 : q < L2) (hL3 : L3 = X.length) (hL4 : L4 = X.length) (a : Act) (w : World) (Q : Exit → Act → World → Prop) (hN : a.tmps.size = 133) (h13 : a.tmps.getD 13 undef = .slice (some ⟨b1, o1, none⟩) L1 c1) (h16 : a.tmps.getD 16 undef = .slice (some ⟨b2, o2, none⟩) L2 c2) (h19 : a.tmps.getD 19 undef = .int .i64 (q : Int)) (hb1 : b1 < w.heap.size) (hb2 : b2 < w.heap.size) (hx1 : w.cell? ⟨b1, o1 + q, none⟩ = some (.slice A3 L3 c3)) (hx2 : w.cell? ⟨b2, o2 + q, none⟩ = some (.slice A4 L4 c4)) (hA3 : HasA w w.heap.size A3 X) (hA4 : HasA w w.heap.size A4 X) (hQ : ∀ (w' : World), Grew w w' → Q .normal (puts [(121, .slice (some ⟨b1, o1, none⟩) L1 c1), (122, .int .i64 (q : Int)), (123, .pointer (some ⟨b1, o1 + q, none⟩)), (124, .slice A3 L3 c3), (125, .string (str X)), (126, .slice (some ⟨b2, o2, none⟩) L2 c2), (127, .int .i64 (q : Int)), (128, .pointer (some ⟨b2, o2 + q, none⟩)), (129, .slice A4 L4 c4), (130, .string (str X)), (131, .bool false)] a) w')
    : (Code.region 20 (opsFT20 p).toArray true).wp Tryd.prog Q a w := by
  refine (wpIn_wide (n := 1)).1 (wpIn_region_vals 133 hN follows (opsFT20_back p) (opsFT20_slots p) Grew Grew.refl Grew.trans (psiFT20 b1 o1 L1 c1 b2 o2 L2 c2 q A3 L3 c3 A4 L4 c4 X) (psiFT20_grew b1 o1 L1 c1 b2 o2 L2 c2 q A3 L3 c3 A4 L4 c4 X) ?_ ?_)
  · intro i o d ho hd a' w' hF hR hp
    rcases i with _ | _ | _ | _ | _ | _ | _ | _ | _ | _ | _ | i
    · obtain rfl : oFT200 p = o := Option.some.inj ho
      obtain rfl : 121 = d := Option.some.inj hd
      exact step_move rfl rfl rfl (hF.at 13 rfl h13) ⟨_, rfl, rfl, Grew.refl _⟩
    · obtain rfl : oFT201 p = o := Option.some.inj ho
      obtain rfl : 122 = d := Option.some.inj hd
      exact step_move rfl rfl rfl (hF.at 19 rfl h19) ⟨_, rfl, rfl, Grew.refl _⟩
    · obtain rfl : oFT202 p = o := Option.some.inj ho
      obtain rfl : 123 = d := Option.some.inj hd
      have q0 : a'.tmps.getD 121 undef = .slice (some ⟨b1, o1, none⟩) L1 c1 := hp 0 (oFT200 p) 121 rfl rfl rfl
      have q1 : a'.tmps.getD 122 undef = .int .i64 (q : Int) := hp 1 (oFT201 p) 122 rfl rfl rfl
      exact step_index rfl rfl rfl q0 q1 (run_ixB _ _ _ _ _ _ hq1) ⟨_, rfl, rfl, Grew.refl _⟩
    · obtain rfl : oFT203 p = o := Option.some.inj ho
      obtain rfl : 124 = d := Option.some.inj hd
      have q2 : a'.tmps.getD 123 undef = .pointer (some ⟨b1, o1 + q, none⟩) := hp 2 (oFT202 p) 123 rfl rfl rfl
      exact step_load rfl rfl rfl q2 (run_ldB _ _ _ _ _ ((Below.cell hR.undraw (p := ⟨b1, o1 + q, none⟩) hb1).trans hx1)) ⟨_, rfl, rfl, Grew.refl _⟩
    · obtain rfl : oFT204 p = o := Option.some.inj ho
      obtain rfl : 125 = d := Option.some.inj hd
      have q3 : a'.tmps.getD 124 undef = .slice A3 L3 c3 := hp 3 (oFT203 p) 124 rfl rfl rfl
      exact step_cv rfl rfl rfl q3 (run_conv (HasA.below' hA3 hR.undraw) _ Tryd.underlying22 Tryd.underlying5 Tryd.underlying9 hL3) ⟨_, rfl, rfl, Grew.refl _⟩
    · obtain rfl : oFT205 p = o := Option.some.inj ho
      obtain rfl : 126 = d := Option.some.inj hd
      exact step_move rfl rfl rfl (hF.at 16 rfl h16) ⟨_, rfl, rfl, Grew.refl _⟩
    · obtain rfl : oFT206 p = o := Option.some.inj ho
      obtain rfl : 127 = d := Option.some.inj hd
      exact step_move rfl rfl rfl (hF.at 19 rfl h19) ⟨_, rfl, rfl, Grew.refl _⟩
    · obtain rfl : oFT207 p = o := Option.some.inj ho
      obtain rfl : 128 = d := Option.some.inj hd
      have q5 : a'.tmps.getD 126 undef = .slice (some ⟨b2, o2, none⟩) L2 c2 := hp 5 (oFT205 p) 126 rfl rfl rfl
      have q6 : a'.tmps.getD 127 undef = .int .i64 (q : Int) := hp 6 (oFT206 p) 127 rfl rfl rfl
      exact step_index rfl rfl rfl q5 q6 (run_ixB _ _ _ _ _ _ hq2) ⟨_, rfl, rfl, Grew.refl _⟩
    · obtain rfl : oFT208 p = o := Option.some.inj ho
      obtain rfl : 129 = d := Option.some.inj hd
      have q7 : a'.tmps.getD 128 undef = .pointer (some ⟨b2, o2 + q, none⟩) := hp 7 (oFT207 p) 128 rfl rfl rfl
      exact step_load rfl rfl rfl q7 (run_ldB _ _ _ _ _ ((Below.cell hR.undraw (p := ⟨b2, o2 + q, none⟩) hb2).trans hx2)) ⟨_, rfl, rfl, Grew.refl _⟩
    · obtain rfl : oFT209 p = o := Option.some.inj ho
      obtain rfl : 130 = d := Option.some.inj hd
      have q8 : a'.tmps.getD 129 undef = .slice A4 L4 c4 := hp 8 (oFT208 p) 129 rfl rfl rfl
      exact step_cv rfl rfl rfl q8 (run_conv (HasA.below' hA4 hR.undraw) _ Tryd.underlying22 Tryd.underlying5 Tryd.underlying9 hL4) ⟨_, rfl, rfl, Grew.refl _⟩
    · obtain rfl : oFT2010 p = o := Option.some.inj ho
      obtain rfl : 131 = d := Option.some.inj hd
      have q4 : a'.tmps.getD 125 undef = .string (str X) := hp 4 (oFT204 p) 125 rfl rfl rfl
      have q9 : a'.tmps.getD 130 undef = .string (str X) := hp 9 (oFT209 p) 130 rfl rfl rfl
      exact step_bin rfl rfl rfl q4 q9 (guard_str _ _ _ _ _ _ _) (by rw [run_neq]; simp) ⟨_, rfl, rfl, Grew.refl _⟩
    · exact absurd ((Array.getElem?_eq_some_iff.1 ho).1) (by simp [opsFT20])
  · intro a' w' hF hR hp
    have e0 : psiFT20 b1 o1 L1 c1 b2 o2 L2 c2 q A3 L3 c3 A4 L4 c4 X 0 (a'.tmps.getD 121 undef) w' := hp 0 (oFT200 p) 121 rfl rfl
    have e1 : psiFT20 b1 o1 L1 c1 b2 o2 L2 c2 q A3 L3 c3 A4 L4 c4 X 1 (a'.tmps.getD 122 undef) w' := hp 1 (oFT201 p) 122 rfl rfl
    have e2 : psiFT20 b1 o1 L1 c1 b2 o2 L2 c2 q A3 L3 c3 A4 L4 c4 X 2 (a'.tmps.getD 123 undef) w' := hp 2 (oFT202 p) 123 rfl rfl
    have e3 : psiFT20 b1 o1 L1 c1 b2 o2 L2 c2 q A3 L3 c3 A4 L4 c4 X 3 (a'.tmps.getD 124 undef) w' := hp 3 (oFT203 p) 124 rfl rfl
    have e4 : psiFT20 b1 o1 L1 c1 b2 o2 L2 c2 q A3 L3 c3 A4 L4 c4 X 4 (a'.tmps.getD 125 undef) w' := hp 4 (oFT204 p) 125 rfl rfl
    have e5 : psiFT20 b1 o1 L1 c1 b2 o2 L2 c2 q A3 L3 c3 A4 L4 c4 X 5 (a'.tmps.getD 126 undef) w' := hp 5 (oFT205 p) 126 rfl rfl
    have e6 : psiFT20 b1 o1 L1 c1 b2 o2 L2 c2 q A3 L3 c3 A4 L4 c4 X 6 (a'.tmps.getD 127 undef) w' := hp 6 (oFT206 p) 127 rfl rfl
    have e7 : psiFT20 b1 o1 L1 c1 b2 o2 L2 c2 q A3 L3 c3 A4 L4 c4 X 7 (a'.tmps.getD 128 undef) w' := hp 7 (oFT207 p) 128 rfl rfl
    have e8 : psiFT20 b1 o1 L1 c1 b2 o2 L2 c2 q A3 L3 c3 A4 L4 c4 X 8 (a'.tmps.getD 129 undef) w' := hp 8 (oFT208 p) 129 rfl rfl
    have e9 : psiFT20 b1 o1 L1 c1 b2 o2 L2 c2 q A3 L3 c3 A4 L4 c4 X 9 (a'.tmps.getD 130 undef) w' := hp 9 (oFT209 p) 130 rfl rfl
    have e10 : psiFT20 b1 o1 L1 c1 b2 o2 L2 c2 q A3 L3 c3 A4 L4 c4 X 10 (a'.tmps.getD 131 undef) w' := hp 10 (oFT2010 p) 131 rfl rfl
    rw [hF.puts [(121, .slice (some ⟨b1, o1, none⟩) L1 c1), (122, .int .i64 (q : Int)), (123, .pointer (some ⟨b1, o1 + q, none⟩)), (124, .slice A3 L3 c3), (125, .string (str X)), (126, .slice (some ⟨b2, o2, none⟩) L2 c2), (127, .int .i64 (q : Int)), (128, .pointer (some ⟨b2, o2 + q, none⟩)), (129, .slice A4 L4 c4), (130, .string (str X)), (131, .bool false)] ?_ rfl (by rw [hN]; rfl)]
    · exact hQ  w'  hR.undraw
    · intro x hx
      simp only [List.mem_cons, List.not_mem_nil, or_false] at hx
      rcases hx with rfl | rfl | rfl | rfl | rfl | rfl | rfl | rfl | rfl | rfl | rfl
      · exact e0
      · exact e1
      · exact e2
      · exact e3
      · exact e4
      · exact e5
      · exact e6
      · exact e7
      · exact e8
      · exact e9
      · exact e10
def oFR240 (p : String) : Oper := { dst := some 158, op := Op.move (Operand.tmp 14), type := 30, pos := p, after := #[], guard := none }
def oFR241 (p : String) : Oper := { dst := some 159, op := Op.move (Operand.tmp 18), type := 3, pos := p, after := #[], guard := none }
def oFR242 (p : String) : Oper := { dst := some 160, op := Op.indexAddr 30 (Operand.tmp 158) (Operand.tmp 159), type := 0, pos := p, after := #[{ on := 0, ground := Ground.data }, { on := 1, ground := Ground.data }], guard := none }
def oFR243 (p : String) : Oper := { dst := some 161, op := Op.load 22 (Operand.tmp 160), type := 22, pos := p, after := #[{ on := 2, ground := Ground.data }], guard := none }
def oFR244 (p : String) : Oper := { dst := some 162, op := Op.convert 22 9 (Operand.tmp 161), type := 9, pos := p, after := #[{ on := 3, ground := Ground.data }], guard := none }
def oFR245 (p : String) : Oper := { dst := some 163, op := Op.move (Operand.tmp 0), type := 30, pos := p, after := #[], guard := none }
def oFR246 (p : String) : Oper := { dst := some 164, op := Op.move (Operand.tmp 18), type := 3, pos := p, after := #[], guard := none }
def oFR247 (p : String) : Oper := { dst := some 165, op := Op.indexAddr 30 (Operand.tmp 163) (Operand.tmp 164), type := 0, pos := p, after := #[{ on := 5, ground := Ground.data }, { on := 6, ground := Ground.data }], guard := none }
def oFR248 (p : String) : Oper := { dst := some 166, op := Op.load 22 (Operand.tmp 165), type := 22, pos := p, after := #[{ on := 7, ground := Ground.data }], guard := none }
def oFR249 (p : String) : Oper := { dst := some 167, op := Op.convert 22 9 (Operand.tmp 166), type := 9, pos := p, after := #[{ on := 8, ground := Ground.data }], guard := none }
def oFR2410 (p : String) : Oper := { dst := some 168, op := Op.binOp BinOp.neq 9 (Operand.tmp 162) (Operand.tmp 167) 9, type := 4, pos := p, after := #[{ on := 4, ground := Ground.data }, { on := 9, ground := Ground.data }], guard := none }
def opsFR24 (p : String) : List Oper := [oFR240 p, oFR241 p, oFR242 p, oFR243 p, oFR244 p, oFR245 p, oFR246 p, oFR247 p, oFR248 p, oFR249 p, oFR2410 p]
theorem opsFR24_back (p : String) : backwards (opsFR24 p) = true := by kernel_rfl
theorem opsFR24_slots (p : String) : slotsOk 233 (opsFR24 p) = true := by kernel_rfl
/-- What each slot comes to. -/
def psiFR24 (b1 o1 L1 c1 b2 o2 L2 c2 q : Nat) (A3 : Option Addr) (L3 c3 : Nat) (A4 : Option Addr) (L4 c4 : Nat) (X : List UInt8) : Nat → Value → World → Prop
  | 0, v, _ => v = .slice (some ⟨b1, o1, none⟩) L1 c1
  | 1, v, _ => v = .int .i64 (q : Int)
  | 2, v, _ => v = .pointer (some ⟨b1, o1 + q, none⟩)
  | 3, v, _ => v = .slice A3 L3 c3
  | 4, v, _ => v = .string (str X)
  | 5, v, _ => v = .slice (some ⟨b2, o2, none⟩) L2 c2
  | 6, v, _ => v = .int .i64 (q : Int)
  | 7, v, _ => v = .pointer (some ⟨b2, o2 + q, none⟩)
  | 8, v, _ => v = .slice A4 L4 c4
  | 9, v, _ => v = .string (str X)
  | 10, v, _ => v = .bool false
  | _, _, _ => True
theorem psiFR24_grew (b1 o1 L1 c1 b2 o2 L2 c2 q : Nat) (A3 : Option Addr) (L3 c3 : Nat) (A4 : Option Addr) (L4 c4 : Nat) (X : List UInt8) : ∀ i v w w', psiFR24 b1 o1 L1 c1 b2 o2 L2 c2 q A3 L3 c3 A4 L4 c4 X i v w → Grew w w' → psiFR24 b1 o1 L1 c1 b2 o2 L2 c2 q A3 L3 c3 A4 L4 c4 X i v w' := by
  intro i v w w' h hg
  rcases i with _ | _ | _ | _ | _ | _ | _ | _ | _ | _ | _ | i
  · exact h
  · exact h
  · exact h
  · exact h
  · exact h
  · exact h
  · exact h
  · exact h
  · exact h
  · exact h
  · exact h
  · trivial
set_option maxRecDepth 100000 in
set_option maxHeartbeats 4000000 in
theorem frows_cmp {p : String} (b1 o1 L1 c1 b2 o2 L2 c2 q : Nat) (A3 : Option Addr) (L3 c3 : Nat) (A4 : Option Addr) (L4 c4 : Nat) (X : List UInt8) (hq1 : q < L1) (hq2 : q < L2) (hL3 : L3 = X.length) (hL4 : L4 = X.length) (a : Act) (w : World) (Q : Exit → Act → World → Prop) (hN : a.tmps.size = 233) (h0 : a.tmps.getD 0 undef = .slice (some ⟨b2, o2, none⟩) L2 c2) (h14 : a.tmps.getD 14 undef = .slice (some ⟨b1, o1, none⟩) L1 c1) (h18 : a.tmps.getD 18 undef = .int .i64 (q : Int)) (hb1 : b1 < w.heap.size) (hb2 : b2 < w.heap.size) (hx1 : w.cell? ⟨b1, o1 + q, none⟩ = some (.slice A3 L3 c3)) (hx2 : w.cell? ⟨b2, o2 + q, none⟩ = some (.slice A4 L4 c4)) (hA3 : HasA w w.heap.size A3 X) (hA4 : HasA w w.heap.size A4 X) (hQ : ∀ (w' : World), Grew w w' → Q .normal (puts [(158, .slice (some ⟨b1, o1, none⟩) L1 c1), (159, .int .i64 (q : Int)), (160, .pointer (some ⟨b1, o1 + q, none⟩)), (161, .slice A3 L3 c3), (162, .string (str X)), (163, .slice (some ⟨b2, o2, none⟩) L2 c2), (164, .int .i64 (q : Int)), (165, .pointer (some ⟨b2, o2 + q, none⟩)), (166, .slice A4 L4 c4), (167, .string (str X)), (168, .bool false)] a) w')
    : (Code.region 24 (opsFR24 p).toArray true).wp Tryd.prog Q a w := by
  refine (wpIn_wide (n := 1)).1 (wpIn_region_vals 233 hN follows (opsFR24_back p) (opsFR24_slots p) Grew Grew.refl Grew.trans (psiFR24 b1 o1 L1 c1 b2 o2 L2 c2 q A3 L3 c3 A4 L4 c4 X) (psiFR24_grew b1 o1 L1 c1 b2 o2 L2 c2 q A3 L3 c3 A4 L4 c4 X) ?_ ?_)
  · intro i o d ho hd a' w' hF hR hp
    rcases i with _ | _ | _ | _ | _ | _ | _ | _ | _ | _ | _ | i
    · obtain rfl : oFR240 p = o := Option.some.inj ho
      obtain rfl : 158 = d := Option.some.inj hd
      exact step_move rfl rfl rfl (hF.at 14 rfl h14) ⟨_, rfl, rfl, Grew.refl _⟩
    · obtain rfl : oFR241 p = o := Option.some.inj ho
      obtain rfl : 159 = d := Option.some.inj hd
      exact step_move rfl rfl rfl (hF.at 18 rfl h18) ⟨_, rfl, rfl, Grew.refl _⟩
    · obtain rfl : oFR242 p = o := Option.some.inj ho
      obtain rfl : 160 = d := Option.some.inj hd
      have q0 : a'.tmps.getD 158 undef = .slice (some ⟨b1, o1, none⟩) L1 c1 := hp 0 (oFR240 p) 158 rfl rfl rfl
      have q1 : a'.tmps.getD 159 undef = .int .i64 (q : Int) := hp 1 (oFR241 p) 159 rfl rfl rfl
      exact step_index rfl rfl rfl q0 q1 (run_ixB _ _ _ _ _ _ hq1) ⟨_, rfl, rfl, Grew.refl _⟩
    · obtain rfl : oFR243 p = o := Option.some.inj ho
      obtain rfl : 161 = d := Option.some.inj hd
      have q2 : a'.tmps.getD 160 undef = .pointer (some ⟨b1, o1 + q, none⟩) := hp 2 (oFR242 p) 160 rfl rfl rfl
      exact step_load rfl rfl rfl q2 (run_ldB _ _ _ _ _ ((Below.cell hR.undraw (p := ⟨b1, o1 + q, none⟩) hb1).trans hx1)) ⟨_, rfl, rfl, Grew.refl _⟩
    · obtain rfl : oFR244 p = o := Option.some.inj ho
      obtain rfl : 162 = d := Option.some.inj hd
      have q3 : a'.tmps.getD 161 undef = .slice A3 L3 c3 := hp 3 (oFR243 p) 161 rfl rfl rfl
      exact step_cv rfl rfl rfl q3 (run_conv (HasA.below' hA3 hR.undraw) _ Tryd.underlying22 Tryd.underlying5 Tryd.underlying9 hL3) ⟨_, rfl, rfl, Grew.refl _⟩
    · obtain rfl : oFR245 p = o := Option.some.inj ho
      obtain rfl : 163 = d := Option.some.inj hd
      exact step_move rfl rfl rfl (hF.at 0 rfl h0) ⟨_, rfl, rfl, Grew.refl _⟩
    · obtain rfl : oFR246 p = o := Option.some.inj ho
      obtain rfl : 164 = d := Option.some.inj hd
      exact step_move rfl rfl rfl (hF.at 18 rfl h18) ⟨_, rfl, rfl, Grew.refl _⟩
    · obtain rfl : oFR247 p = o := Option.some.inj ho
      obtain rfl : 165 = d := Option.some.inj hd
      have q5 : a'.tmps.getD 163 undef = .slice (some ⟨b2, o2, none⟩) L2 c2 := hp 5 (oFR245 p) 163 rfl rfl rfl
      have q6 : a'.tmps.getD 164 undef = .int .i64 (q : Int) := hp 6 (oFR246 p) 164 rfl rfl rfl
      exact step_index rfl rfl rfl q5 q6 (run_ixB _ _ _ _ _ _ hq2) ⟨_, rfl, rfl, Grew.refl _⟩
    · obtain rfl : oFR248 p = o := Option.some.inj ho
      obtain rfl : 166 = d := Option.some.inj hd
      have q7 : a'.tmps.getD 165 undef = .pointer (some ⟨b2, o2 + q, none⟩) := hp 7 (oFR247 p) 165 rfl rfl rfl
      exact step_load rfl rfl rfl q7 (run_ldB _ _ _ _ _ ((Below.cell hR.undraw (p := ⟨b2, o2 + q, none⟩) hb2).trans hx2)) ⟨_, rfl, rfl, Grew.refl _⟩
    · obtain rfl : oFR249 p = o := Option.some.inj ho
      obtain rfl : 167 = d := Option.some.inj hd
      have q8 : a'.tmps.getD 166 undef = .slice A4 L4 c4 := hp 8 (oFR248 p) 166 rfl rfl rfl
      exact step_cv rfl rfl rfl q8 (run_conv (HasA.below' hA4 hR.undraw) _ Tryd.underlying22 Tryd.underlying5 Tryd.underlying9 hL4) ⟨_, rfl, rfl, Grew.refl _⟩
    · obtain rfl : oFR2410 p = o := Option.some.inj ho
      obtain rfl : 168 = d := Option.some.inj hd
      have q4 : a'.tmps.getD 162 undef = .string (str X) := hp 4 (oFR244 p) 162 rfl rfl rfl
      have q9 : a'.tmps.getD 167 undef = .string (str X) := hp 9 (oFR249 p) 167 rfl rfl rfl
      exact step_bin rfl rfl rfl q4 q9 (guard_str _ _ _ _ _ _ _) (by rw [run_neq]; simp) ⟨_, rfl, rfl, Grew.refl _⟩
    · exact absurd ((Array.getElem?_eq_some_iff.1 ho).1) (by simp [opsFR24])
  · intro a' w' hF hR hp
    have e0 : psiFR24 b1 o1 L1 c1 b2 o2 L2 c2 q A3 L3 c3 A4 L4 c4 X 0 (a'.tmps.getD 158 undef) w' := hp 0 (oFR240 p) 158 rfl rfl
    have e1 : psiFR24 b1 o1 L1 c1 b2 o2 L2 c2 q A3 L3 c3 A4 L4 c4 X 1 (a'.tmps.getD 159 undef) w' := hp 1 (oFR241 p) 159 rfl rfl
    have e2 : psiFR24 b1 o1 L1 c1 b2 o2 L2 c2 q A3 L3 c3 A4 L4 c4 X 2 (a'.tmps.getD 160 undef) w' := hp 2 (oFR242 p) 160 rfl rfl
    have e3 : psiFR24 b1 o1 L1 c1 b2 o2 L2 c2 q A3 L3 c3 A4 L4 c4 X 3 (a'.tmps.getD 161 undef) w' := hp 3 (oFR243 p) 161 rfl rfl
    have e4 : psiFR24 b1 o1 L1 c1 b2 o2 L2 c2 q A3 L3 c3 A4 L4 c4 X 4 (a'.tmps.getD 162 undef) w' := hp 4 (oFR244 p) 162 rfl rfl
    have e5 : psiFR24 b1 o1 L1 c1 b2 o2 L2 c2 q A3 L3 c3 A4 L4 c4 X 5 (a'.tmps.getD 163 undef) w' := hp 5 (oFR245 p) 163 rfl rfl
    have e6 : psiFR24 b1 o1 L1 c1 b2 o2 L2 c2 q A3 L3 c3 A4 L4 c4 X 6 (a'.tmps.getD 164 undef) w' := hp 6 (oFR246 p) 164 rfl rfl
    have e7 : psiFR24 b1 o1 L1 c1 b2 o2 L2 c2 q A3 L3 c3 A4 L4 c4 X 7 (a'.tmps.getD 165 undef) w' := hp 7 (oFR247 p) 165 rfl rfl
    have e8 : psiFR24 b1 o1 L1 c1 b2 o2 L2 c2 q A3 L3 c3 A4 L4 c4 X 8 (a'.tmps.getD 166 undef) w' := hp 8 (oFR248 p) 166 rfl rfl
    have e9 : psiFR24 b1 o1 L1 c1 b2 o2 L2 c2 q A3 L3 c3 A4 L4 c4 X 9 (a'.tmps.getD 167 undef) w' := hp 9 (oFR249 p) 167 rfl rfl
    have e10 : psiFR24 b1 o1 L1 c1 b2 o2 L2 c2 q A3 L3 c3 A4 L4 c4 X 10 (a'.tmps.getD 168 undef) w' := hp 10 (oFR2410 p) 168 rfl rfl
    rw [hF.puts [(158, .slice (some ⟨b1, o1, none⟩) L1 c1), (159, .int .i64 (q : Int)), (160, .pointer (some ⟨b1, o1 + q, none⟩)), (161, .slice A3 L3 c3), (162, .string (str X)), (163, .slice (some ⟨b2, o2, none⟩) L2 c2), (164, .int .i64 (q : Int)), (165, .pointer (some ⟨b2, o2 + q, none⟩)), (166, .slice A4 L4 c4), (167, .string (str X)), (168, .bool false)] ?_ rfl (by rw [hN]; rfl)]
    · exact hQ  w'  hR.undraw
    · intro x hx
      simp only [List.mem_cons, List.not_mem_nil, or_false] at hx
      rcases hx with rfl | rfl | rfl | rfl | rfl | rfl | rfl | rfl | rfl | rfl | rfl
      · exact e0
      · exact e1
      · exact e2
      · exact e3
      · exact e4
      · exact e5
      · exact e6
      · exact e7
      · exact e8
      · exact e9
      · exact e10
end Go.Proofs.YtbhncffeoolhfaaDoor
