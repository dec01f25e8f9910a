/- The statement of the document's taking of a frame that holds a call, whatever its order of evaluation. -/
import Derived.Test.YtbhncffeoolhfaaDoorPuts
import Derived.Test.YtbhncffeoolhfaaDoorRefFrame
namespace Go.Proofs.YtbhncffeoolhfaaDoor
open Go.RowKit

def oRT100 (p : String) : Oper := { dst := some 39, op := Op.move (Operand.tmp 9), type := 22, pos := p, after := #[], guard := none }
def oRT101 (p : String) : Oper := { dst := some 40, op := Op.call { callee := Callee.value (Operand.func 8), args := #[Operand.tmp 39], argTypes := #[22] }, type := 22, pos := p, after := #[{ on := 0, ground := Ground.data }], guard := none }
def oRT102 (p : String) : Oper := { dst := some 41, op := Op.convert 22 9 (Operand.tmp 40), type := 9, pos := p, after := #[{ on := 1, ground := Ground.data }], guard := none }
def oRT103 (p : String) : Oper := { dst := some 42, op := Op.move (Operand.tmp 0), type := 22, pos := p, after := #[], guard := none }
def oRT104 (p : String) : Oper := { dst := some 43, op := Op.move (Operand.tmp 8), type := 3, pos := p, after := #[], guard := none }
def oRT105 (p : String) : Oper := { dst := some 44, op := Op.slice 22 (Operand.tmp 42) none (some (Operand.tmp 43)) none, type := 22, pos := p, after := #[{ on := 3, ground := Ground.data }, { on := 4, ground := Ground.data }], guard := none }
def oRT106 (p : String) : Oper := { dst := some 45, op := Op.convert 22 9 (Operand.tmp 44), type := 9, pos := p, after := #[{ on := 5, ground := Ground.data }], guard := none }
def oRT107 (p : String) : Oper := { dst := some 46, op := Op.binOp BinOp.neq 9 (Operand.tmp 41) (Operand.tmp 45) 9, type := 4, pos := p, after := #[{ on := 2, ground := Ground.data }, { on := 6, ground := Ground.data }], guard := none }
def opsRT10 (p : String) : List Oper := [oRT100 p, oRT101 p, oRT102 p, oRT103 p, oRT104 p, oRT105 p, oRT106 p, oRT107 p]
theorem opsRT10_back (p : String) : backwards (opsRT10 p) = true := by kernel_rfl
theorem opsRT10_slots (p : String) : slotsOk 49 (opsRT10 p) = true := by kernel_rfl
/-- What each slot comes to. -/
def psiRT10 (A A2 : Option Addr) (L c n c2 m : Nat) (bs x : List UInt8) : Nat → Value → World → Prop
  | 0, v, _ => v = .slice A2 n c2
  | 1, v, w => IsB w v (frm x)
  | 2, v, _ => v = .string (str (frm x))
  | 3, v, _ => v = .slice A L c
  | 4, v, _ => v = .int .i64 (m : Int)
  | 5, v, _ => v = .slice A m c
  | 6, v, _ => v = .string (str (bs.take m))
  | 7, v, _ => v = .bool (frm x != bs.take m)
  | _, _, _ => True
theorem psiRT10_grew (A A2 : Option Addr) (L c n c2 m : Nat) (bs x : List UInt8) : ∀ i v w w', psiRT10 A A2 L c n c2 m bs x i v w → Grew w w' → psiRT10 A A2 L c n c2 m bs x i v w' := by
  intro i v w w' h hg
  rcases i with _ | _ | _ | _ | _ | _ | _ | _ | i
  · exact h
  · exact IsB.grew h hg
  · exact h
  · exact h
  · exact h
  · exact h
  · exact h
  · exact h
  · trivial
set_option maxRecDepth 100000 in
set_option maxHeartbeats 4000000 in
theorem rtake_region {p : String} (A A2 : Option Addr) (L c n c2 m : Nat) (bs x : List UInt8) (hxl : n = x.length) (hn : n ≤ 65536) (hm : m = (bs.take m).length) (hmc : m ≤ c) (hm2 : m ≤ 1000000) (a : Act) (w : World) (Q : Exit → Act → World → Prop) (hN : a.tmps.size = 49) (h0 : a.tmps.getD 0 undef = .slice A L c) (h8 : a.tmps.getD 8 undef = .int .i64 (m : Int)) (h9 : a.tmps.getD 9 undef = .slice A2 n c2) (hA : HasA w w.heap.size A bs) (hA2 : HasA w w.heap.size A2 x) (hQ : ∀ (v40 : Value), ∀ (w' : World), IsB w' v40 (frm x) → Grew w w' → Q .normal (puts [(39, .slice A2 n c2), (40, v40), (41, .string (str (frm x))), (42, .slice A L c), (43, .int .i64 (m : Int)), (44, .slice A m c), (45, .string (str (bs.take m))), (46, .bool (frm x != bs.take m))] a) w')
    : (Code.region 10 (opsRT10 p).toArray true).wp Tryd.prog Q a w := by
  refine (wpIn_wide (n := 1)).1 (wpIn_region_vals 49 hN follows (opsRT10_back p) (opsRT10_slots p) Grew Grew.refl Grew.trans (psiRT10 A A2 L c n c2 m bs x) (psiRT10_grew A A2 L c n c2 m bs x) ?_ ?_)
  · intro i o d ho hd a' w' hF hR hp
    rcases i with _ | _ | _ | _ | _ | _ | _ | _ | i
    · obtain rfl : oRT100 p = o := Option.some.inj ho
      obtain rfl : 39 = d := Option.some.inj hd
      exact step_move rfl rfl rfl (hF.at 9 rfl h9) ⟨_, rfl, rfl, Grew.refl _⟩
    · obtain rfl : oRT101 p = o := Option.some.inj ho
      obtain rfl : 40 = d := Option.some.inj hd
      have q0 : a'.tmps.getD 39 undef = .slice A2 n c2 := hp 0 (oRT100 p) 39 rfl rfl rfl
      exact step_gives rfl rfl rfl (enters_of Tryd.func8 (by kernel_rfl) rfl) (show Array.map a'.eval #[.tmp 39] = _ from by simp only [List.map_toArray, List.map_cons, List.map_nil, Act.eval, q0]) (ref_Frame A2 n c2 x hxl (by omega) w' (HasA.below' hA2 hR.undraw)) (fun v w'' h hg => ⟨v, rfl, h, hg⟩)
    · obtain rfl : oRT102 p = o := Option.some.inj ho
      obtain rfl : 41 = d := Option.some.inj hd
      have q1 : IsB w' (a'.tmps.getD 40 undef) (frm x) := hp 1 (oRT101 p) 40 rfl rfl rfl
      exact step_conv rfl rfl rfl (show IsB w' (a'.tmps.getD 40 undef) _ from q1) ⟨_, rfl, rfl, Grew.refl _⟩
    · obtain rfl : oRT103 p = o := Option.some.inj ho
      obtain rfl : 42 = d := Option.some.inj hd
      exact step_move rfl rfl rfl (hF.at 0 rfl h0) ⟨_, rfl, rfl, Grew.refl _⟩
    · obtain rfl : oRT104 p = o := Option.some.inj ho
      obtain rfl : 43 = d := Option.some.inj hd
      exact step_move rfl rfl rfl (hF.at 8 rfl h8) ⟨_, rfl, rfl, Grew.refl _⟩
    · obtain rfl : oRT105 p = o := Option.some.inj ho
      obtain rfl : 44 = d := Option.some.inj hd
      have q3 : a'.tmps.getD 42 undef = .slice A L c := hp 3 (oRT103 p) 42 rfl rfl rfl
      have q4 : a'.tmps.getD 43 undef = .int .i64 (m : Int) := hp 4 (oRT104 p) 43 rfl rfl rfl
      exact step_upto rfl rfl rfl q3 q4 (run_upto _ _ _ _ _ (by omega) (by omega)) ⟨_, rfl, rfl, Grew.refl _⟩
    · obtain rfl : oRT106 p = o := Option.some.inj ho
      obtain rfl : 45 = d := Option.some.inj hd
      have q5 : a'.tmps.getD 44 undef = .slice A m c := hp 5 (oRT105 p) 44 rfl rfl rfl
      exact step_cv rfl rfl rfl q5 (run_conv ((HasA.below' hA hR.undraw).take m) _ Tryd.underlying22 Tryd.underlying5 Tryd.underlying9 hm) ⟨_, rfl, rfl, Grew.refl _⟩
    · obtain rfl : oRT107 p = o := Option.some.inj ho
      obtain rfl : 46 = d := Option.some.inj hd
      have q2 : a'.tmps.getD 41 undef = .string (str (frm x)) := hp 2 (oRT102 p) 41 rfl rfl rfl
      have q6 : a'.tmps.getD 45 undef = .string (str (bs.take m)) := hp 6 (oRT106 p) 45 rfl rfl rfl
      exact step_bin rfl rfl rfl q2 q6 (guard_str _ _ _ _ _ _ _) (run_neq _ _ _) ⟨_, rfl, rfl, Grew.refl _⟩
    · exact absurd ((Array.getElem?_eq_some_iff.1 ho).1) (by simp [opsRT10])
  · intro a' w' hF hR hp
    have e0 : psiRT10 A A2 L c n c2 m bs x 0 (a'.tmps.getD 39 undef) w' := hp 0 (oRT100 p) 39 rfl rfl
    have e1 : psiRT10 A A2 L c n c2 m bs x 1 (a'.tmps.getD 40 undef) w' := hp 1 (oRT101 p) 40 rfl rfl
    have e2 : psiRT10 A A2 L c n c2 m bs x 2 (a'.tmps.getD 41 undef) w' := hp 2 (oRT102 p) 41 rfl rfl
    have e3 : psiRT10 A A2 L c n c2 m bs x 3 (a'.tmps.getD 42 undef) w' := hp 3 (oRT103 p) 42 rfl rfl
    have e4 : psiRT10 A A2 L c n c2 m bs x 4 (a'.tmps.getD 43 undef) w' := hp 4 (oRT104 p) 43 rfl rfl
    have e5 : psiRT10 A A2 L c n c2 m bs x 5 (a'.tmps.getD 44 undef) w' := hp 5 (oRT105 p) 44 rfl rfl
    have e6 : psiRT10 A A2 L c n c2 m bs x 6 (a'.tmps.getD 45 undef) w' := hp 6 (oRT106 p) 45 rfl rfl
    have e7 : psiRT10 A A2 L c n c2 m bs x 7 (a'.tmps.getD 46 undef) w' := hp 7 (oRT107 p) 46 rfl rfl
    rw [hF.puts [(39, .slice A2 n c2), (40, a'.tmps.getD 40 undef), (41, .string (str (frm x))), (42, .slice A L c), (43, .int .i64 (m : Int)), (44, .slice A m c), (45, .string (str (bs.take m))), (46, .bool (frm x != bs.take m))] ?_ rfl (by rw [hN]; rfl)]
    · exact hQ _ w' e1 hR.undraw
    · intro x hx
      simp only [List.mem_cons, List.not_mem_nil, or_false] at hx
      rcases hx with rfl | rfl | rfl | rfl | rfl | rfl | rfl | rfl
      · exact e0
      · exact rfl
      · exact e2
      · exact e3
      · exact e4
      · exact e5
      · exact e6
      · exact e7
end Go.Proofs.YtbhncffeoolhfaaDoor
