/- The statement of the document's Take that holds two calls, whatever its order of evaluation. -/
import Derived.Test.YtbhncffeoolhfaaDoorPuts
import Derived.Test.YtbhncffeoolhfaaDoorRefSame
namespace Go.Proofs.YtbhncffeoolhfaaDoor
open Go.RowKit

def oT130 (p : String) : Oper := { dst := some 61, op := Op.move (Operand.tmp 6), type := 38, pos := p, after := #[], guard := none }
def oT131 (p : String) : Oper := { dst := some 62, op := Op.call { callee := Callee.value (Operand.func 18), args := #[Operand.tmp 61], argTypes := #[38] }, type := 22, pos := p, after := #[{ on := 0, ground := Ground.data }], guard := none }
def oT132 (p : String) : Oper := { dst := some 63, op := Op.move (Operand.tmp 0), type := 22, pos := p, after := #[], guard := none }
def oT133 (p : String) : Oper := { dst := some 64, op := Op.move (Operand.tmp 5), type := 3, pos := p, after := #[], guard := none }
def oT134 (p : String) : Oper := { dst := some 65, op := Op.binOp BinOp.add 3 (Operand.tmp 64) (Operand.const (Value.int IntKind.i64 1)) 3, type := 3, pos := p, after := #[{ on := 3, ground := Ground.data }], guard := none }
def oT135 (p : String) : Oper := { dst := some 66, op := Op.slice 22 (Operand.tmp 63) none (some (Operand.tmp 65)) none, type := 22, pos := p, after := #[{ on := 2, ground := Ground.data }, { on := 4, ground := Ground.data }], guard := none }
def oT136 (p : String) : Oper := { dst := some 67, op := Op.call { callee := Callee.value (Operand.func 26), args := #[Operand.tmp 62, Operand.tmp 66], argTypes := #[22, 22] }, type := 4, pos := p, after := #[{ on := 1, ground := Ground.data }, { on := 5, ground := Ground.data }, { on := 1, ground := Ground.chain }], guard := none }
def oT137 (p : String) : Oper := { dst := some 68, op := Op.unOp UnOp.not 4 (Operand.tmp 67), type := 4, pos := p, after := #[{ on := 6, ground := Ground.data }], guard := none }
def opsT13 (p : String) : List Oper := [oT130 p, oT131 p, oT132 p, oT133 p, oT134 p, oT135 p, oT136 p, oT137 p]
theorem opsT13_back (p : String) : backwards (opsT13 p) = true := by kernel_rfl
theorem opsT13_slots (p : String) : slotsOk 72 (opsT13 p) = true := by kernel_rfl
/-- What each slot comes to. -/
def psiT13 (A : Option Addr) (L c k N : Nat) (bs : List UInt8) : Nat → Value → World → Prop
  | 0, v, _ => v = .int .u64 (N : Int)
  | 1, v, w => IsB w v (vb N)
  | 2, v, _ => v = .slice A L c
  | 3, v, _ => v = .int .i64 (k : Int)
  | 4, v, _ => v = .int .i64 ((k + 1 : Nat) : Int)
  | 5, v, _ => v = .slice A (k + 1) c
  | 6, v, _ => v = .bool (vb N == bs.take (k + 1))
  | 7, v, _ => v = .bool (!(vb N == bs.take (k + 1)))
  | _, _, _ => True
theorem psiT13_grew (A : Option Addr) (L c k N : Nat) (bs : List UInt8) : ∀ i v w w', psiT13 A L c k N bs i v w → Grew w w' → psiT13 A L c k N bs i v w' := by
  intro i v w w' h hg
  rcases i with _ | _ | _ | _ | _ | _ | _ | _ | i
  · exact h
  · exact IsB.grew h hg
  · exact h
  · exact h
  · exact h
  · exact h
  · exact h
  · exact h
  · trivial
set_option maxRecDepth 100000 in
set_option maxHeartbeats 4000000 in
theorem take_region {p : String} (A : Option Addr) (L c k N : Nat) (bs : List UInt8) (hN0 : N < 18446744073709551616) (hkl : k + 1 = (bs.take (k + 1)).length) (hkc : k + 1 ≤ c) (hk9 : k ≤ 9) (a : Act) (w : World) (Q : Exit → Act → World → Prop) (hN : a.tmps.size = 72) (h0 : a.tmps.getD 0 undef = .slice A L c) (h5 : a.tmps.getD 5 undef = .int .i64 (k : Int)) (h6 : a.tmps.getD 6 undef = .int .u64 (N : Int)) (hA : HasA w w.heap.size A bs) (hQ : ∀ (v62 : Value), ∀ (w' : World), IsB w' v62 (vb N) → Grew w w' → Q .normal (puts [(61, .int .u64 (N : Int)), (62, v62), (63, .slice A L c), (64, .int .i64 (k : Int)), (65, .int .i64 ((k + 1 : Nat) : Int)), (66, .slice A (k + 1) c), (67, .bool (vb N == bs.take (k + 1))), (68, .bool (!(vb N == bs.take (k + 1))))] a) w')
    : (Code.region 13 (opsT13 p).toArray true).wp Tryd.prog Q a w := by
  refine (wpIn_wide (n := 1)).1 (wpIn_region_vals 72 hN follows (opsT13_back p) (opsT13_slots p) Grew Grew.refl Grew.trans (psiT13 A L c k N bs) (psiT13_grew A L c k N bs) ?_ ?_)
  · intro i o d ho hd a' w' hF hR hp
    rcases i with _ | _ | _ | _ | _ | _ | _ | _ | i
    · obtain rfl : oT130 p = o := Option.some.inj ho
      obtain rfl : 61 = d := Option.some.inj hd
      exact step_move rfl rfl rfl (hF.at 6 rfl h6) ⟨_, rfl, rfl, Grew.refl _⟩
    · obtain rfl : oT131 p = o := Option.some.inj ho
      obtain rfl : 62 = d := Option.some.inj hd
      have q0 : a'.tmps.getD 61 undef = .int .u64 (N : Int) := hp 0 (oT130 p) 61 rfl rfl rfl
      exact step_gives rfl rfl rfl (enters_of Tryd.func18 (by kernel_rfl) rfl) (show Array.map a'.eval #[.tmp 61] = _ from by simp only [List.map_toArray, List.map_cons, List.map_nil, Act.eval, q0]) (ref_Uint N hN0 w') (fun v w'' h hg => ⟨v, rfl, h, hg⟩)
    · obtain rfl : oT132 p = o := Option.some.inj ho
      obtain rfl : 63 = d := Option.some.inj hd
      exact step_move rfl rfl rfl (hF.at 0 rfl h0) ⟨_, rfl, rfl, Grew.refl _⟩
    · obtain rfl : oT133 p = o := Option.some.inj ho
      obtain rfl : 64 = d := Option.some.inj hd
      exact step_move rfl rfl rfl (hF.at 5 rfl h5) ⟨_, rfl, rfl, Grew.refl _⟩
    · obtain rfl : oT134 p = o := Option.some.inj ho
      obtain rfl : 65 = d := Option.some.inj hd
      have q3 : a'.tmps.getD 64 undef = .int .i64 (k : Int) := hp 3 (oT133 p) 64 rfl rfl rfl
      exact step_bin rfl rfl rfl q3 rfl (guard_int _ _ _ _ _ _ _ _ _) (run_addi _ _ _ _ (by omega) (by omega)) ⟨_, rfl, rfl, Grew.refl _⟩
    · obtain rfl : oT135 p = o := Option.some.inj ho
      obtain rfl : 66 = d := Option.some.inj hd
      have q2 : a'.tmps.getD 63 undef = .slice A L c := hp 2 (oT132 p) 63 rfl rfl rfl
      have q4 : a'.tmps.getD 65 undef = .int .i64 ((k + 1 : Nat) : Int) := hp 4 (oT134 p) 65 rfl rfl rfl
      exact step_upto rfl rfl rfl q2 q4 (run_upto _ _ _ _ _ (by omega) (by omega)) ⟨_, rfl, rfl, Grew.refl _⟩
    · obtain rfl : oT136 p = o := Option.some.inj ho
      obtain rfl : 67 = d := Option.some.inj hd
      have q1 : IsB w' (a'.tmps.getD 62 undef) (vb N) := hp 1 (oT131 p) 62 rfl rfl rfl
      have q5 : a'.tmps.getD 66 undef = .slice A (k + 1) c := hp 5 (oT135 p) 66 rfl rfl rfl
      obtain ⟨A1, L1, c1, hv1, hL1, hA1⟩ := q1
      refine step_call rfl rfl rfl trivial (fun h => by cases h) (enters_of Tryd.func26 (by kernel_rfl) rfl) ?_
      rw [show Array.map a'.eval #[.tmp 62, .tmp 66] = #[.slice A1 L1 c1, .slice A (k + 1) c] by simp only [List.map_toArray, List.map_cons, List.map_nil, Act.eval, hv1, q5]]
      refine (callsIn_wide.2 (same_any A1 L1 c1 (vb N) hL1 A (k + 1) c (bs.take (k + 1)) hkl w' hA1 ((HasA.below' hA hR.undraw).take (k + 1)))).mono ?_
      rintro e w'' ⟨rfl, rfl⟩
      exact ⟨_, rfl, _, rfl, rfl, Grew.refl _⟩
    · obtain rfl : oT137 p = o := Option.some.inj ho
      obtain rfl : 68 = d := Option.some.inj hd
      have q6 : a'.tmps.getD 67 undef = .bool (vb N == bs.take (k + 1)) := hp 6 (oT136 p) 67 rfl rfl rfl
      exact step_un rfl rfl rfl q6 (run_not _ _) ⟨_, rfl, rfl, Grew.refl _⟩
    · exact absurd ((Array.getElem?_eq_some_iff.1 ho).1) (by simp [opsT13])
  · intro a' w' hF hR hp
    have e0 : psiT13 A L c k N bs 0 (a'.tmps.getD 61 undef) w' := hp 0 (oT130 p) 61 rfl rfl
    have e1 : psiT13 A L c k N bs 1 (a'.tmps.getD 62 undef) w' := hp 1 (oT131 p) 62 rfl rfl
    have e2 : psiT13 A L c k N bs 2 (a'.tmps.getD 63 undef) w' := hp 2 (oT132 p) 63 rfl rfl
    have e3 : psiT13 A L c k N bs 3 (a'.tmps.getD 64 undef) w' := hp 3 (oT133 p) 64 rfl rfl
    have e4 : psiT13 A L c k N bs 4 (a'.tmps.getD 65 undef) w' := hp 4 (oT134 p) 65 rfl rfl
    have e5 : psiT13 A L c k N bs 5 (a'.tmps.getD 66 undef) w' := hp 5 (oT135 p) 66 rfl rfl
    have e6 : psiT13 A L c k N bs 6 (a'.tmps.getD 67 undef) w' := hp 6 (oT136 p) 67 rfl rfl
    have e7 : psiT13 A L c k N bs 7 (a'.tmps.getD 68 undef) w' := hp 7 (oT137 p) 68 rfl rfl
    rw [hF.puts [(61, .int .u64 (N : Int)), (62, a'.tmps.getD 62 undef), (63, .slice A L c), (64, .int .i64 (k : Int)), (65, .int .i64 ((k + 1 : Nat) : Int)), (66, .slice A (k + 1) c), (67, .bool (vb N == bs.take (k + 1))), (68, .bool (!(vb N == bs.take (k + 1))))] ?_ rfl (by rw [hN]; rfl)]
    · exact hQ _ w' e1 hR.undraw
    · intro x hx
      simp only [List.mem_cons, List.not_mem_nil, or_false] at hx
      rcases hx with rfl | rfl | rfl | rfl | rfl | rfl | rfl | rfl
      · exact e0
      · exact rfl
      · exact e2
      · exact e3
      · exact e4
      · exact e5
      · exact e6
      · exact e7
end Go.Proofs.YtbhncffeoolhfaaDoor
