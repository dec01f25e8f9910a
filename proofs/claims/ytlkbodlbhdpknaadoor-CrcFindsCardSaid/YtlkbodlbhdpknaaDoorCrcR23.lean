/- The last statement of the law CrcFinds, whatever its order of evaluation. -/
import Derived.Test.YtlkbodlbhdpknaaDoorCrcTells
namespace Go.Proofs.YtlkbodlbhdpknaaDoor
open Go.RowKit

theorem run_cut (w : World) (A : Option Addr) (L c N : Nat) (h : N ≤ c) (hc : N ≤ 1000000) : (Instr.sliceAt 22 (.slice A L c) none (some (.int .i64 (N : Int))) none).run Tryd.prog w = .ok (.slice A N c) w := by
  have h1 : (0 : Int) ≤ N := by omega
  have h2 : (N : Int) ≤ c := by omega
  simp [go_sem, h1, h2]
theorem step_cut {n : Nat} {Q : Exit → Act → World → Prop} {ops : Array Oper} {i : Nat} {o : Oper} {a : Act} {w : World} {K : Act → World → Prop} {x y : Operand} {A : Option Addr} {L c N : Nat} (h : N ≤ c) (hc : N ≤ 1000000)
    (hi : ops[i]? = some o) (hw : Region.wanted o (yielded ops a.tmps) = true) (ho : o.op = .slice 22 x none (some y) none) (hx : a.eval x = .slice A L c) (hy : a.eval y = .int .i64 (N : Int)) (hK : K (a.put o.dst (.slice A N c)) w) : wpOpIn Fence.wide n Tryd.prog ops Q i K a w :=
  step_run hi hw (by rw [ho]; intro c h; cases h) (by simp [Oper.about, ho]) (by simp [execOp, ho, hx, hy, run_cut w A L c N h hc]) hK
theorem run_xor32 (w : World) (x y : Nat) (hx : x < 4294967296) (hy : y < 4294967296) : (binOp .xor 24 (.int .u32 (x : Int)) (.int .u32 (y : Int))).run Tryd.prog w = .ok (.int .u32 ((x ^^^ y : Nat) : Int)) w := by
  simp [go_sem, u32_xor_nat x y hx hy]

def oR230 (p : String) : Oper := { dst := some 107, op := Op.move (Operand.tmp 0), type := 22, pos := p, after := #[], guard := none }
def oR231 (p : String) : Oper := { dst := some 108, op := Op.move (Operand.tmp 13), type := 3, pos := p, after := #[], guard := none }
def oR232 (p : String) : Oper := { dst := some 109, op := Op.slice 22 (Operand.tmp 107) none (some (Operand.tmp 108)) none, type := 22, pos := p, after := #[{ on := 0, ground := Ground.data }, { on := 1, ground := Ground.data }], guard := none }
def oR233 (p : String) : Oper := { dst := some 110, op := Op.call { callee := Callee.value (Operand.func 6), args := #[Operand.tmp 109], argTypes := #[22] }, type := 24, pos := p, after := #[{ on := 2, ground := Ground.data }], guard := none }
def oR234 (p : String) : Oper := { dst := some 111, op := Op.move (Operand.tmp 1), type := 22, pos := p, after := #[], guard := none }
def oR235 (p : String) : Oper := { dst := some 112, op := Op.move (Operand.tmp 13), type := 3, pos := p, after := #[], guard := none }
def oR236 (p : String) : Oper := { dst := some 113, op := Op.slice 22 (Operand.tmp 111) none (some (Operand.tmp 112)) none, type := 22, pos := p, after := #[{ on := 4, ground := Ground.data }, { on := 5, ground := Ground.data }], guard := none }
def oR237 (p : String) : Oper := { dst := some 114, op := Op.call { callee := Callee.value (Operand.func 6), args := #[Operand.tmp 113], argTypes := #[22] }, type := 24, pos := p, after := #[{ on := 6, ground := Ground.data }, { on := 3, ground := Ground.chain }], guard := none }
def oR238 (p : String) : Oper := { dst := some 115, op := Op.binOp BinOp.xor 24 (Operand.tmp 110) (Operand.tmp 114) 24, type := 24, pos := p, after := #[{ on := 3, ground := Ground.data }, { on := 7, ground := Ground.data }], guard := none }
def oR239 (p : String) : Oper := { dst := some 116, op := Op.move (Operand.tmp 15), type := 22, pos := p, after := #[], guard := none }
def oR2310 (p : String) : Oper := { dst := some 117, op := Op.call { callee := Callee.value (Operand.func 6), args := #[Operand.tmp 116], argTypes := #[22] }, type := 24, pos := p, after := #[{ on := 9, ground := Ground.data }, { on := 7, ground := Ground.chain }], guard := none }
def oR2311 (p : String) : Oper := { dst := some 118, op := Op.binOp BinOp.xor 24 (Operand.tmp 115) (Operand.tmp 117) 24, type := 24, pos := p, after := #[{ on := 8, ground := Ground.data }, { on := 10, ground := Ground.data }], guard := none }
def oR2312 (p : String) : Oper := { dst := some 119, op := Op.move (Operand.tmp 14), type := 22, pos := p, after := #[], guard := none }
def oR2313 (p : String) : Oper := { dst := some 120, op := Op.call { callee := Callee.value (Operand.func 6), args := #[Operand.tmp 119], argTypes := #[22] }, type := 24, pos := p, after := #[{ on := 12, ground := Ground.data }, { on := 10, ground := Ground.chain }], guard := none }
def oR2314 (p : String) : Oper := { dst := some 121, op := Op.binOp BinOp.eql 24 (Operand.tmp 118) (Operand.tmp 120) 24, type := 4, pos := p, after := #[{ on := 11, ground := Ground.data }, { on := 13, ground := Ground.data }], guard := none }
def oR2315 (p : String) : Oper := { dst := some 122, op := Op.move (Operand.tmp 121), type := 4, pos := p, after := #[{ on := 14, ground := Ground.data }, { on := 13, ground := Ground.chain }], guard := none }
def oR2316 (p : String) : Oper := { dst := some 123, op := Op.call { callee := Callee.value (Operand.func 5), args := #[], argTypes := #[] }, type := 4, pos := p, after := #[{ on := 15, ground := Ground.chain }, { on := 15, ground := Ground.guard }], guard := some (15, true) }
def oR2317 (p : String) : Oper := { dst := some 124, op := Op.pick (Operand.tmp 122) (Operand.tmp 123) (Operand.const (Value.bool false)), type := 4, pos := p, after := #[{ on := 15, ground := Ground.data }, { on := 16, ground := Ground.data }], guard := none }
def oR2318 (p : String) : Oper := { dst := some 8, op := Op.assign (Operand.tmp 124), type := 4, pos := p, after := #[{ on := 17, ground := Ground.data }, { on := 16, ground := Ground.chain }, { on := 0, ground := Ground.phase }, { on := 1, ground := Ground.phase }, { on := 2, ground := Ground.phase }, { on := 3, ground := Ground.phase }, { on := 4, ground := Ground.phase }, { on := 5, ground := Ground.phase }, { on := 6, ground := Ground.phase }, { on := 7, ground := Ground.phase }, { on := 8, ground := Ground.phase }, { on := 9, ground := Ground.phase }, { on := 10, ground := Ground.phase }, { on := 11, ground := Ground.phase }, { on := 12, ground := Ground.phase }, { on := 13, ground := Ground.phase }, { on := 14, ground := Ground.phase }, { on := 15, ground := Ground.phase }, { on := 16, ground := Ground.phase }, { on := 17, ground := Ground.phase }], guard := none }
def opsR23 (p : String) : List Oper := [oR230 p, oR231 p, oR232 p, oR233 p, oR234 p, oR235 p, oR236 p, oR237 p, oR238 p, oR239 p, oR2310 p, oR2311 p, oR2312 p, oR2313 p, oR2314 p, oR2315 p, oR2316 p, oR2317 p, oR2318 p]
theorem opsR23_back (p : String) : backwards (opsR23 p) = true := by kernel_rfl
theorem opsR23_slots (p : String) : slotsOk 125 (opsR23 p) = true := by kernel_rfl
/-- What each slot comes to. -/
def psiR23 (A1 : Option Addr) (L1 c1 : Nat) (a : List UInt8) (A2 : Option Addr) (L2 c2 : Nat) (b : List UInt8) (N gc gn : Nat) (C : List UInt8) : Nat → Value → World → Prop
  | 0, v, _ => v = .slice A1 L1 c1
  | 1, v, _ => v = .int .i64 (N : Int)
  | 2, v, _ => v = .slice A1 N c1
  | 3, v, _ => v = .int .u32 ((crcSum (a.take N) : Nat) : Int)
  | 4, v, _ => v = .slice A2 L2 c2
  | 5, v, _ => v = .int .i64 (N : Int)
  | 6, v, _ => v = .slice A2 N c2
  | 7, v, _ => v = .int .u32 ((crcSum (b.take N) : Nat) : Int)
  | 8, v, _ => v = .int .u32 ((crcSum (a.take N) ^^^ crcSum (b.take N) : Nat) : Int)
  | 9, v, _ => v = .slice (some ⟨gn, 0, none⟩) N N
  | 10, v, _ => v = .int .u32 ((crcSum (List.replicate N 0) : Nat) : Int)
  | 11, v, _ => v = .int .u32 ((crcSum (a.take N) ^^^ crcSum (b.take N) ^^^ crcSum (List.replicate N 0) : Nat) : Int)
  | 12, v, _ => v = .slice (some ⟨gc, 0, none⟩) N N
  | 13, v, _ => v = .int .u32 ((crcSum C : Nat) : Int)
  | 14, v, _ => v = .bool true
  | 15, v, _ => v = .bool true
  | 16, v, _ => v = .bool true
  | 17, v, _ => v = .bool true
  | 18, v, _ => v = .bool true
  | _, _, _ => True
theorem psiR23_grew (A1 : Option Addr) (L1 c1 : Nat) (a : List UInt8) (A2 : Option Addr) (L2 c2 : Nat) (b : List UInt8) (N gc gn : Nat) (C : List UInt8) : ∀ i v w w', psiR23 A1 L1 c1 a A2 L2 c2 b N gc gn C i v w → Grew w w' → psiR23 A1 L1 c1 a A2 L2 c2 b N gc gn C i v w' := by
  intro i v w w' h hg
  rcases i with _ | _ | _ | _ | _ | _ | _ | _ | _ | _ | _ | _ | _ | _ | _ | _ | _ | _ | _ | i
  · exact h
  · exact h
  · exact h
  · exact h
  · exact h
  · exact h
  · exact h
  · exact h
  · exact h
  · exact h
  · exact h
  · exact h
  · exact h
  · exact h
  · exact h
  · exact h
  · exact h
  · exact h
  · exact h
  · trivial
set_option maxRecDepth 100000 in
set_option maxHeartbeats 4000000 in
theorem finds_region {p : String} (A1 : Option Addr) (L1 c1 : Nat) (a : List UInt8) (A2 : Option Addr) (L2 c2 : Nat) (b : List UInt8) (N gc gn : Nat) (C : List UInt8) (hN0 : N ≤ 5000) (hc1 : N ≤ c1) (hc2 : N ≤ c2) (hla : N = (a.take N).length) (hlb : N = (b.take N).length) (hlc : N = C.length) (heq : crcSum (a.take N) ^^^ crcSum (b.take N) ^^^ crcSum (List.replicate N 0) = crcSum C) (a0 : Act) (w : World) (Q : Exit → Act → World → Prop) (hN : a0.tmps.size = 125) (h0 : a0.tmps.getD 0 undef = .slice A1 L1 c1) (h1 : a0.tmps.getD 1 undef = .slice A2 L2 c2) (h13 : a0.tmps.getD 13 undef = .int .i64 (N : Int)) (h14 : a0.tmps.getD 14 undef = .slice (some ⟨gc, 0, none⟩) N N) (h15 : a0.tmps.getD 15 undef = .slice (some ⟨gn, 0, none⟩) N N) (hT : Tab w) (hA1 : HasA w w.heap.size A1 (a.take N)) (hA2 : HasA w w.heap.size A2 (b.take N)) (hZ : HasA w w.heap.size (some ⟨gn, 0, none⟩) (List.replicate N 0)) (hC : HasA w w.heap.size (some ⟨gc, 0, none⟩) C) (hQ : ∀ a' w', a'.defers = a0.defers → a'.tmps.getD 8 undef = .bool true → Grew w w' → Q .normal a' w')
    : (Code.region 23 (opsR23 p).toArray true).wp Tryd.prog Q a0 w := by
  refine (wpIn_wide (n := 1)).1 (wpIn_region_vals 125 hN follows (opsR23_back p) (opsR23_slots p) Grew Grew.refl Grew.trans (psiR23 A1 L1 c1 a A2 L2 c2 b N gc gn C) (psiR23_grew A1 L1 c1 a A2 L2 c2 b N gc gn C) ?_ ?_)
  · intro i o d ho hd a' w' hF hR hp
    rcases i with _ | _ | _ | _ | _ | _ | _ | _ | _ | _ | _ | _ | _ | _ | _ | _ | _ | _ | _ | i
    · obtain rfl : oR230 p = o := Option.some.inj ho
      obtain rfl : 107 = d := Option.some.inj hd
      exact step_move rfl rfl rfl (hF.at 0 rfl h0) ⟨_, rfl, rfl, Grew.refl _⟩
    · obtain rfl : oR231 p = o := Option.some.inj ho
      obtain rfl : 108 = d := Option.some.inj hd
      exact step_move rfl rfl rfl (hF.at 13 rfl h13) ⟨_, rfl, rfl, Grew.refl _⟩
    · obtain rfl : oR232 p = o := Option.some.inj ho
      obtain rfl : 109 = d := Option.some.inj hd
      have q0 : a'.tmps.getD 107 undef = .slice A1 L1 c1 := hp 0 (oR230 p) 107 rfl rfl rfl
      have q1 : a'.tmps.getD 108 undef = .int .i64 (N : Int) := hp 1 (oR231 p) 108 rfl rfl rfl
      exact step_cut (by omega) (by omega) rfl rfl rfl q0 q1 ⟨_, rfl, rfl, Grew.refl _⟩
    · obtain rfl : oR233 p = o := Option.some.inj ho
      obtain rfl : 110 = d := Option.some.inj hd
      have q2 : a'.tmps.getD 109 undef = .slice A1 N c1 := hp 2 (oR232 p) 109 rfl rfl rfl
      refine step_call rfl rfl rfl trivial (fun h => by cases h) (enters_of Tryd.func6 (by kernel_rfl) rfl) ?_
      rw [show Array.map a'.eval #[.tmp 109] = #[.slice A1 N c1] by simp only [List.map_toArray, List.map_cons, List.map_nil, Act.eval, q2]]
      refine (callsIn_wide.2 (Sum_any A1 N c1 (a.take N) hla (by omega) w' (hT.grew hR.undraw) (HasA.below' hA1 hR.undraw))).mono ?_
      rintro e w'' ⟨rfl, hg⟩
      exact ⟨_, rfl, _, rfl, rfl, hg⟩
    · obtain rfl : oR234 p = o := Option.some.inj ho
      obtain rfl : 111 = d := Option.some.inj hd
      exact step_move rfl rfl rfl (hF.at 1 rfl h1) ⟨_, rfl, rfl, Grew.refl _⟩
    · obtain rfl : oR235 p = o := Option.some.inj ho
      obtain rfl : 112 = d := Option.some.inj hd
      exact step_move rfl rfl rfl (hF.at 13 rfl h13) ⟨_, rfl, rfl, Grew.refl _⟩
    · obtain rfl : oR236 p = o := Option.some.inj ho
      obtain rfl : 113 = d := Option.some.inj hd
      have q4 : a'.tmps.getD 111 undef = .slice A2 L2 c2 := hp 4 (oR234 p) 111 rfl rfl rfl
      have q5 : a'.tmps.getD 112 undef = .int .i64 (N : Int) := hp 5 (oR235 p) 112 rfl rfl rfl
      exact step_cut (by omega) (by omega) rfl rfl rfl q4 q5 ⟨_, rfl, rfl, Grew.refl _⟩
    · obtain rfl : oR237 p = o := Option.some.inj ho
      obtain rfl : 114 = d := Option.some.inj hd
      have q6 : a'.tmps.getD 113 undef = .slice A2 N c2 := hp 6 (oR236 p) 113 rfl rfl rfl
      refine step_call rfl rfl rfl trivial (fun h => by cases h) (enters_of Tryd.func6 (by kernel_rfl) rfl) ?_
      rw [show Array.map a'.eval #[.tmp 113] = #[.slice A2 N c2] by simp only [List.map_toArray, List.map_cons, List.map_nil, Act.eval, q6]]
      refine (callsIn_wide.2 (Sum_any A2 N c2 (b.take N) hlb (by omega) w' (hT.grew hR.undraw) (HasA.below' hA2 hR.undraw))).mono ?_
      rintro e w'' ⟨rfl, hg⟩
      exact ⟨_, rfl, _, rfl, rfl, hg⟩
    · obtain rfl : oR238 p = o := Option.some.inj ho
      obtain rfl : 115 = d := Option.some.inj hd
      have q3 : a'.tmps.getD 110 undef = .int .u32 ((crcSum (a.take N) : Nat) : Int) := hp 3 (oR233 p) 110 rfl rfl rfl
      have q7 : a'.tmps.getD 114 undef = .int .u32 ((crcSum (b.take N) : Nat) : Int) := hp 7 (oR237 p) 114 rfl rfl rfl
      exact step_bin rfl rfl rfl q3 q7 (guard_int _ _ _ _ _ _ _ _ _) (run_xor32 _ _ _ (crcSum_lt _) (crcSum_lt _)) ⟨_, rfl, rfl, Grew.refl _⟩
    · obtain rfl : oR239 p = o := Option.some.inj ho
      obtain rfl : 116 = d := Option.some.inj hd
      exact step_move rfl rfl rfl (hF.at 15 rfl h15) ⟨_, rfl, rfl, Grew.refl _⟩
    · obtain rfl : oR2310 p = o := Option.some.inj ho
      obtain rfl : 117 = d := Option.some.inj hd
      have q9 : a'.tmps.getD 116 undef = .slice (some ⟨gn, 0, none⟩) N N := hp 9 (oR239 p) 116 rfl rfl rfl
      refine step_call rfl rfl rfl trivial (fun h => by cases h) (enters_of Tryd.func6 (by kernel_rfl) rfl) ?_
      rw [show Array.map a'.eval #[.tmp 116] = #[.slice (some ⟨gn, 0, none⟩) N N] by simp only [List.map_toArray, List.map_cons, List.map_nil, Act.eval, q9]]
      refine (callsIn_wide.2 (Sum_any (some ⟨gn, 0, none⟩) N N (List.replicate N 0) (by simp) (by omega) w' (hT.grew hR.undraw) (HasA.below' hZ hR.undraw))).mono ?_
      rintro e w'' ⟨rfl, hg⟩
      exact ⟨_, rfl, _, rfl, rfl, hg⟩
    · obtain rfl : oR2311 p = o := Option.some.inj ho
      obtain rfl : 118 = d := Option.some.inj hd
      have q8 : a'.tmps.getD 115 undef = .int .u32 ((crcSum (a.take N) ^^^ crcSum (b.take N) : Nat) : Int) := hp 8 (oR238 p) 115 rfl rfl rfl
      have q10 : a'.tmps.getD 117 undef = .int .u32 ((crcSum (List.replicate N 0) : Nat) : Int) := hp 10 (oR2310 p) 117 rfl rfl rfl
      exact step_bin rfl rfl rfl q8 q10 (guard_int _ _ _ _ _ _ _ _ _) (run_xor32 _ _ _ (Nat.xor_lt_two_pow (n := 32) (crcSum_lt _) (crcSum_lt _)) (crcSum_lt _)) ⟨_, rfl, rfl, Grew.refl _⟩
    · obtain rfl : oR2312 p = o := Option.some.inj ho
      obtain rfl : 119 = d := Option.some.inj hd
      exact step_move rfl rfl rfl (hF.at 14 rfl h14) ⟨_, rfl, rfl, Grew.refl _⟩
    · obtain rfl : oR2313 p = o := Option.some.inj ho
      obtain rfl : 120 = d := Option.some.inj hd
      have q12 : a'.tmps.getD 119 undef = .slice (some ⟨gc, 0, none⟩) N N := hp 12 (oR2312 p) 119 rfl rfl rfl
      refine step_call rfl rfl rfl trivial (fun h => by cases h) (enters_of Tryd.func6 (by kernel_rfl) rfl) ?_
      rw [show Array.map a'.eval #[.tmp 119] = #[.slice (some ⟨gc, 0, none⟩) N N] by simp only [List.map_toArray, List.map_cons, List.map_nil, Act.eval, q12]]
      refine (callsIn_wide.2 (Sum_any (some ⟨gc, 0, none⟩) N N C hlc (by omega) w' (hT.grew hR.undraw) (HasA.below' hC hR.undraw))).mono ?_
      rintro e w'' ⟨rfl, hg⟩
      exact ⟨_, rfl, _, rfl, rfl, hg⟩
    · obtain rfl : oR2314 p = o := Option.some.inj ho
      obtain rfl : 121 = d := Option.some.inj hd
      have q11 : a'.tmps.getD 118 undef = .int .u32 ((crcSum (a.take N) ^^^ crcSum (b.take N) ^^^ crcSum (List.replicate N 0) : Nat) : Int) := hp 11 (oR2311 p) 118 rfl rfl rfl
      have q13 : a'.tmps.getD 120 undef = .int .u32 ((crcSum C : Nat) : Int) := hp 13 (oR2313 p) 120 rfl rfl rfl
      exact step_bin rfl rfl rfl q11 q13 (guard_int _ _ _ _ _ _ _ _ _) (by rw [run_eqi, heq]; simp) ⟨_, rfl, rfl, Grew.refl _⟩
    · obtain rfl : oR2315 p = o := Option.some.inj ho
      obtain rfl : 122 = d := Option.some.inj hd
      have q14 : a'.tmps.getD 121 undef = .bool true := hp 14 (oR2314 p) 121 rfl rfl rfl
      exact step_move rfl rfl rfl q14 ⟨_, rfl, rfl, Grew.refl _⟩
    · obtain rfl : oR2316 p = o := Option.some.inj ho
      obtain rfl : 123 = d := Option.some.inj hd
      have q15 : a'.tmps.getD 122 undef = .bool true := hp 15 (oR2315 p) 122 rfl rfl rfl
      refine step_call rfl (wanted_on rfl (show (opsR23 p).toArray[15]? = some (oR2315 p) from rfl) rfl q15) rfl trivial (fun h => by cases h) (enters_of Tryd.func5 (by kernel_rfl) rfl) ?_
      rw [show Array.map a'.eval #[] = #[] by simp]
      refine (callsIn_wide.2 (wakes_any w' (hT.grew hR.undraw))).mono ?_
      rintro e w'' ⟨rfl, hb⟩
      exact ⟨_, rfl, _, rfl, rfl, hb⟩
    · obtain rfl : oR2317 p = o := Option.some.inj ho
      obtain rfl : 124 = d := Option.some.inj hd
      have q15 : a'.tmps.getD 122 undef = .bool true := hp 15 (oR2315 p) 122 rfl rfl rfl
      have q16 : a'.tmps.getD 123 undef = .bool true := hp 16 (oR2316 p) 123 rfl rfl rfl
      exact step_pick rfl rfl rfl q15 (show (if true = true then a'.tmps.getD 123 undef else _) = _ from q16) ⟨_, rfl, rfl, Grew.refl _⟩
    · obtain rfl : oR2318 p = o := Option.some.inj ho
      obtain rfl : 8 = d := Option.some.inj hd
      have q17 : a'.tmps.getD 124 undef = .bool true := hp 17 (oR2317 p) 124 rfl rfl rfl
      exact step_assign rfl rfl rfl q17 ⟨_, rfl, rfl, Grew.refl _⟩
    · exact absurd ((Array.getElem?_eq_some_iff.1 ho).1) (by simp [opsR23])
  · intro a' w' hF hR hp
    exact hQ a' w' hF.defers (hp 18 (oR2318 p) 8 rfl rfl) hR.undraw
end Go.Proofs.YtlkbodlbhdpknaaDoor
