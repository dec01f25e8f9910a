/- KeysetApart: the statements that read batches and waves, whatever their order of evaluation. -/
import Derived.Test.YtooaobadnainkaaKsRun
namespace Go.Proofs.Ytooaobadnainkaa
open Go.RowKit

def oKA160 (p : String) : Oper := { dst := some 42, op := Op.move (Operand.tmp 0), type := 22, pos := p, after := #[], guard := none }
def oKA161 (p : String) : Oper := { dst := some 43, op := Op.move (Operand.tmp 7), type := 3, pos := p, after := #[], guard := none }
def oKA162 (p : String) : Oper := { dst := some 44, op := Op.indexAddr 22 (Operand.tmp 42) (Operand.tmp 43), type := 0, pos := p, after := #[{ on := 0, ground := Ground.data }, { on := 1, ground := Ground.data }], guard := none }
def oKA163 (p : String) : Oper := { dst := some 45, op := Op.load 31 (Operand.tmp 44), type := 31, pos := p, after := #[{ on := 2, ground := Ground.data }], guard := none }
def oKA164 (p : String) : Oper := { dst := some 46, op := Op.move (Operand.tmp 0), type := 22, pos := p, after := #[], guard := none }
def oKA165 (p : String) : Oper := { dst := some 47, op := Op.move (Operand.tmp 6), type := 3, pos := p, after := #[], guard := none }
def oKA166 (p : String) : Oper := { dst := some 48, op := Op.indexAddr 22 (Operand.tmp 46) (Operand.tmp 47), type := 0, pos := p, after := #[{ on := 4, ground := Ground.data }, { on := 5, ground := Ground.data }], guard := none }
def oKA167 (p : String) : Oper := { dst := some 49, op := Op.load 31 (Operand.tmp 48), type := 31, pos := p, after := #[{ on := 6, ground := Ground.data }], guard := none }
def oKA168 (p : String) : Oper := { dst := some 50, op := Op.call { callee := Callee.value (Operand.func 11), args := #[Operand.tmp 45, Operand.tmp 49], argTypes := #[31, 31] }, type := 4, pos := p, after := #[{ on := 3, ground := Ground.data }, { on := 7, ground := Ground.data }], guard := none }
def oKA169 (p : String) : Oper := { dst := some 8, op := Op.assign (Operand.tmp 50), type := 4, pos := p, after := #[{ on := 8, ground := Ground.data }, { on := 8, ground := Ground.chain }, { on := 0, ground := Ground.phase }, { on := 1, ground := Ground.phase }, { on := 2, ground := Ground.phase }, { on := 3, ground := Ground.phase }, { on := 4, ground := Ground.phase }, { on := 5, ground := Ground.phase }, { on := 6, ground := Ground.phase }, { on := 7, ground := Ground.phase }, { on := 8, ground := Ground.phase }], guard := none }
def opsKA16 (p : String) : List Oper := [oKA160 p, oKA161 p, oKA162 p, oKA163 p, oKA164 p, oKA165 p, oKA166 p, oKA167 p, oKA168 p, oKA169 p]
theorem opsKA16_back (p : String) : backwards (opsKA16 p) = true := by kernel_rfl
theorem opsKA16_slots (p : String) : slotsOk 96 (opsKA16 p) = true := by kernel_rfl
/-- What each slot comes to. -/
def psiKA16 (b o L c k q : Nat) (x y : CmdV) (r : Bool) : Nat → Value → World → Prop
  | 0, v, _ => v = .slice (some ⟨b, o, none⟩) L c
  | 1, v, _ => v = .int .i64 (k : Int)
  | 2, v, _ => v = .pointer (some ⟨b, o + k * 7, none⟩)
  | 3, v, _ => v = x.val
  | 4, v, _ => v = .slice (some ⟨b, o, none⟩) L c
  | 5, v, _ => v = .int .i64 (q : Int)
  | 6, v, _ => v = .pointer (some ⟨b, o + q * 7, none⟩)
  | 7, v, _ => v = y.val
  | 8, v, _ => v = .bool r
  | 9, v, _ => v = .bool r
  | _, _, _ => True
theorem psiKA16_grew (b o L c k q : Nat) (x y : CmdV) (r : Bool) : ∀ i v w w', psiKA16 b o L c k q x y r i v w → Grew w w' → psiKA16 b o L c k q x y r i v w' := by
  intro i v w w' h hg
  rcases i with _ | _ | _ | _ | _ | _ | _ | _ | _ | _ | i
  · exact h
  · exact h
  · exact h
  · exact h
  · exact h
  · exact h
  · exact h
  · exact h
  · exact h
  · exact h
  · trivial
set_option maxRecDepth 100000 in
set_option maxHeartbeats 4000000 in
theorem ksway {p : String} (b o L c k q : Nat) (x y : CmdV) (r : Bool) (hk : k < L) (hi : q < L) (a : Act) (w : World) (Q : Exit → Act → World → Prop) (hN : a.tmps.size = 96) (h0 : a.tmps.getD 0 undef = .slice (some ⟨b, o, none⟩) L c) (h6 : a.tmps.getD 6 undef = .int .i64 (q : Int)) (h7 : a.tmps.getD 7 undef = .int .i64 (k : Int)) (hb : b < w.heap.size) (hx : ∀ j u, x.cells[j]? = some u → w.cell? ⟨b, o + k * 7 + j, none⟩ = some u) (hy : ∀ j u, y.cells[j]? = some u → w.cell? ⟨b, o + q * 7 + j, none⟩ = some u) (hW : ∀ w', Grew w w' → Calls Try.prog 11 #[x.val, y.val] w' fun e W' => e = .returned (.bool r) ∧ Below w'.heap.size w' W') (hQ : ∀ (w' : World), Grew w w' → Q .normal (puts [(42, .slice (some ⟨b, o, none⟩) L c), (43, .int .i64 (k : Int)), (44, .pointer (some ⟨b, o + k * 7, none⟩)), (45, x.val), (46, .slice (some ⟨b, o, none⟩) L c), (47, .int .i64 (q : Int)), (48, .pointer (some ⟨b, o + q * 7, none⟩)), (49, y.val), (50, .bool r), (8, .bool r)] a) w')
    : (Code.region 16 (opsKA16 p).toArray true).wp Try.prog Q a w := by
  refine (wpIn_wide (n := 1)).1 (wpIn_region_vals 96 hN follows (opsKA16_back p) (opsKA16_slots p) Grew Grew.refl Grew.trans (psiKA16 b o L c k q x y r) (psiKA16_grew b o L c k q x y r) ?_ ?_)
  · intro i o d ho hd a' w' hF hR hp
    rcases i with _ | _ | _ | _ | _ | _ | _ | _ | _ | _ | i
    · obtain rfl : oKA160 p = o := Option.some.inj ho
      obtain rfl : 42 = d := Option.some.inj hd
      exact step_move rfl rfl rfl (hF.at 0 rfl h0) ⟨_, rfl, rfl, Grew.refl _⟩
    · obtain rfl : oKA161 p = o := Option.some.inj ho
      obtain rfl : 43 = d := Option.some.inj hd
      exact step_move rfl rfl rfl (hF.at 7 rfl h7) ⟨_, rfl, rfl, Grew.refl _⟩
    · obtain rfl : oKA162 p = o := Option.some.inj ho
      obtain rfl : 44 = d := Option.some.inj hd
      have q0 : a'.tmps.getD 42 undef = .slice (some ⟨b, o, none⟩) L c := hp 0 (oKA160 p) 42 rfl rfl rfl
      have q1 : a'.tmps.getD 43 undef = .int .i64 (k : Int) := hp 1 (oKA161 p) 43 rfl rfl rfl
      exact step_index rfl rfl rfl q0 q1 (run_ixC _ _ _ _ _ _ hk) ⟨_, rfl, rfl, Grew.refl _⟩
    · obtain rfl : oKA163 p = o := Option.some.inj ho
      obtain rfl : 45 = d := Option.some.inj hd
      have q2 : a'.tmps.getD 44 undef = .pointer (some ⟨b, o + k * 7, none⟩) := hp 2 (oKA162 p) 44 rfl rfl rfl
      exact step_load rfl rfl rfl q2 (run_ldC _ _ _ _ (fun i u hu => (Below.cell hR.undraw (p := ⟨b, o + k * 7 + i, none⟩) hb).trans (hx i u hu))) ⟨_, rfl, rfl, Grew.refl _⟩
    · obtain rfl : oKA164 p = o := Option.some.inj ho
      obtain rfl : 46 = d := Option.some.inj hd
      exact step_move rfl rfl rfl (hF.at 0 rfl h0) ⟨_, rfl, rfl, Grew.refl _⟩
    · obtain rfl : oKA165 p = o := Option.some.inj ho
      obtain rfl : 47 = d := Option.some.inj hd
      exact step_move rfl rfl rfl (hF.at 6 rfl h6) ⟨_, rfl, rfl, Grew.refl _⟩
    · obtain rfl : oKA166 p = o := Option.some.inj ho
      obtain rfl : 48 = d := Option.some.inj hd
      have q4 : a'.tmps.getD 46 undef = .slice (some ⟨b, o, none⟩) L c := hp 4 (oKA164 p) 46 rfl rfl rfl
      have q5 : a'.tmps.getD 47 undef = .int .i64 (q : Int) := hp 5 (oKA165 p) 47 rfl rfl rfl
      exact step_index rfl rfl rfl q4 q5 (run_ixC _ _ _ _ _ _ hi) ⟨_, rfl, rfl, Grew.refl _⟩
    · obtain rfl : oKA167 p = o := Option.some.inj ho
      obtain rfl : 49 = d := Option.some.inj hd
      have q6 : a'.tmps.getD 48 undef = .pointer (some ⟨b, o + q * 7, none⟩) := hp 6 (oKA166 p) 48 rfl rfl rfl
      exact step_load rfl rfl rfl q6 (run_ldC _ _ _ _ (fun i u hu => (Below.cell hR.undraw (p := ⟨b, o + q * 7 + i, none⟩) hb).trans (hy i u hu))) ⟨_, rfl, rfl, Grew.refl _⟩
    · obtain rfl : oKA168 p = o := Option.some.inj ho
      obtain rfl : 50 = d := Option.some.inj hd
      have q3 : a'.tmps.getD 45 undef = x.val := hp 3 (oKA163 p) 45 rfl rfl rfl
      have q7 : a'.tmps.getD 49 undef = y.val := hp 7 (oKA167 p) 49 rfl rfl rfl
      refine step_callD rfl rfl rfl (enters_of Try.func11 (by kernel_rfl) rfl) (show Array.map a'.eval #[.tmp 45, .tmp 49] = _ from by simp only [List.map_toArray, List.map_cons, List.map_nil, Act.eval, q3, q7]) ((hW w' hR.undraw).mono ?_)
      rintro e w'' ⟨rfl, hb⟩
      exact ⟨_, rfl, _, rfl, rfl, hb⟩
    · obtain rfl : oKA169 p = o := Option.some.inj ho
      obtain rfl : 8 = d := Option.some.inj hd
      have q8 : a'.tmps.getD 50 undef = .bool r := hp 8 (oKA168 p) 50 rfl rfl rfl
      exact step_assign rfl rfl rfl q8 ⟨_, rfl, rfl, Grew.refl _⟩
    · exact absurd ((Array.getElem?_eq_some_iff.1 ho).1) (by simp [opsKA16])
  · intro a' w' hF hR hp
    have e0 : psiKA16 b o L c k q x y r 0 (a'.tmps.getD 42 undef) w' := hp 0 (oKA160 p) 42 rfl rfl
    have e1 : psiKA16 b o L c k q x y r 1 (a'.tmps.getD 43 undef) w' := hp 1 (oKA161 p) 43 rfl rfl
    have e2 : psiKA16 b o L c k q x y r 2 (a'.tmps.getD 44 undef) w' := hp 2 (oKA162 p) 44 rfl rfl
    have e3 : psiKA16 b o L c k q x y r 3 (a'.tmps.getD 45 undef) w' := hp 3 (oKA163 p) 45 rfl rfl
    have e4 : psiKA16 b o L c k q x y r 4 (a'.tmps.getD 46 undef) w' := hp 4 (oKA164 p) 46 rfl rfl
    have e5 : psiKA16 b o L c k q x y r 5 (a'.tmps.getD 47 undef) w' := hp 5 (oKA165 p) 47 rfl rfl
    have e6 : psiKA16 b o L c k q x y r 6 (a'.tmps.getD 48 undef) w' := hp 6 (oKA166 p) 48 rfl rfl
    have e7 : psiKA16 b o L c k q x y r 7 (a'.tmps.getD 49 undef) w' := hp 7 (oKA167 p) 49 rfl rfl
    have e8 : psiKA16 b o L c k q x y r 8 (a'.tmps.getD 50 undef) w' := hp 8 (oKA168 p) 50 rfl rfl
    have e9 : psiKA16 b o L c k q x y r 9 (a'.tmps.getD 8 undef) w' := hp 9 (oKA169 p) 8 rfl rfl
    rw [hF.puts [(42, .slice (some ⟨b, o, none⟩) L c), (43, .int .i64 (k : Int)), (44, .pointer (some ⟨b, o + k * 7, none⟩)), (45, x.val), (46, .slice (some ⟨b, o, none⟩) L c), (47, .int .i64 (q : Int)), (48, .pointer (some ⟨b, o + q * 7, none⟩)), (49, y.val), (50, .bool r), (8, .bool r)] ?_ rfl (by rw [hN]; rfl)]
    · exact hQ  w'  hR.undraw
    · intro x hx
      simp only [List.mem_cons, List.not_mem_nil, or_false] at hx
      rcases hx with rfl | rfl | rfl | rfl | rfl | rfl | rfl | rfl | rfl | rfl
      · exact e0
      · exact e1
      · exact e2
      · exact e3
      · exact e4
      · exact e5
      · exact e6
      · exact e7
      · exact e8
      · exact e9
def oKW0 (p : String) : Oper := { dst := some 51, op := Op.move (Operand.tmp 8), type := 4, pos := p, after := #[], guard := none }
def oKW1 (p : String) : Oper := { dst := some 52, op := Op.move (Operand.tmp 51), type := 4, pos := p, after := #[{ on := 0, ground := Ground.data }], guard := none }
def oKW2 (p : String) : Oper := { dst := some 53, op := Op.move (Operand.tmp 3), type := 25, pos := p, after := #[{ on := 1, ground := Ground.guard }], guard := some (1, true) }
def oKW3 (p : String) : Oper := { dst := some 54, op := Op.move (Operand.tmp 7), type := 3, pos := p, after := #[{ on := 1, ground := Ground.guard }], guard := some (1, true) }
def oKW4 (p : String) : Oper := { dst := some 55, op := Op.indexAddr 25 (Operand.tmp 53) (Operand.tmp 54), type := 0, pos := p, after := #[{ on := 2, ground := Ground.data }, { on := 3, ground := Ground.data }, { on := 1, ground := Ground.guard }], guard := some (1, true) }
def oKW5 (p : String) : Oper := { dst := some 56, op := Op.load 3 (Operand.tmp 55), type := 3, pos := p, after := #[{ on := 4, ground := Ground.data }, { on := 1, ground := Ground.guard }], guard := some (1, true) }
def oKW6 (p : String) : Oper := { dst := some 57, op := Op.move (Operand.tmp 3), type := 25, pos := p, after := #[{ on := 1, ground := Ground.guard }], guard := some (1, true) }
def oKW7 (p : String) : Oper := { dst := some 58, op := Op.move (Operand.tmp 6), type := 3, pos := p, after := #[{ on := 1, ground := Ground.guard }], guard := some (1, true) }
def oKW8 (p : String) : Oper := { dst := some 59, op := Op.indexAddr 25 (Operand.tmp 57) (Operand.tmp 58), type := 0, pos := p, after := #[{ on := 6, ground := Ground.data }, { on := 7, ground := Ground.data }, { on := 1, ground := Ground.guard }], guard := some (1, true) }
def oKW9 (p : String) : Oper := { dst := some 60, op := Op.load 3 (Operand.tmp 59), type := 3, pos := p, after := #[{ on := 8, ground := Ground.data }, { on := 1, ground := Ground.guard }], guard := some (1, true) }
def oKW10 (p : String) : Oper := { dst := some 61, op := Op.binOp BinOp.geq 3 (Operand.tmp 56) (Operand.tmp 60) 3, type := 4, pos := p, after := #[{ on := 5, ground := Ground.data }, { on := 9, ground := Ground.data }, { on := 1, ground := Ground.guard }], guard := some (1, true) }
def oKW11 (p : String) : Oper := { dst := some 62, op := Op.pick (Operand.tmp 52) (Operand.tmp 61) (Operand.const (Value.bool false)), type := 4, pos := p, after := #[{ on := 1, ground := Ground.data }, { on := 10, ground := Ground.data }], guard := none }
def oKW12 (p : String) : Oper := { dst := some 63, op := Op.move (Operand.tmp 62), type := 4, pos := p, after := #[{ on := 11, ground := Ground.data }, { on := 1, ground := Ground.chain }], guard := none }
def oKW13 (p : String) : Oper := { dst := some 64, op := Op.move (Operand.tmp 3), type := 25, pos := p, after := #[{ on := 12, ground := Ground.guard }], guard := some (12, false) }
def oKW14 (p : String) : Oper := { dst := some 65, op := Op.move (Operand.tmp 7), type := 3, pos := p, after := #[{ on := 12, ground := Ground.guard }], guard := some (12, false) }
def oKW15 (p : String) : Oper := { dst := some 66, op := Op.indexAddr 25 (Operand.tmp 64) (Operand.tmp 65), type := 0, pos := p, after := #[{ on := 13, ground := Ground.data }, { on := 14, ground := Ground.data }, { on := 12, ground := Ground.guard }], guard := some (12, false) }
def oKW16 (p : String) : Oper := { dst := some 67, op := Op.load 3 (Operand.tmp 66), type := 3, pos := p, after := #[{ on := 15, ground := Ground.data }, { on := 12, ground := Ground.guard }], guard := some (12, false) }
def oKW17 (p : String) : Oper := { dst := some 68, op := Op.move (Operand.tmp 3), type := 25, pos := p, after := #[{ on := 12, ground := Ground.guard }], guard := some (12, false) }
def oKW18 (p : String) : Oper := { dst := some 69, op := Op.move (Operand.tmp 6), type := 3, pos := p, after := #[{ on := 12, ground := Ground.guard }], guard := some (12, false) }
def oKW19 (p : String) : Oper := { dst := some 70, op := Op.indexAddr 25 (Operand.tmp 68) (Operand.tmp 69), type := 0, pos := p, after := #[{ on := 17, ground := Ground.data }, { on := 18, ground := Ground.data }, { on := 12, ground := Ground.guard }], guard := some (12, false) }
def oKW20 (p : String) : Oper := { dst := some 71, op := Op.load 3 (Operand.tmp 70), type := 3, pos := p, after := #[{ on := 19, ground := Ground.data }, { on := 12, ground := Ground.guard }], guard := some (12, false) }
def oKW21 (p : String) : Oper := { dst := some 72, op := Op.binOp BinOp.eql 3 (Operand.tmp 67) (Operand.tmp 71) 3, type := 4, pos := p, after := #[{ on := 16, ground := Ground.data }, { on := 20, ground := Ground.data }, { on := 12, ground := Ground.guard }], guard := some (12, false) }
def oKW22 (p : String) : Oper := { dst := some 73, op := Op.move (Operand.tmp 72), type := 4, pos := p, after := #[{ on := 21, ground := Ground.data }, { on := 12, ground := Ground.chain }, { on := 12, ground := Ground.guard }], guard := some (12, false) }
def oKW23 (p : String) : Oper := { dst := some 74, op := Op.move (Operand.tmp 0), type := 22, pos := p, after := #[{ on := 22, ground := Ground.guard }], guard := some (22, true) }
def oKW24 (p : String) : Oper := { dst := some 75, op := Op.move (Operand.tmp 6), type := 3, pos := p, after := #[{ on := 22, ground := Ground.guard }], guard := some (22, true) }
def oKW25 (p : String) : Oper := { dst := some 76, op := Op.indexAddr 22 (Operand.tmp 74) (Operand.tmp 75), type := 0, pos := p, after := #[{ on := 23, ground := Ground.data }, { on := 24, ground := Ground.data }, { on := 22, ground := Ground.guard }], guard := some (22, true) }
def oKW26 (p : String) : Oper := { dst := some 77, op := Op.load 31 (Operand.tmp 76), type := 31, pos := p, after := #[{ on := 25, ground := Ground.data }, { on := 22, ground := Ground.guard }], guard := some (22, true) }
def oKW27 (p : String) : Oper := { dst := some 78, op := Op.call { callee := Callee.value (Operand.func 9), args := #[Operand.tmp 77], argTypes := #[31] }, type := 4, pos := p, after := #[{ on := 26, ground := Ground.data }, { on := 22, ground := Ground.chain }, { on := 22, ground := Ground.guard }], guard := some (22, true) }
def oKW28 (p : String) : Oper := { dst := some 79, op := Op.move (Operand.tmp 78), type := 4, pos := p, after := #[{ on := 27, ground := Ground.data }, { on := 27, ground := Ground.chain }, { on := 22, ground := Ground.guard }], guard := some (22, true) }
def oKW29 (p : String) : Oper := { dst := some 80, op := Op.move (Operand.tmp 0), type := 22, pos := p, after := #[{ on := 28, ground := Ground.guard }], guard := some (28, false) }
def oKW30 (p : String) : Oper := { dst := some 81, op := Op.move (Operand.tmp 7), type := 3, pos := p, after := #[{ on := 28, ground := Ground.guard }], guard := some (28, false) }
def oKW31 (p : String) : Oper := { dst := some 82, op := Op.indexAddr 22 (Operand.tmp 80) (Operand.tmp 81), type := 0, pos := p, after := #[{ on := 29, ground := Ground.data }, { on := 30, ground := Ground.data }, { on := 28, ground := Ground.guard }], guard := some (28, false) }
def oKW32 (p : String) : Oper := { dst := some 83, op := Op.load 31 (Operand.tmp 82), type := 31, pos := p, after := #[{ on := 31, ground := Ground.data }, { on := 28, ground := Ground.guard }], guard := some (28, false) }
def oKW33 (p : String) : Oper := { dst := some 84, op := Op.call { callee := Callee.value (Operand.func 9), args := #[Operand.tmp 83], argTypes := #[31] }, type := 4, pos := p, after := #[{ on := 32, ground := Ground.data }, { on := 28, ground := Ground.chain }, { on := 28, ground := Ground.guard }], guard := some (28, false) }
def oKW34 (p : String) : Oper := { dst := some 85, op := Op.pick (Operand.tmp 79) (Operand.const (Value.bool true)) (Operand.tmp 84), type := 4, pos := p, after := #[{ on := 28, ground := Ground.data }, { on := 33, ground := Ground.data }, { on := 22, ground := Ground.guard }], guard := some (22, true) }
def oKW35 (p : String) : Oper := { dst := some 86, op := Op.pick (Operand.tmp 73) (Operand.tmp 85) (Operand.const (Value.bool false)), type := 4, pos := p, after := #[{ on := 22, ground := Ground.data }, { on := 34, ground := Ground.data }, { on := 12, ground := Ground.guard }], guard := some (12, false) }
def oKW36 (p : String) : Oper := { dst := some 87, op := Op.pick (Operand.tmp 63) (Operand.const (Value.bool true)) (Operand.tmp 86), type := 4, pos := p, after := #[{ on := 12, ground := Ground.data }, { on := 35, ground := Ground.data }], guard := none }
def opsKW (p : String) : List Oper := [oKW0 p, oKW1 p, oKW2 p, oKW3 p, oKW4 p, oKW5 p, oKW6 p, oKW7 p, oKW8 p, oKW9 p, oKW10 p, oKW11 p, oKW12 p, oKW13 p, oKW14 p, oKW15 p, oKW16 p, oKW17 p, oKW18 p, oKW19 p, oKW20 p, oKW21 p, oKW22 p, oKW23 p, oKW24 p, oKW25 p, oKW26 p, oKW27 p, oKW28 p, oKW29 p, oKW30 p, oKW31 p, oKW32 p, oKW33 p, oKW34 p, oKW35 p, oKW36 p]
theorem opsKW_back (p : String) : backwards (opsKW p) = true := by kernel_rfl
theorem opsKW_slots (p : String) : slotsOk 96 (opsKW p) = true := by kernel_rfl
/-- What each slot comes to. -/
def psiKW (_b _o _L _c k q vb vo VL vc vk vi : Nat) (_x _y : CmdV) : Nat → Value → World → Prop
  | 0, v, _ => v = .bool true
  | 1, v, _ => v = .bool true
  | 2, v, _ => v = .slice (some ⟨vb, vo, none⟩) VL vc
  | 3, v, _ => v = .int .i64 (k : Int)
  | 4, v, _ => v = .pointer (some ⟨vb, vo + k, none⟩)
  | 5, v, _ => v = .int .i64 (vk : Int)
  | 6, v, _ => v = .slice (some ⟨vb, vo, none⟩) VL vc
  | 7, v, _ => v = .int .i64 (q : Int)
  | 8, v, _ => v = .pointer (some ⟨vb, vo + q, none⟩)
  | 9, v, _ => v = .int .i64 (vi : Int)
  | 10, v, _ => v = .bool false
  | 11, v, _ => v = .bool false
  | 12, v, _ => v = .bool false
  | 13, v, _ => v = .slice (some ⟨vb, vo, none⟩) VL vc
  | 14, v, _ => v = .int .i64 (k : Int)
  | 15, v, _ => v = .pointer (some ⟨vb, vo + k, none⟩)
  | 16, v, _ => v = .int .i64 (vk : Int)
  | 17, v, _ => v = .slice (some ⟨vb, vo, none⟩) VL vc
  | 18, v, _ => v = .int .i64 (q : Int)
  | 19, v, _ => v = .pointer (some ⟨vb, vo + q, none⟩)
  | 20, v, _ => v = .int .i64 (vi : Int)
  | 21, v, _ => v = .bool false
  | 22, v, _ => v = .bool false
  | 23, v, _ => v = undef
  | 24, v, _ => v = undef
  | 25, v, _ => v = undef
  | 26, v, _ => v = undef
  | 27, v, _ => v = undef
  | 28, v, _ => v = undef
  | 29, v, _ => v = undef
  | 30, v, _ => v = undef
  | 31, v, _ => v = undef
  | 32, v, _ => v = undef
  | 33, v, _ => v = undef
  | 34, v, _ => v = undef
  | 35, v, _ => v = .bool false
  | 36, v, _ => v = .bool false
  | _, _, _ => True
theorem psiKW_grew (b o L c k q vb vo VL vc vk vi : Nat) (x y : CmdV) : ∀ i v w w', psiKW b o L c k q vb vo VL vc vk vi x y i v w → Grew w w' → psiKW b o L c k q vb vo VL vc vk vi x y i v w' := by
  intro i v w w' h hg
  rcases i with _ | _ | _ | _ | _ | _ | _ | _ | _ | _ | _ | _ | _ | _ | _ | _ | _ | _ | _ | _ | _ | _ | _ | _ | _ | _ | _ | _ | _ | _ | _ | _ | _ | _ | _ | _ | _ | i
  · exact h
  · exact h
  · exact h
  · exact h
  · exact h
  · exact h
  · exact h
  · exact h
  · exact h
  · exact h
  · exact h
  · exact h
  · exact h
  · exact h
  · exact h
  · exact h
  · exact h
  · exact h
  · exact h
  · exact h
  · exact h
  · exact h
  · exact h
  · exact h
  · exact h
  · exact h
  · exact h
  · exact h
  · exact h
  · exact h
  · exact h
  · exact h
  · exact h
  · exact h
  · exact h
  · exact h
  · exact h
  · trivial
set_option maxRecDepth 100000 in
set_option maxHeartbeats 4000000 in
theorem ksKW {p : String} (b o L c k q vb vo VL vc vk vi : Nat) (x y : CmdV) (hvk : k < VL) (hvi : q < VL) (hlt : vk < vi) (a : Act) (w : World) (Q : Exit → Act → World → Prop) (hN : a.tmps.size = 96) (h3 : a.tmps.getD 3 undef = .slice (some ⟨vb, vo, none⟩) VL vc) (h6 : a.tmps.getD 6 undef = .int .i64 (q : Int)) (h7 : a.tmps.getD 7 undef = .int .i64 (k : Int)) (h8 : a.tmps.getD 8 undef = .bool true) (hvb : vb < w.heap.size) (hck : w.cell? ⟨vb, vo + k, none⟩ = some (.int .i64 (vk : Int))) (hci : w.cell? ⟨vb, vo + q, none⟩ = some (.int .i64 (vi : Int))) (hQ : ∀ (w' : World), Grew w w' → Q .normal (puts [(51, .bool true), (52, .bool true), (53, .slice (some ⟨vb, vo, none⟩) VL vc), (54, .int .i64 (k : Int)), (55, .pointer (some ⟨vb, vo + k, none⟩)), (56, .int .i64 (vk : Int)), (57, .slice (some ⟨vb, vo, none⟩) VL vc), (58, .int .i64 (q : Int)), (59, .pointer (some ⟨vb, vo + q, none⟩)), (60, .int .i64 (vi : Int)), (61, .bool false), (62, .bool false), (63, .bool false), (64, .slice (some ⟨vb, vo, none⟩) VL vc), (65, .int .i64 (k : Int)), (66, .pointer (some ⟨vb, vo + k, none⟩)), (67, .int .i64 (vk : Int)), (68, .slice (some ⟨vb, vo, none⟩) VL vc), (69, .int .i64 (q : Int)), (70, .pointer (some ⟨vb, vo + q, none⟩)), (71, .int .i64 (vi : Int)), (72, .bool false), (73, .bool false), (74, undef), (75, undef), (76, undef), (77, undef), (78, undef), (79, undef), (80, undef), (81, undef), (82, undef), (83, undef), (84, undef), (85, undef), (86, .bool false), (87, .bool false)] a) w')
    : (Code.region 17 (opsKW p).toArray true).wp Try.prog Q a w := by
  refine (wpIn_wide (n := 1)).1 (wpIn_region_vals 96 hN follows (opsKW_back p) (opsKW_slots p) Grew Grew.refl Grew.trans (psiKW b o L c k q vb vo VL vc vk vi x y) (psiKW_grew b o L c k q vb vo VL vc vk vi x y) ?_ ?_)
  · intro i o d ho hd a' w' hF hR hp
    rcases i with _ | _ | _ | _ | _ | _ | _ | _ | _ | _ | _ | _ | _ | _ | _ | _ | _ | _ | _ | _ | _ | _ | _ | _ | _ | _ | _ | _ | _ | _ | _ | _ | _ | _ | _ | _ | _ | i
    · obtain rfl : oKW0 p = o := Option.some.inj ho
      obtain rfl : 51 = d := Option.some.inj hd
      exact step_move rfl rfl rfl (hF.at 8 rfl h8) ⟨_, rfl, rfl, Grew.refl _⟩
    · obtain rfl : oKW1 p = o := Option.some.inj ho
      obtain rfl : 52 = d := Option.some.inj hd
      have q0 : a'.tmps.getD 51 undef = .bool true := hp 0 (oKW0 p) 51 rfl rfl rfl
      exact step_move rfl rfl rfl q0 ⟨_, rfl, rfl, Grew.refl _⟩
    · obtain rfl : oKW2 p = o := Option.some.inj ho
      obtain rfl : 53 = d := Option.some.inj hd
      have q1 : a'.tmps.getD 52 undef = .bool true := hp 1 (oKW1 p) 52 rfl rfl rfl
      exact step_move rfl (wanted_on rfl (show (opsKW p).toArray[1]? = some (oKW1 p) from rfl) rfl q1) rfl (hF.at 3 rfl h3) ⟨_, rfl, rfl, Grew.refl _⟩
    · obtain rfl : oKW3 p = o := Option.some.inj ho
      obtain rfl : 54 = d := Option.some.inj hd
      have q1 : a'.tmps.getD 52 undef = .bool true := hp 1 (oKW1 p) 52 rfl rfl rfl
      exact step_move rfl (wanted_on rfl (show (opsKW p).toArray[1]? = some (oKW1 p) from rfl) rfl q1) rfl (hF.at 7 rfl h7) ⟨_, rfl, rfl, Grew.refl _⟩
    · obtain rfl : oKW4 p = o := Option.some.inj ho
      obtain rfl : 55 = d := Option.some.inj hd
      have q1 : a'.tmps.getD 52 undef = .bool true := hp 1 (oKW1 p) 52 rfl rfl rfl
      have q2 : a'.tmps.getD 53 undef = .slice (some ⟨vb, vo, none⟩) VL vc := hp 2 (oKW2 p) 53 rfl rfl rfl
      have q3 : a'.tmps.getD 54 undef = .int .i64 (k : Int) := hp 3 (oKW3 p) 54 rfl rfl rfl
      exact step_index rfl (wanted_on rfl (show (opsKW p).toArray[1]? = some (oKW1 p) from rfl) rfl q1) rfl q2 q3 (run_ixI _ _ _ _ _ _ hvk) ⟨_, rfl, rfl, Grew.refl _⟩
    · obtain rfl : oKW5 p = o := Option.some.inj ho
      obtain rfl : 56 = d := Option.some.inj hd
      have q1 : a'.tmps.getD 52 undef = .bool true := hp 1 (oKW1 p) 52 rfl rfl rfl
      have q4 : a'.tmps.getD 55 undef = .pointer (some ⟨vb, vo + k, none⟩) := hp 4 (oKW4 p) 55 rfl rfl rfl
      exact step_load rfl (wanted_on rfl (show (opsKW p).toArray[1]? = some (oKW1 p) from rfl) rfl q1) rfl q4 (run_ldI _ _ _ ((Below.cell hR.undraw (p := ⟨vb, vo + k, none⟩) hvb).trans hck)) ⟨_, rfl, rfl, Grew.refl _⟩
    · obtain rfl : oKW6 p = o := Option.some.inj ho
      obtain rfl : 57 = d := Option.some.inj hd
      have q1 : a'.tmps.getD 52 undef = .bool true := hp 1 (oKW1 p) 52 rfl rfl rfl
      exact step_move rfl (wanted_on rfl (show (opsKW p).toArray[1]? = some (oKW1 p) from rfl) rfl q1) rfl (hF.at 3 rfl h3) ⟨_, rfl, rfl, Grew.refl _⟩
    · obtain rfl : oKW7 p = o := Option.some.inj ho
      obtain rfl : 58 = d := Option.some.inj hd
      have q1 : a'.tmps.getD 52 undef = .bool true := hp 1 (oKW1 p) 52 rfl rfl rfl
      exact step_move rfl (wanted_on rfl (show (opsKW p).toArray[1]? = some (oKW1 p) from rfl) rfl q1) rfl (hF.at 6 rfl h6) ⟨_, rfl, rfl, Grew.refl _⟩
    · obtain rfl : oKW8 p = o := Option.some.inj ho
      obtain rfl : 59 = d := Option.some.inj hd
      have q1 : a'.tmps.getD 52 undef = .bool true := hp 1 (oKW1 p) 52 rfl rfl rfl
      have q6 : a'.tmps.getD 57 undef = .slice (some ⟨vb, vo, none⟩) VL vc := hp 6 (oKW6 p) 57 rfl rfl rfl
      have q7 : a'.tmps.getD 58 undef = .int .i64 (q : Int) := hp 7 (oKW7 p) 58 rfl rfl rfl
      exact step_index rfl (wanted_on rfl (show (opsKW p).toArray[1]? = some (oKW1 p) from rfl) rfl q1) rfl q6 q7 (run_ixI _ _ _ _ _ _ hvi) ⟨_, rfl, rfl, Grew.refl _⟩
    · obtain rfl : oKW9 p = o := Option.some.inj ho
      obtain rfl : 60 = d := Option.some.inj hd
      have q1 : a'.tmps.getD 52 undef = .bool true := hp 1 (oKW1 p) 52 rfl rfl rfl
      have q8 : a'.tmps.getD 59 undef = .pointer (some ⟨vb, vo + q, none⟩) := hp 8 (oKW8 p) 59 rfl rfl rfl
      exact step_load rfl (wanted_on rfl (show (opsKW p).toArray[1]? = some (oKW1 p) from rfl) rfl q1) rfl q8 (run_ldI _ _ _ ((Below.cell hR.undraw (p := ⟨vb, vo + q, none⟩) hvb).trans hci)) ⟨_, rfl, rfl, Grew.refl _⟩
    · obtain rfl : oKW10 p = o := Option.some.inj ho
      obtain rfl : 61 = d := Option.some.inj hd
      have q1 : a'.tmps.getD 52 undef = .bool true := hp 1 (oKW1 p) 52 rfl rfl rfl
      have q5 : a'.tmps.getD 56 undef = .int .i64 (vk : Int) := hp 5 (oKW5 p) 56 rfl rfl rfl
      have q9 : a'.tmps.getD 60 undef = .int .i64 (vi : Int) := hp 9 (oKW9 p) 60 rfl rfl rfl
      exact step_bin rfl (wanted_on rfl (show (opsKW p).toArray[1]? = some (oKW1 p) from rfl) rfl q1) rfl q5 q9 (guard_int _ _ _ _ _ _ _ _ _) (run_geF _ _ _ _ hlt) ⟨_, rfl, rfl, Grew.refl _⟩
    · obtain rfl : oKW11 p = o := Option.some.inj ho
      obtain rfl : 62 = d := Option.some.inj hd
      have q1 : a'.tmps.getD 52 undef = .bool true := hp 1 (oKW1 p) 52 rfl rfl rfl
      have q10 : a'.tmps.getD 61 undef = .bool false := hp 10 (oKW10 p) 61 rfl rfl rfl
      exact step_pick rfl rfl rfl q1 (show (if true = true then a'.tmps.getD 61 undef else _) = _ from q10) ⟨_, rfl, rfl, Grew.refl _⟩
    · obtain rfl : oKW12 p = o := Option.some.inj ho
      obtain rfl : 63 = d := Option.some.inj hd
      have q11 : a'.tmps.getD 62 undef = .bool false := hp 11 (oKW11 p) 62 rfl rfl rfl
      exact step_move rfl rfl rfl q11 ⟨_, rfl, rfl, Grew.refl _⟩
    · obtain rfl : oKW13 p = o := Option.some.inj ho
      obtain rfl : 64 = d := Option.some.inj hd
      have q12 : a'.tmps.getD 63 undef = .bool false := hp 12 (oKW12 p) 63 rfl rfl rfl
      exact step_move rfl (wanted_on rfl (show (opsKW p).toArray[12]? = some (oKW12 p) from rfl) rfl q12) rfl (hF.at 3 rfl h3) ⟨_, rfl, rfl, Grew.refl _⟩
    · obtain rfl : oKW14 p = o := Option.some.inj ho
      obtain rfl : 65 = d := Option.some.inj hd
      have q12 : a'.tmps.getD 63 undef = .bool false := hp 12 (oKW12 p) 63 rfl rfl rfl
      exact step_move rfl (wanted_on rfl (show (opsKW p).toArray[12]? = some (oKW12 p) from rfl) rfl q12) rfl (hF.at 7 rfl h7) ⟨_, rfl, rfl, Grew.refl _⟩
    · obtain rfl : oKW15 p = o := Option.some.inj ho
      obtain rfl : 66 = d := Option.some.inj hd
      have q12 : a'.tmps.getD 63 undef = .bool false := hp 12 (oKW12 p) 63 rfl rfl rfl
      have q13 : a'.tmps.getD 64 undef = .slice (some ⟨vb, vo, none⟩) VL vc := hp 13 (oKW13 p) 64 rfl rfl rfl
      have q14 : a'.tmps.getD 65 undef = .int .i64 (k : Int) := hp 14 (oKW14 p) 65 rfl rfl rfl
      exact step_index rfl (wanted_on rfl (show (opsKW p).toArray[12]? = some (oKW12 p) from rfl) rfl q12) rfl q13 q14 (run_ixI _ _ _ _ _ _ hvk) ⟨_, rfl, rfl, Grew.refl _⟩
    · obtain rfl : oKW16 p = o := Option.some.inj ho
      obtain rfl : 67 = d := Option.some.inj hd
      have q12 : a'.tmps.getD 63 undef = .bool false := hp 12 (oKW12 p) 63 rfl rfl rfl
      have q15 : a'.tmps.getD 66 undef = .pointer (some ⟨vb, vo + k, none⟩) := hp 15 (oKW15 p) 66 rfl rfl rfl
      exact step_load rfl (wanted_on rfl (show (opsKW p).toArray[12]? = some (oKW12 p) from rfl) rfl q12) rfl q15 (run_ldI _ _ _ ((Below.cell hR.undraw (p := ⟨vb, vo + k, none⟩) hvb).trans hck)) ⟨_, rfl, rfl, Grew.refl _⟩
    · obtain rfl : oKW17 p = o := Option.some.inj ho
      obtain rfl : 68 = d := Option.some.inj hd
      have q12 : a'.tmps.getD 63 undef = .bool false := hp 12 (oKW12 p) 63 rfl rfl rfl
      exact step_move rfl (wanted_on rfl (show (opsKW p).toArray[12]? = some (oKW12 p) from rfl) rfl q12) rfl (hF.at 3 rfl h3) ⟨_, rfl, rfl, Grew.refl _⟩
    · obtain rfl : oKW18 p = o := Option.some.inj ho
      obtain rfl : 69 = d := Option.some.inj hd
      have q12 : a'.tmps.getD 63 undef = .bool false := hp 12 (oKW12 p) 63 rfl rfl rfl
      exact step_move rfl (wanted_on rfl (show (opsKW p).toArray[12]? = some (oKW12 p) from rfl) rfl q12) rfl (hF.at 6 rfl h6) ⟨_, rfl, rfl, Grew.refl _⟩
    · obtain rfl : oKW19 p = o := Option.some.inj ho
      obtain rfl : 70 = d := Option.some.inj hd
      have q12 : a'.tmps.getD 63 undef = .bool false := hp 12 (oKW12 p) 63 rfl rfl rfl
      have q17 : a'.tmps.getD 68 undef = .slice (some ⟨vb, vo, none⟩) VL vc := hp 17 (oKW17 p) 68 rfl rfl rfl
      have q18 : a'.tmps.getD 69 undef = .int .i64 (q : Int) := hp 18 (oKW18 p) 69 rfl rfl rfl
      exact step_index rfl (wanted_on rfl (show (opsKW p).toArray[12]? = some (oKW12 p) from rfl) rfl q12) rfl q17 q18 (run_ixI _ _ _ _ _ _ hvi) ⟨_, rfl, rfl, Grew.refl _⟩
    · obtain rfl : oKW20 p = o := Option.some.inj ho
      obtain rfl : 71 = d := Option.some.inj hd
      have q12 : a'.tmps.getD 63 undef = .bool false := hp 12 (oKW12 p) 63 rfl rfl rfl
      have q19 : a'.tmps.getD 70 undef = .pointer (some ⟨vb, vo + q, none⟩) := hp 19 (oKW19 p) 70 rfl rfl rfl
      exact step_load rfl (wanted_on rfl (show (opsKW p).toArray[12]? = some (oKW12 p) from rfl) rfl q12) rfl q19 (run_ldI _ _ _ ((Below.cell hR.undraw (p := ⟨vb, vo + q, none⟩) hvb).trans hci)) ⟨_, rfl, rfl, Grew.refl _⟩
    · obtain rfl : oKW21 p = o := Option.some.inj ho
      obtain rfl : 72 = d := Option.some.inj hd
      have q12 : a'.tmps.getD 63 undef = .bool false := hp 12 (oKW12 p) 63 rfl rfl rfl
      have q16 : a'.tmps.getD 67 undef = .int .i64 (vk : Int) := hp 16 (oKW16 p) 67 rfl rfl rfl
      have q20 : a'.tmps.getD 71 undef = .int .i64 (vi : Int) := hp 20 (oKW20 p) 71 rfl rfl rfl
      exact step_bin rfl (wanted_on rfl (show (opsKW p).toArray[12]? = some (oKW12 p) from rfl) rfl q12) rfl q16 q20 (guard_int _ _ _ _ _ _ _ _ _) (run_eqF _ _ _ _ (by omega)) ⟨_, rfl, rfl, Grew.refl _⟩
    · obtain rfl : oKW22 p = o := Option.some.inj ho
      obtain rfl : 73 = d := Option.some.inj hd
      have q12 : a'.tmps.getD 63 undef = .bool false := hp 12 (oKW12 p) 63 rfl rfl rfl
      have q21 : a'.tmps.getD 72 undef = .bool false := hp 21 (oKW21 p) 72 rfl rfl rfl
      exact step_move rfl (wanted_on rfl (show (opsKW p).toArray[12]? = some (oKW12 p) from rfl) rfl q12) rfl q21 ⟨_, rfl, rfl, Grew.refl _⟩
    · obtain rfl : oKW23 p = o := Option.some.inj ho
      obtain rfl : 74 = d := Option.some.inj hd
      have q22 : a'.tmps.getD 73 undef = .bool false := hp 22 (oKW22 p) 73 rfl rfl rfl
      exact step_off rfl (wanted_off rfl (show (opsKW p).toArray[22]? = some (oKW22 p) from rfl) rfl q22) ⟨_, rfl, rfl, Grew.refl _⟩
    · obtain rfl : oKW24 p = o := Option.some.inj ho
      obtain rfl : 75 = d := Option.some.inj hd
      have q22 : a'.tmps.getD 73 undef = .bool false := hp 22 (oKW22 p) 73 rfl rfl rfl
      exact step_off rfl (wanted_off rfl (show (opsKW p).toArray[22]? = some (oKW22 p) from rfl) rfl q22) ⟨_, rfl, rfl, Grew.refl _⟩
    · obtain rfl : oKW25 p = o := Option.some.inj ho
      obtain rfl : 76 = d := Option.some.inj hd
      have q22 : a'.tmps.getD 73 undef = .bool false := hp 22 (oKW22 p) 73 rfl rfl rfl
      exact step_off rfl (wanted_off rfl (show (opsKW p).toArray[22]? = some (oKW22 p) from rfl) rfl q22) ⟨_, rfl, rfl, Grew.refl _⟩
    · obtain rfl : oKW26 p = o := Option.some.inj ho
      obtain rfl : 77 = d := Option.some.inj hd
      have q22 : a'.tmps.getD 73 undef = .bool false := hp 22 (oKW22 p) 73 rfl rfl rfl
      exact step_off rfl (wanted_off rfl (show (opsKW p).toArray[22]? = some (oKW22 p) from rfl) rfl q22) ⟨_, rfl, rfl, Grew.refl _⟩
    · obtain rfl : oKW27 p = o := Option.some.inj ho
      obtain rfl : 78 = d := Option.some.inj hd
      have q22 : a'.tmps.getD 73 undef = .bool false := hp 22 (oKW22 p) 73 rfl rfl rfl
      exact step_off rfl (wanted_off rfl (show (opsKW p).toArray[22]? = some (oKW22 p) from rfl) rfl q22) ⟨_, rfl, rfl, Grew.refl _⟩
    · obtain rfl : oKW28 p = o := Option.some.inj ho
      obtain rfl : 79 = d := Option.some.inj hd
      have q22 : a'.tmps.getD 73 undef = .bool false := hp 22 (oKW22 p) 73 rfl rfl rfl
      exact step_off rfl (wanted_off rfl (show (opsKW p).toArray[22]? = some (oKW22 p) from rfl) rfl q22) ⟨_, rfl, rfl, Grew.refl _⟩
    · obtain rfl : oKW29 p = o := Option.some.inj ho
      obtain rfl : 80 = d := Option.some.inj hd
      have q28 : a'.tmps.getD 79 undef = undef := hp 28 (oKW28 p) 79 rfl rfl rfl
      exact step_off rfl (wanted_undef rfl (show (opsKW p).toArray[28]? = some (oKW28 p) from rfl) rfl q28) ⟨_, rfl, rfl, Grew.refl _⟩
    · obtain rfl : oKW30 p = o := Option.some.inj ho
      obtain rfl : 81 = d := Option.some.inj hd
      have q28 : a'.tmps.getD 79 undef = undef := hp 28 (oKW28 p) 79 rfl rfl rfl
      exact step_off rfl (wanted_undef rfl (show (opsKW p).toArray[28]? = some (oKW28 p) from rfl) rfl q28) ⟨_, rfl, rfl, Grew.refl _⟩
    · obtain rfl : oKW31 p = o := Option.some.inj ho
      obtain rfl : 82 = d := Option.some.inj hd
      have q28 : a'.tmps.getD 79 undef = undef := hp 28 (oKW28 p) 79 rfl rfl rfl
      exact step_off rfl (wanted_undef rfl (show (opsKW p).toArray[28]? = some (oKW28 p) from rfl) rfl q28) ⟨_, rfl, rfl, Grew.refl _⟩
    · obtain rfl : oKW32 p = o := Option.some.inj ho
      obtain rfl : 83 = d := Option.some.inj hd
      have q28 : a'.tmps.getD 79 undef = undef := hp 28 (oKW28 p) 79 rfl rfl rfl
      exact step_off rfl (wanted_undef rfl (show (opsKW p).toArray[28]? = some (oKW28 p) from rfl) rfl q28) ⟨_, rfl, rfl, Grew.refl _⟩
    · obtain rfl : oKW33 p = o := Option.some.inj ho
      obtain rfl : 84 = d := Option.some.inj hd
      have q28 : a'.tmps.getD 79 undef = undef := hp 28 (oKW28 p) 79 rfl rfl rfl
      exact step_off rfl (wanted_undef rfl (show (opsKW p).toArray[28]? = some (oKW28 p) from rfl) rfl q28) ⟨_, rfl, rfl, Grew.refl _⟩
    · obtain rfl : oKW34 p = o := Option.some.inj ho
      obtain rfl : 85 = d := Option.some.inj hd
      have q22 : a'.tmps.getD 73 undef = .bool false := hp 22 (oKW22 p) 73 rfl rfl rfl
      exact step_off rfl (wanted_off rfl (show (opsKW p).toArray[22]? = some (oKW22 p) from rfl) rfl q22) ⟨_, rfl, rfl, Grew.refl _⟩
    · obtain rfl : oKW35 p = o := Option.some.inj ho
      obtain rfl : 86 = d := Option.some.inj hd
      have q12 : a'.tmps.getD 63 undef = .bool false := hp 12 (oKW12 p) 63 rfl rfl rfl
      have q22 : a'.tmps.getD 73 undef = .bool false := hp 22 (oKW22 p) 73 rfl rfl rfl
      exact step_pick rfl (wanted_on rfl (show (opsKW p).toArray[12]? = some (oKW12 p) from rfl) rfl q12) rfl q22 rfl ⟨_, rfl, rfl, Grew.refl _⟩
    · obtain rfl : oKW36 p = o := Option.some.inj ho
      obtain rfl : 87 = d := Option.some.inj hd
      have q12 : a'.tmps.getD 63 undef = .bool false := hp 12 (oKW12 p) 63 rfl rfl rfl
      have q35 : a'.tmps.getD 86 undef = .bool false := hp 35 (oKW35 p) 86 rfl rfl rfl
      exact step_pick rfl rfl rfl q12 (show (if false = true then _ else a'.tmps.getD 86 undef) = _ from q35) ⟨_, rfl, rfl, Grew.refl _⟩
    · exact absurd ((Array.getElem?_eq_some_iff.1 ho).1) (by simp [opsKW])
  · intro a' w' hF hR hp
    have e0 : psiKW b o L c k q vb vo VL vc vk vi x y 0 (a'.tmps.getD 51 undef) w' := hp 0 (oKW0 p) 51 rfl rfl
    have e1 : psiKW b o L c k q vb vo VL vc vk vi x y 1 (a'.tmps.getD 52 undef) w' := hp 1 (oKW1 p) 52 rfl rfl
    have e2 : psiKW b o L c k q vb vo VL vc vk vi x y 2 (a'.tmps.getD 53 undef) w' := hp 2 (oKW2 p) 53 rfl rfl
    have e3 : psiKW b o L c k q vb vo VL vc vk vi x y 3 (a'.tmps.getD 54 undef) w' := hp 3 (oKW3 p) 54 rfl rfl
    have e4 : psiKW b o L c k q vb vo VL vc vk vi x y 4 (a'.tmps.getD 55 undef) w' := hp 4 (oKW4 p) 55 rfl rfl
    have e5 : psiKW b o L c k q vb vo VL vc vk vi x y 5 (a'.tmps.getD 56 undef) w' := hp 5 (oKW5 p) 56 rfl rfl
    have e6 : psiKW b o L c k q vb vo VL vc vk vi x y 6 (a'.tmps.getD 57 undef) w' := hp 6 (oKW6 p) 57 rfl rfl
    have e7 : psiKW b o L c k q vb vo VL vc vk vi x y 7 (a'.tmps.getD 58 undef) w' := hp 7 (oKW7 p) 58 rfl rfl
    have e8 : psiKW b o L c k q vb vo VL vc vk vi x y 8 (a'.tmps.getD 59 undef) w' := hp 8 (oKW8 p) 59 rfl rfl
    have e9 : psiKW b o L c k q vb vo VL vc vk vi x y 9 (a'.tmps.getD 60 undef) w' := hp 9 (oKW9 p) 60 rfl rfl
    have e10 : psiKW b o L c k q vb vo VL vc vk vi x y 10 (a'.tmps.getD 61 undef) w' := hp 10 (oKW10 p) 61 rfl rfl
    have e11 : psiKW b o L c k q vb vo VL vc vk vi x y 11 (a'.tmps.getD 62 undef) w' := hp 11 (oKW11 p) 62 rfl rfl
    have e12 : psiKW b o L c k q vb vo VL vc vk vi x y 12 (a'.tmps.getD 63 undef) w' := hp 12 (oKW12 p) 63 rfl rfl
    have e13 : psiKW b o L c k q vb vo VL vc vk vi x y 13 (a'.tmps.getD 64 undef) w' := hp 13 (oKW13 p) 64 rfl rfl
    have e14 : psiKW b o L c k q vb vo VL vc vk vi x y 14 (a'.tmps.getD 65 undef) w' := hp 14 (oKW14 p) 65 rfl rfl
    have e15 : psiKW b o L c k q vb vo VL vc vk vi x y 15 (a'.tmps.getD 66 undef) w' := hp 15 (oKW15 p) 66 rfl rfl
    have e16 : psiKW b o L c k q vb vo VL vc vk vi x y 16 (a'.tmps.getD 67 undef) w' := hp 16 (oKW16 p) 67 rfl rfl
    have e17 : psiKW b o L c k q vb vo VL vc vk vi x y 17 (a'.tmps.getD 68 undef) w' := hp 17 (oKW17 p) 68 rfl rfl
    have e18 : psiKW b o L c k q vb vo VL vc vk vi x y 18 (a'.tmps.getD 69 undef) w' := hp 18 (oKW18 p) 69 rfl rfl
    have e19 : psiKW b o L c k q vb vo VL vc vk vi x y 19 (a'.tmps.getD 70 undef) w' := hp 19 (oKW19 p) 70 rfl rfl
    have e20 : psiKW b o L c k q vb vo VL vc vk vi x y 20 (a'.tmps.getD 71 undef) w' := hp 20 (oKW20 p) 71 rfl rfl
    have e21 : psiKW b o L c k q vb vo VL vc vk vi x y 21 (a'.tmps.getD 72 undef) w' := hp 21 (oKW21 p) 72 rfl rfl
    have e22 : psiKW b o L c k q vb vo VL vc vk vi x y 22 (a'.tmps.getD 73 undef) w' := hp 22 (oKW22 p) 73 rfl rfl
    have e23 : psiKW b o L c k q vb vo VL vc vk vi x y 23 (a'.tmps.getD 74 undef) w' := hp 23 (oKW23 p) 74 rfl rfl
    have e24 : psiKW b o L c k q vb vo VL vc vk vi x y 24 (a'.tmps.getD 75 undef) w' := hp 24 (oKW24 p) 75 rfl rfl
    have e25 : psiKW b o L c k q vb vo VL vc vk vi x y 25 (a'.tmps.getD 76 undef) w' := hp 25 (oKW25 p) 76 rfl rfl
    have e26 : psiKW b o L c k q vb vo VL vc vk vi x y 26 (a'.tmps.getD 77 undef) w' := hp 26 (oKW26 p) 77 rfl rfl
    have e27 : psiKW b o L c k q vb vo VL vc vk vi x y 27 (a'.tmps.getD 78 undef) w' := hp 27 (oKW27 p) 78 rfl rfl
    have e28 : psiKW b o L c k q vb vo VL vc vk vi x y 28 (a'.tmps.getD 79 undef) w' := hp 28 (oKW28 p) 79 rfl rfl
    have e29 : psiKW b o L c k q vb vo VL vc vk vi x y 29 (a'.tmps.getD 80 undef) w' := hp 29 (oKW29 p) 80 rfl rfl
    have e30 : psiKW b o L c k q vb vo VL vc vk vi x y 30 (a'.tmps.getD 81 undef) w' := hp 30 (oKW30 p) 81 rfl rfl
    have e31 : psiKW b o L c k q vb vo VL vc vk vi x y 31 (a'.tmps.getD 82 undef) w' := hp 31 (oKW31 p) 82 rfl rfl
    have e32 : psiKW b o L c k q vb vo VL vc vk vi x y 32 (a'.tmps.getD 83 undef) w' := hp 32 (oKW32 p) 83 rfl rfl
    have e33 : psiKW b o L c k q vb vo VL vc vk vi x y 33 (a'.tmps.getD 84 undef) w' := hp 33 (oKW33 p) 84 rfl rfl
    have e34 : psiKW b o L c k q vb vo VL vc vk vi x y 34 (a'.tmps.getD 85 undef) w' := hp 34 (oKW34 p) 85 rfl rfl
    have e35 : psiKW b o L c k q vb vo VL vc vk vi x y 35 (a'.tmps.getD 86 undef) w' := hp 35 (oKW35 p) 86 rfl rfl
    have e36 : psiKW b o L c k q vb vo VL vc vk vi x y 36 (a'.tmps.getD 87 undef) w' := hp 36 (oKW36 p) 87 rfl rfl
    rw [hF.puts [(51, .bool true), (52, .bool true), (53, .slice (some ⟨vb, vo, none⟩) VL vc), (54, .int .i64 (k : Int)), (55, .pointer (some ⟨vb, vo + k, none⟩)), (56, .int .i64 (vk : Int)), (57, .slice (some ⟨vb, vo, none⟩) VL vc), (58, .int .i64 (q : Int)), (59, .pointer (some ⟨vb, vo + q, none⟩)), (60, .int .i64 (vi : Int)), (61, .bool false), (62, .bool false), (63, .bool false), (64, .slice (some ⟨vb, vo, none⟩) VL vc), (65, .int .i64 (k : Int)), (66, .pointer (some ⟨vb, vo + k, none⟩)), (67, .int .i64 (vk : Int)), (68, .slice (some ⟨vb, vo, none⟩) VL vc), (69, .int .i64 (q : Int)), (70, .pointer (some ⟨vb, vo + q, none⟩)), (71, .int .i64 (vi : Int)), (72, .bool false), (73, .bool false), (74, undef), (75, undef), (76, undef), (77, undef), (78, undef), (79, undef), (80, undef), (81, undef), (82, undef), (83, undef), (84, undef), (85, undef), (86, .bool false), (87, .bool false)] ?_ rfl (by rw [hN]; rfl)]
    · exact hQ  w'  hR.undraw
    · intro x hx
      simp only [List.mem_cons, List.not_mem_nil, or_false] at hx
      rcases hx with rfl | rfl | rfl | rfl | rfl | rfl | rfl | rfl | rfl | rfl | rfl | rfl | rfl | rfl | rfl | rfl | rfl | rfl | rfl | rfl | rfl | rfl | rfl | rfl | rfl | rfl | rfl | rfl | rfl | rfl | rfl | rfl | rfl | rfl | rfl | rfl | rfl
      · exact e0
      · exact e1
      · exact e2
      · exact e3
      · exact e4
      · exact e5
      · exact e6
      · exact e7
      · exact e8
      · exact e9
      · exact e10
      · exact e11
      · exact e12
      · exact e13
      · exact e14
      · exact e15
      · exact e16
      · exact e17
      · exact e18
      · exact e19
      · exact e20
      · exact e21
      · exact e22
      · exact e23
      · exact e24
      · exact e25
      · exact e26
      · exact e27
      · exact e28
      · exact e29
      · exact e30
      · exact e31
      · exact e32
      · exact e33
      · exact e34
      · exact e35
      · exact e36
def oKN0 (p : String) : Oper := { dst := some 51, op := Op.move (Operand.tmp 8), type := 4, pos := p, after := #[], guard := none }
def oKN1 (p : String) : Oper := { dst := some 52, op := Op.move (Operand.tmp 51), type := 4, pos := p, after := #[{ on := 0, ground := Ground.data }], guard := none }
def oKN2 (p : String) : Oper := { dst := some 53, op := Op.move (Operand.tmp 3), type := 25, pos := p, after := #[{ on := 1, ground := Ground.guard }], guard := some (1, true) }
def oKN3 (p : String) : Oper := { dst := some 54, op := Op.move (Operand.tmp 7), type := 3, pos := p, after := #[{ on := 1, ground := Ground.guard }], guard := some (1, true) }
def oKN4 (p : String) : Oper := { dst := some 55, op := Op.indexAddr 25 (Operand.tmp 53) (Operand.tmp 54), type := 0, pos := p, after := #[{ on := 2, ground := Ground.data }, { on := 3, ground := Ground.data }, { on := 1, ground := Ground.guard }], guard := some (1, true) }
def oKN5 (p : String) : Oper := { dst := some 56, op := Op.load 3 (Operand.tmp 55), type := 3, pos := p, after := #[{ on := 4, ground := Ground.data }, { on := 1, ground := Ground.guard }], guard := some (1, true) }
def oKN6 (p : String) : Oper := { dst := some 57, op := Op.move (Operand.tmp 3), type := 25, pos := p, after := #[{ on := 1, ground := Ground.guard }], guard := some (1, true) }
def oKN7 (p : String) : Oper := { dst := some 58, op := Op.move (Operand.tmp 6), type := 3, pos := p, after := #[{ on := 1, ground := Ground.guard }], guard := some (1, true) }
def oKN8 (p : String) : Oper := { dst := some 59, op := Op.indexAddr 25 (Operand.tmp 57) (Operand.tmp 58), type := 0, pos := p, after := #[{ on := 6, ground := Ground.data }, { on := 7, ground := Ground.data }, { on := 1, ground := Ground.guard }], guard := some (1, true) }
def oKN9 (p : String) : Oper := { dst := some 60, op := Op.load 3 (Operand.tmp 59), type := 3, pos := p, after := #[{ on := 8, ground := Ground.data }, { on := 1, ground := Ground.guard }], guard := some (1, true) }
def oKN10 (p : String) : Oper := { dst := some 61, op := Op.binOp BinOp.geq 3 (Operand.tmp 56) (Operand.tmp 60) 3, type := 4, pos := p, after := #[{ on := 5, ground := Ground.data }, { on := 9, ground := Ground.data }, { on := 1, ground := Ground.guard }], guard := some (1, true) }
def oKN11 (p : String) : Oper := { dst := some 62, op := Op.pick (Operand.tmp 52) (Operand.tmp 61) (Operand.const (Value.bool false)), type := 4, pos := p, after := #[{ on := 1, ground := Ground.data }, { on := 10, ground := Ground.data }], guard := none }
def oKN12 (p : String) : Oper := { dst := some 63, op := Op.move (Operand.tmp 62), type := 4, pos := p, after := #[{ on := 11, ground := Ground.data }, { on := 1, ground := Ground.chain }], guard := none }
def oKN13 (p : String) : Oper := { dst := some 64, op := Op.move (Operand.tmp 3), type := 25, pos := p, after := #[{ on := 12, ground := Ground.guard }], guard := some (12, false) }
def oKN14 (p : String) : Oper := { dst := some 65, op := Op.move (Operand.tmp 7), type := 3, pos := p, after := #[{ on := 12, ground := Ground.guard }], guard := some (12, false) }
def oKN15 (p : String) : Oper := { dst := some 66, op := Op.indexAddr 25 (Operand.tmp 64) (Operand.tmp 65), type := 0, pos := p, after := #[{ on := 13, ground := Ground.data }, { on := 14, ground := Ground.data }, { on := 12, ground := Ground.guard }], guard := some (12, false) }
def oKN16 (p : String) : Oper := { dst := some 67, op := Op.load 3 (Operand.tmp 66), type := 3, pos := p, after := #[{ on := 15, ground := Ground.data }, { on := 12, ground := Ground.guard }], guard := some (12, false) }
def oKN17 (p : String) : Oper := { dst := some 68, op := Op.move (Operand.tmp 3), type := 25, pos := p, after := #[{ on := 12, ground := Ground.guard }], guard := some (12, false) }
def oKN18 (p : String) : Oper := { dst := some 69, op := Op.move (Operand.tmp 6), type := 3, pos := p, after := #[{ on := 12, ground := Ground.guard }], guard := some (12, false) }
def oKN19 (p : String) : Oper := { dst := some 70, op := Op.indexAddr 25 (Operand.tmp 68) (Operand.tmp 69), type := 0, pos := p, after := #[{ on := 17, ground := Ground.data }, { on := 18, ground := Ground.data }, { on := 12, ground := Ground.guard }], guard := some (12, false) }
def oKN20 (p : String) : Oper := { dst := some 71, op := Op.load 3 (Operand.tmp 70), type := 3, pos := p, after := #[{ on := 19, ground := Ground.data }, { on := 12, ground := Ground.guard }], guard := some (12, false) }
def oKN21 (p : String) : Oper := { dst := some 72, op := Op.binOp BinOp.eql 3 (Operand.tmp 67) (Operand.tmp 71) 3, type := 4, pos := p, after := #[{ on := 16, ground := Ground.data }, { on := 20, ground := Ground.data }, { on := 12, ground := Ground.guard }], guard := some (12, false) }
def oKN22 (p : String) : Oper := { dst := some 73, op := Op.move (Operand.tmp 72), type := 4, pos := p, after := #[{ on := 21, ground := Ground.data }, { on := 12, ground := Ground.chain }, { on := 12, ground := Ground.guard }], guard := some (12, false) }
def oKN23 (p : String) : Oper := { dst := some 74, op := Op.move (Operand.tmp 0), type := 22, pos := p, after := #[{ on := 22, ground := Ground.guard }], guard := some (22, true) }
def oKN24 (p : String) : Oper := { dst := some 75, op := Op.move (Operand.tmp 6), type := 3, pos := p, after := #[{ on := 22, ground := Ground.guard }], guard := some (22, true) }
def oKN25 (p : String) : Oper := { dst := some 76, op := Op.indexAddr 22 (Operand.tmp 74) (Operand.tmp 75), type := 0, pos := p, after := #[{ on := 23, ground := Ground.data }, { on := 24, ground := Ground.data }, { on := 22, ground := Ground.guard }], guard := some (22, true) }
def oKN26 (p : String) : Oper := { dst := some 77, op := Op.load 31 (Operand.tmp 76), type := 31, pos := p, after := #[{ on := 25, ground := Ground.data }, { on := 22, ground := Ground.guard }], guard := some (22, true) }
def oKN27 (p : String) : Oper := { dst := some 78, op := Op.call { callee := Callee.value (Operand.func 9), args := #[Operand.tmp 77], argTypes := #[31] }, type := 4, pos := p, after := #[{ on := 26, ground := Ground.data }, { on := 22, ground := Ground.chain }, { on := 22, ground := Ground.guard }], guard := some (22, true) }
def oKN28 (p : String) : Oper := { dst := some 79, op := Op.move (Operand.tmp 78), type := 4, pos := p, after := #[{ on := 27, ground := Ground.data }, { on := 27, ground := Ground.chain }, { on := 22, ground := Ground.guard }], guard := some (22, true) }
def oKN29 (p : String) : Oper := { dst := some 80, op := Op.move (Operand.tmp 0), type := 22, pos := p, after := #[{ on := 28, ground := Ground.guard }], guard := some (28, false) }
def oKN30 (p : String) : Oper := { dst := some 81, op := Op.move (Operand.tmp 7), type := 3, pos := p, after := #[{ on := 28, ground := Ground.guard }], guard := some (28, false) }
def oKN31 (p : String) : Oper := { dst := some 82, op := Op.indexAddr 22 (Operand.tmp 80) (Operand.tmp 81), type := 0, pos := p, after := #[{ on := 29, ground := Ground.data }, { on := 30, ground := Ground.data }, { on := 28, ground := Ground.guard }], guard := some (28, false) }
def oKN32 (p : String) : Oper := { dst := some 83, op := Op.load 31 (Operand.tmp 82), type := 31, pos := p, after := #[{ on := 31, ground := Ground.data }, { on := 28, ground := Ground.guard }], guard := some (28, false) }
def oKN33 (p : String) : Oper := { dst := some 84, op := Op.call { callee := Callee.value (Operand.func 9), args := #[Operand.tmp 83], argTypes := #[31] }, type := 4, pos := p, after := #[{ on := 32, ground := Ground.data }, { on := 28, ground := Ground.chain }, { on := 28, ground := Ground.guard }], guard := some (28, false) }
def oKN34 (p : String) : Oper := { dst := some 85, op := Op.pick (Operand.tmp 79) (Operand.const (Value.bool true)) (Operand.tmp 84), type := 4, pos := p, after := #[{ on := 28, ground := Ground.data }, { on := 33, ground := Ground.data }, { on := 22, ground := Ground.guard }], guard := some (22, true) }
def oKN35 (p : String) : Oper := { dst := some 86, op := Op.pick (Operand.tmp 73) (Operand.tmp 85) (Operand.const (Value.bool false)), type := 4, pos := p, after := #[{ on := 22, ground := Ground.data }, { on := 34, ground := Ground.data }, { on := 12, ground := Ground.guard }], guard := some (12, false) }
def oKN36 (p : String) : Oper := { dst := some 87, op := Op.pick (Operand.tmp 63) (Operand.const (Value.bool true)) (Operand.tmp 86), type := 4, pos := p, after := #[{ on := 12, ground := Ground.data }, { on := 35, ground := Ground.data }], guard := none }
def opsKN (p : String) : List Oper := [oKN0 p, oKN1 p, oKN2 p, oKN3 p, oKN4 p, oKN5 p, oKN6 p, oKN7 p, oKN8 p, oKN9 p, oKN10 p, oKN11 p, oKN12 p, oKN13 p, oKN14 p, oKN15 p, oKN16 p, oKN17 p, oKN18 p, oKN19 p, oKN20 p, oKN21 p, oKN22 p, oKN23 p, oKN24 p, oKN25 p, oKN26 p, oKN27 p, oKN28 p, oKN29 p, oKN30 p, oKN31 p, oKN32 p, oKN33 p, oKN34 p, oKN35 p, oKN36 p]
theorem opsKN_back (p : String) : backwards (opsKN p) = true := by kernel_rfl
theorem opsKN_slots (p : String) : slotsOk 96 (opsKN p) = true := by kernel_rfl
/-- What each slot comes to. -/
def psiKN (_b _o _L _c k q vb vo VL vc vk vi : Nat) (_x _y : CmdV) : Nat → Value → World → Prop
  | 0, v, _ => v = .bool false
  | 1, v, _ => v = .bool false
  | 2, v, _ => v = undef
  | 3, v, _ => v = undef
  | 4, v, _ => v = undef
  | 5, v, _ => v = undef
  | 6, v, _ => v = undef
  | 7, v, _ => v = undef
  | 8, v, _ => v = undef
  | 9, v, _ => v = undef
  | 10, v, _ => v = undef
  | 11, v, _ => v = .bool false
  | 12, v, _ => v = .bool false
  | 13, v, _ => v = .slice (some ⟨vb, vo, none⟩) VL vc
  | 14, v, _ => v = .int .i64 (k : Int)
  | 15, v, _ => v = .pointer (some ⟨vb, vo + k, none⟩)
  | 16, v, _ => v = .int .i64 (vk : Int)
  | 17, v, _ => v = .slice (some ⟨vb, vo, none⟩) VL vc
  | 18, v, _ => v = .int .i64 (q : Int)
  | 19, v, _ => v = .pointer (some ⟨vb, vo + q, none⟩)
  | 20, v, _ => v = .int .i64 (vi : Int)
  | 21, v, _ => v = .bool false
  | 22, v, _ => v = .bool false
  | 23, v, _ => v = undef
  | 24, v, _ => v = undef
  | 25, v, _ => v = undef
  | 26, v, _ => v = undef
  | 27, v, _ => v = undef
  | 28, v, _ => v = undef
  | 29, v, _ => v = undef
  | 30, v, _ => v = undef
  | 31, v, _ => v = undef
  | 32, v, _ => v = undef
  | 33, v, _ => v = undef
  | 34, v, _ => v = undef
  | 35, v, _ => v = .bool false
  | 36, v, _ => v = .bool false
  | _, _, _ => True
theorem psiKN_grew (b o L c k q vb vo VL vc vk vi : Nat) (x y : CmdV) : ∀ i v w w', psiKN b o L c k q vb vo VL vc vk vi x y i v w → Grew w w' → psiKN b o L c k q vb vo VL vc vk vi x y i v w' := by
  intro i v w w' h hg
  rcases i with _ | _ | _ | _ | _ | _ | _ | _ | _ | _ | _ | _ | _ | _ | _ | _ | _ | _ | _ | _ | _ | _ | _ | _ | _ | _ | _ | _ | _ | _ | _ | _ | _ | _ | _ | _ | _ | i
  · exact h
  · exact h
  · exact h
  · exact h
  · exact h
  · exact h
  · exact h
  · exact h
  · exact h
  · exact h
  · exact h
  · exact h
  · exact h
  · exact h
  · exact h
  · exact h
  · exact h
  · exact h
  · exact h
  · exact h
  · exact h
  · exact h
  · exact h
  · exact h
  · exact h
  · exact h
  · exact h
  · exact h
  · exact h
  · exact h
  · exact h
  · exact h
  · exact h
  · exact h
  · exact h
  · exact h
  · exact h
  · trivial
set_option maxRecDepth 100000 in
set_option maxHeartbeats 4000000 in
theorem ksKN {p : String} (b o L c k q vb vo VL vc vk vi : Nat) (x y : CmdV) (hvk : k < VL) (hvi : q < VL) (hne : vk ≠ vi) (a : Act) (w : World) (Q : Exit → Act → World → Prop) (hN : a.tmps.size = 96) (h3 : a.tmps.getD 3 undef = .slice (some ⟨vb, vo, none⟩) VL vc) (h6 : a.tmps.getD 6 undef = .int .i64 (q : Int)) (h7 : a.tmps.getD 7 undef = .int .i64 (k : Int)) (h8 : a.tmps.getD 8 undef = .bool false) (hvb : vb < w.heap.size) (hck : w.cell? ⟨vb, vo + k, none⟩ = some (.int .i64 (vk : Int))) (hci : w.cell? ⟨vb, vo + q, none⟩ = some (.int .i64 (vi : Int))) (hQ : ∀ (w' : World), Grew w w' → Q .normal (puts [(51, .bool false), (52, .bool false), (53, undef), (54, undef), (55, undef), (56, undef), (57, undef), (58, undef), (59, undef), (60, undef), (61, undef), (62, .bool false), (63, .bool false), (64, .slice (some ⟨vb, vo, none⟩) VL vc), (65, .int .i64 (k : Int)), (66, .pointer (some ⟨vb, vo + k, none⟩)), (67, .int .i64 (vk : Int)), (68, .slice (some ⟨vb, vo, none⟩) VL vc), (69, .int .i64 (q : Int)), (70, .pointer (some ⟨vb, vo + q, none⟩)), (71, .int .i64 (vi : Int)), (72, .bool false), (73, .bool false), (74, undef), (75, undef), (76, undef), (77, undef), (78, undef), (79, undef), (80, undef), (81, undef), (82, undef), (83, undef), (84, undef), (85, undef), (86, .bool false), (87, .bool false)] a) w')
    : (Code.region 17 (opsKN p).toArray true).wp Try.prog Q a w := by
  refine (wpIn_wide (n := 1)).1 (wpIn_region_vals 96 hN follows (opsKN_back p) (opsKN_slots p) Grew Grew.refl Grew.trans (psiKN b o L c k q vb vo VL vc vk vi x y) (psiKN_grew b o L c k q vb vo VL vc vk vi x y) ?_ ?_)
  · intro i o d ho hd a' w' hF hR hp
    rcases i with _ | _ | _ | _ | _ | _ | _ | _ | _ | _ | _ | _ | _ | _ | _ | _ | _ | _ | _ | _ | _ | _ | _ | _ | _ | _ | _ | _ | _ | _ | _ | _ | _ | _ | _ | _ | _ | i
    · obtain rfl : oKN0 p = o := Option.some.inj ho
      obtain rfl : 51 = d := Option.some.inj hd
      exact step_move rfl rfl rfl (hF.at 8 rfl h8) ⟨_, rfl, rfl, Grew.refl _⟩
    · obtain rfl : oKN1 p = o := Option.some.inj ho
      obtain rfl : 52 = d := Option.some.inj hd
      have q0 : a'.tmps.getD 51 undef = .bool false := hp 0 (oKN0 p) 51 rfl rfl rfl
      exact step_move rfl rfl rfl q0 ⟨_, rfl, rfl, Grew.refl _⟩
    · obtain rfl : oKN2 p = o := Option.some.inj ho
      obtain rfl : 53 = d := Option.some.inj hd
      have q1 : a'.tmps.getD 52 undef = .bool false := hp 1 (oKN1 p) 52 rfl rfl rfl
      exact step_off rfl (wanted_off rfl (show (opsKN p).toArray[1]? = some (oKN1 p) from rfl) rfl q1) ⟨_, rfl, rfl, Grew.refl _⟩
    · obtain rfl : oKN3 p = o := Option.some.inj ho
      obtain rfl : 54 = d := Option.some.inj hd
      have q1 : a'.tmps.getD 52 undef = .bool false := hp 1 (oKN1 p) 52 rfl rfl rfl
      exact step_off rfl (wanted_off rfl (show (opsKN p).toArray[1]? = some (oKN1 p) from rfl) rfl q1) ⟨_, rfl, rfl, Grew.refl _⟩
    · obtain rfl : oKN4 p = o := Option.some.inj ho
      obtain rfl : 55 = d := Option.some.inj hd
      have q1 : a'.tmps.getD 52 undef = .bool false := hp 1 (oKN1 p) 52 rfl rfl rfl
      exact step_off rfl (wanted_off rfl (show (opsKN p).toArray[1]? = some (oKN1 p) from rfl) rfl q1) ⟨_, rfl, rfl, Grew.refl _⟩
    · obtain rfl : oKN5 p = o := Option.some.inj ho
      obtain rfl : 56 = d := Option.some.inj hd
      have q1 : a'.tmps.getD 52 undef = .bool false := hp 1 (oKN1 p) 52 rfl rfl rfl
      exact step_off rfl (wanted_off rfl (show (opsKN p).toArray[1]? = some (oKN1 p) from rfl) rfl q1) ⟨_, rfl, rfl, Grew.refl _⟩
    · obtain rfl : oKN6 p = o := Option.some.inj ho
      obtain rfl : 57 = d := Option.some.inj hd
      have q1 : a'.tmps.getD 52 undef = .bool false := hp 1 (oKN1 p) 52 rfl rfl rfl
      exact step_off rfl (wanted_off rfl (show (opsKN p).toArray[1]? = some (oKN1 p) from rfl) rfl q1) ⟨_, rfl, rfl, Grew.refl _⟩
    · obtain rfl : oKN7 p = o := Option.some.inj ho
      obtain rfl : 58 = d := Option.some.inj hd
      have q1 : a'.tmps.getD 52 undef = .bool false := hp 1 (oKN1 p) 52 rfl rfl rfl
      exact step_off rfl (wanted_off rfl (show (opsKN p).toArray[1]? = some (oKN1 p) from rfl) rfl q1) ⟨_, rfl, rfl, Grew.refl _⟩
    · obtain rfl : oKN8 p = o := Option.some.inj ho
      obtain rfl : 59 = d := Option.some.inj hd
      have q1 : a'.tmps.getD 52 undef = .bool false := hp 1 (oKN1 p) 52 rfl rfl rfl
      exact step_off rfl (wanted_off rfl (show (opsKN p).toArray[1]? = some (oKN1 p) from rfl) rfl q1) ⟨_, rfl, rfl, Grew.refl _⟩
    · obtain rfl : oKN9 p = o := Option.some.inj ho
      obtain rfl : 60 = d := Option.some.inj hd
      have q1 : a'.tmps.getD 52 undef = .bool false := hp 1 (oKN1 p) 52 rfl rfl rfl
      exact step_off rfl (wanted_off rfl (show (opsKN p).toArray[1]? = some (oKN1 p) from rfl) rfl q1) ⟨_, rfl, rfl, Grew.refl _⟩
    · obtain rfl : oKN10 p = o := Option.some.inj ho
      obtain rfl : 61 = d := Option.some.inj hd
      have q1 : a'.tmps.getD 52 undef = .bool false := hp 1 (oKN1 p) 52 rfl rfl rfl
      exact step_off rfl (wanted_off rfl (show (opsKN p).toArray[1]? = some (oKN1 p) from rfl) rfl q1) ⟨_, rfl, rfl, Grew.refl _⟩
    · obtain rfl : oKN11 p = o := Option.some.inj ho
      obtain rfl : 62 = d := Option.some.inj hd
      have q1 : a'.tmps.getD 52 undef = .bool false := hp 1 (oKN1 p) 52 rfl rfl rfl
      exact step_pick rfl rfl rfl q1 rfl ⟨_, rfl, rfl, Grew.refl _⟩
    · obtain rfl : oKN12 p = o := Option.some.inj ho
      obtain rfl : 63 = d := Option.some.inj hd
      have q11 : a'.tmps.getD 62 undef = .bool false := hp 11 (oKN11 p) 62 rfl rfl rfl
      exact step_move rfl rfl rfl q11 ⟨_, rfl, rfl, Grew.refl _⟩
    · obtain rfl : oKN13 p = o := Option.some.inj ho
      obtain rfl : 64 = d := Option.some.inj hd
      have q12 : a'.tmps.getD 63 undef = .bool false := hp 12 (oKN12 p) 63 rfl rfl rfl
      exact step_move rfl (wanted_on rfl (show (opsKN p).toArray[12]? = some (oKN12 p) from rfl) rfl q12) rfl (hF.at 3 rfl h3) ⟨_, rfl, rfl, Grew.refl _⟩
    · obtain rfl : oKN14 p = o := Option.some.inj ho
      obtain rfl : 65 = d := Option.some.inj hd
      have q12 : a'.tmps.getD 63 undef = .bool false := hp 12 (oKN12 p) 63 rfl rfl rfl
      exact step_move rfl (wanted_on rfl (show (opsKN p).toArray[12]? = some (oKN12 p) from rfl) rfl q12) rfl (hF.at 7 rfl h7) ⟨_, rfl, rfl, Grew.refl _⟩
    · obtain rfl : oKN15 p = o := Option.some.inj ho
      obtain rfl : 66 = d := Option.some.inj hd
      have q12 : a'.tmps.getD 63 undef = .bool false := hp 12 (oKN12 p) 63 rfl rfl rfl
      have q13 : a'.tmps.getD 64 undef = .slice (some ⟨vb, vo, none⟩) VL vc := hp 13 (oKN13 p) 64 rfl rfl rfl
      have q14 : a'.tmps.getD 65 undef = .int .i64 (k : Int) := hp 14 (oKN14 p) 65 rfl rfl rfl
      exact step_index rfl (wanted_on rfl (show (opsKN p).toArray[12]? = some (oKN12 p) from rfl) rfl q12) rfl q13 q14 (run_ixI _ _ _ _ _ _ hvk) ⟨_, rfl, rfl, Grew.refl _⟩
    · obtain rfl : oKN16 p = o := Option.some.inj ho
      obtain rfl : 67 = d := Option.some.inj hd
      have q12 : a'.tmps.getD 63 undef = .bool false := hp 12 (oKN12 p) 63 rfl rfl rfl
      have q15 : a'.tmps.getD 66 undef = .pointer (some ⟨vb, vo + k, none⟩) := hp 15 (oKN15 p) 66 rfl rfl rfl
      exact step_load rfl (wanted_on rfl (show (opsKN p).toArray[12]? = some (oKN12 p) from rfl) rfl q12) rfl q15 (run_ldI _ _ _ ((Below.cell hR.undraw (p := ⟨vb, vo + k, none⟩) hvb).trans hck)) ⟨_, rfl, rfl, Grew.refl _⟩
    · obtain rfl : oKN17 p = o := Option.some.inj ho
      obtain rfl : 68 = d := Option.some.inj hd
      have q12 : a'.tmps.getD 63 undef = .bool false := hp 12 (oKN12 p) 63 rfl rfl rfl
      exact step_move rfl (wanted_on rfl (show (opsKN p).toArray[12]? = some (oKN12 p) from rfl) rfl q12) rfl (hF.at 3 rfl h3) ⟨_, rfl, rfl, Grew.refl _⟩
    · obtain rfl : oKN18 p = o := Option.some.inj ho
      obtain rfl : 69 = d := Option.some.inj hd
      have q12 : a'.tmps.getD 63 undef = .bool false := hp 12 (oKN12 p) 63 rfl rfl rfl
      exact step_move rfl (wanted_on rfl (show (opsKN p).toArray[12]? = some (oKN12 p) from rfl) rfl q12) rfl (hF.at 6 rfl h6) ⟨_, rfl, rfl, Grew.refl _⟩
    · obtain rfl : oKN19 p = o := Option.some.inj ho
      obtain rfl : 70 = d := Option.some.inj hd
      have q12 : a'.tmps.getD 63 undef = .bool false := hp 12 (oKN12 p) 63 rfl rfl rfl
      have q17 : a'.tmps.getD 68 undef = .slice (some ⟨vb, vo, none⟩) VL vc := hp 17 (oKN17 p) 68 rfl rfl rfl
      have q18 : a'.tmps.getD 69 undef = .int .i64 (q : Int) := hp 18 (oKN18 p) 69 rfl rfl rfl
      exact step_index rfl (wanted_on rfl (show (opsKN p).toArray[12]? = some (oKN12 p) from rfl) rfl q12) rfl q17 q18 (run_ixI _ _ _ _ _ _ hvi) ⟨_, rfl, rfl, Grew.refl _⟩
    · obtain rfl : oKN20 p = o := Option.some.inj ho
      obtain rfl : 71 = d := Option.some.inj hd
      have q12 : a'.tmps.getD 63 undef = .bool false := hp 12 (oKN12 p) 63 rfl rfl rfl
      have q19 : a'.tmps.getD 70 undef = .pointer (some ⟨vb, vo + q, none⟩) := hp 19 (oKN19 p) 70 rfl rfl rfl
      exact step_load rfl (wanted_on rfl (show (opsKN p).toArray[12]? = some (oKN12 p) from rfl) rfl q12) rfl q19 (run_ldI _ _ _ ((Below.cell hR.undraw (p := ⟨vb, vo + q, none⟩) hvb).trans hci)) ⟨_, rfl, rfl, Grew.refl _⟩
    · obtain rfl : oKN21 p = o := Option.some.inj ho
      obtain rfl : 72 = d := Option.some.inj hd
      have q12 : a'.tmps.getD 63 undef = .bool false := hp 12 (oKN12 p) 63 rfl rfl rfl
      have q16 : a'.tmps.getD 67 undef = .int .i64 (vk : Int) := hp 16 (oKN16 p) 67 rfl rfl rfl
      have q20 : a'.tmps.getD 71 undef = .int .i64 (vi : Int) := hp 20 (oKN20 p) 71 rfl rfl rfl
      exact step_bin rfl (wanted_on rfl (show (opsKN p).toArray[12]? = some (oKN12 p) from rfl) rfl q12) rfl q16 q20 (guard_int _ _ _ _ _ _ _ _ _) (run_eqF _ _ _ _ hne) ⟨_, rfl, rfl, Grew.refl _⟩
    · obtain rfl : oKN22 p = o := Option.some.inj ho
      obtain rfl : 73 = d := Option.some.inj hd
      have q12 : a'.tmps.getD 63 undef = .bool false := hp 12 (oKN12 p) 63 rfl rfl rfl
      have q21 : a'.tmps.getD 72 undef = .bool false := hp 21 (oKN21 p) 72 rfl rfl rfl
      exact step_move rfl (wanted_on rfl (show (opsKN p).toArray[12]? = some (oKN12 p) from rfl) rfl q12) rfl q21 ⟨_, rfl, rfl, Grew.refl _⟩
    · obtain rfl : oKN23 p = o := Option.some.inj ho
      obtain rfl : 74 = d := Option.some.inj hd
      have q22 : a'.tmps.getD 73 undef = .bool false := hp 22 (oKN22 p) 73 rfl rfl rfl
      exact step_off rfl (wanted_off rfl (show (opsKN p).toArray[22]? = some (oKN22 p) from rfl) rfl q22) ⟨_, rfl, rfl, Grew.refl _⟩
    · obtain rfl : oKN24 p = o := Option.some.inj ho
      obtain rfl : 75 = d := Option.some.inj hd
      have q22 : a'.tmps.getD 73 undef = .bool false := hp 22 (oKN22 p) 73 rfl rfl rfl
      exact step_off rfl (wanted_off rfl (show (opsKN p).toArray[22]? = some (oKN22 p) from rfl) rfl q22) ⟨_, rfl, rfl, Grew.refl _⟩
    · obtain rfl : oKN25 p = o := Option.some.inj ho
      obtain rfl : 76 = d := Option.some.inj hd
      have q22 : a'.tmps.getD 73 undef = .bool false := hp 22 (oKN22 p) 73 rfl rfl rfl
      exact step_off rfl (wanted_off rfl (show (opsKN p).toArray[22]? = some (oKN22 p) from rfl) rfl q22) ⟨_, rfl, rfl, Grew.refl _⟩
    · obtain rfl : oKN26 p = o := Option.some.inj ho
      obtain rfl : 77 = d := Option.some.inj hd
      have q22 : a'.tmps.getD 73 undef = .bool false := hp 22 (oKN22 p) 73 rfl rfl rfl
      exact step_off rfl (wanted_off rfl (show (opsKN p).toArray[22]? = some (oKN22 p) from rfl) rfl q22) ⟨_, rfl, rfl, Grew.refl _⟩
    · obtain rfl : oKN27 p = o := Option.some.inj ho
      obtain rfl : 78 = d := Option.some.inj hd
      have q22 : a'.tmps.getD 73 undef = .bool false := hp 22 (oKN22 p) 73 rfl rfl rfl
      exact step_off rfl (wanted_off rfl (show (opsKN p).toArray[22]? = some (oKN22 p) from rfl) rfl q22) ⟨_, rfl, rfl, Grew.refl _⟩
    · obtain rfl : oKN28 p = o := Option.some.inj ho
      obtain rfl : 79 = d := Option.some.inj hd
      have q22 : a'.tmps.getD 73 undef = .bool false := hp 22 (oKN22 p) 73 rfl rfl rfl
      exact step_off rfl (wanted_off rfl (show (opsKN p).toArray[22]? = some (oKN22 p) from rfl) rfl q22) ⟨_, rfl, rfl, Grew.refl _⟩
    · obtain rfl : oKN29 p = o := Option.some.inj ho
      obtain rfl : 80 = d := Option.some.inj hd
      have q28 : a'.tmps.getD 79 undef = undef := hp 28 (oKN28 p) 79 rfl rfl rfl
      exact step_off rfl (wanted_undef rfl (show (opsKN p).toArray[28]? = some (oKN28 p) from rfl) rfl q28) ⟨_, rfl, rfl, Grew.refl _⟩
    · obtain rfl : oKN30 p = o := Option.some.inj ho
      obtain rfl : 81 = d := Option.some.inj hd
      have q28 : a'.tmps.getD 79 undef = undef := hp 28 (oKN28 p) 79 rfl rfl rfl
      exact step_off rfl (wanted_undef rfl (show (opsKN p).toArray[28]? = some (oKN28 p) from rfl) rfl q28) ⟨_, rfl, rfl, Grew.refl _⟩
    · obtain rfl : oKN31 p = o := Option.some.inj ho
      obtain rfl : 82 = d := Option.some.inj hd
      have q28 : a'.tmps.getD 79 undef = undef := hp 28 (oKN28 p) 79 rfl rfl rfl
      exact step_off rfl (wanted_undef rfl (show (opsKN p).toArray[28]? = some (oKN28 p) from rfl) rfl q28) ⟨_, rfl, rfl, Grew.refl _⟩
    · obtain rfl : oKN32 p = o := Option.some.inj ho
      obtain rfl : 83 = d := Option.some.inj hd
      have q28 : a'.tmps.getD 79 undef = undef := hp 28 (oKN28 p) 79 rfl rfl rfl
      exact step_off rfl (wanted_undef rfl (show (opsKN p).toArray[28]? = some (oKN28 p) from rfl) rfl q28) ⟨_, rfl, rfl, Grew.refl _⟩
    · obtain rfl : oKN33 p = o := Option.some.inj ho
      obtain rfl : 84 = d := Option.some.inj hd
      have q28 : a'.tmps.getD 79 undef = undef := hp 28 (oKN28 p) 79 rfl rfl rfl
      exact step_off rfl (wanted_undef rfl (show (opsKN p).toArray[28]? = some (oKN28 p) from rfl) rfl q28) ⟨_, rfl, rfl, Grew.refl _⟩
    · obtain rfl : oKN34 p = o := Option.some.inj ho
      obtain rfl : 85 = d := Option.some.inj hd
      have q22 : a'.tmps.getD 73 undef = .bool false := hp 22 (oKN22 p) 73 rfl rfl rfl
      exact step_off rfl (wanted_off rfl (show (opsKN p).toArray[22]? = some (oKN22 p) from rfl) rfl q22) ⟨_, rfl, rfl, Grew.refl _⟩
    · obtain rfl : oKN35 p = o := Option.some.inj ho
      obtain rfl : 86 = d := Option.some.inj hd
      have q12 : a'.tmps.getD 63 undef = .bool false := hp 12 (oKN12 p) 63 rfl rfl rfl
      have q22 : a'.tmps.getD 73 undef = .bool false := hp 22 (oKN22 p) 73 rfl rfl rfl
      exact step_pick rfl (wanted_on rfl (show (opsKN p).toArray[12]? = some (oKN12 p) from rfl) rfl q12) rfl q22 rfl ⟨_, rfl, rfl, Grew.refl _⟩
    · obtain rfl : oKN36 p = o := Option.some.inj ho
      obtain rfl : 87 = d := Option.some.inj hd
      have q12 : a'.tmps.getD 63 undef = .bool false := hp 12 (oKN12 p) 63 rfl rfl rfl
      have q35 : a'.tmps.getD 86 undef = .bool false := hp 35 (oKN35 p) 86 rfl rfl rfl
      exact step_pick rfl rfl rfl q12 (show (if false = true then _ else a'.tmps.getD 86 undef) = _ from q35) ⟨_, rfl, rfl, Grew.refl _⟩
    · exact absurd ((Array.getElem?_eq_some_iff.1 ho).1) (by simp [opsKN])
  · intro a' w' hF hR hp
    have e0 : psiKN b o L c k q vb vo VL vc vk vi x y 0 (a'.tmps.getD 51 undef) w' := hp 0 (oKN0 p) 51 rfl rfl
    have e1 : psiKN b o L c k q vb vo VL vc vk vi x y 1 (a'.tmps.getD 52 undef) w' := hp 1 (oKN1 p) 52 rfl rfl
    have e2 : psiKN b o L c k q vb vo VL vc vk vi x y 2 (a'.tmps.getD 53 undef) w' := hp 2 (oKN2 p) 53 rfl rfl
    have e3 : psiKN b o L c k q vb vo VL vc vk vi x y 3 (a'.tmps.getD 54 undef) w' := hp 3 (oKN3 p) 54 rfl rfl
    have e4 : psiKN b o L c k q vb vo VL vc vk vi x y 4 (a'.tmps.getD 55 undef) w' := hp 4 (oKN4 p) 55 rfl rfl
    have e5 : psiKN b o L c k q vb vo VL vc vk vi x y 5 (a'.tmps.getD 56 undef) w' := hp 5 (oKN5 p) 56 rfl rfl
    have e6 : psiKN b o L c k q vb vo VL vc vk vi x y 6 (a'.tmps.getD 57 undef) w' := hp 6 (oKN6 p) 57 rfl rfl
    have e7 : psiKN b o L c k q vb vo VL vc vk vi x y 7 (a'.tmps.getD 58 undef) w' := hp 7 (oKN7 p) 58 rfl rfl
    have e8 : psiKN b o L c k q vb vo VL vc vk vi x y 8 (a'.tmps.getD 59 undef) w' := hp 8 (oKN8 p) 59 rfl rfl
    have e9 : psiKN b o L c k q vb vo VL vc vk vi x y 9 (a'.tmps.getD 60 undef) w' := hp 9 (oKN9 p) 60 rfl rfl
    have e10 : psiKN b o L c k q vb vo VL vc vk vi x y 10 (a'.tmps.getD 61 undef) w' := hp 10 (oKN10 p) 61 rfl rfl
    have e11 : psiKN b o L c k q vb vo VL vc vk vi x y 11 (a'.tmps.getD 62 undef) w' := hp 11 (oKN11 p) 62 rfl rfl
    have e12 : psiKN b o L c k q vb vo VL vc vk vi x y 12 (a'.tmps.getD 63 undef) w' := hp 12 (oKN12 p) 63 rfl rfl
    have e13 : psiKN b o L c k q vb vo VL vc vk vi x y 13 (a'.tmps.getD 64 undef) w' := hp 13 (oKN13 p) 64 rfl rfl
    have e14 : psiKN b o L c k q vb vo VL vc vk vi x y 14 (a'.tmps.getD 65 undef) w' := hp 14 (oKN14 p) 65 rfl rfl
    have e15 : psiKN b o L c k q vb vo VL vc vk vi x y 15 (a'.tmps.getD 66 undef) w' := hp 15 (oKN15 p) 66 rfl rfl
    have e16 : psiKN b o L c k q vb vo VL vc vk vi x y 16 (a'.tmps.getD 67 undef) w' := hp 16 (oKN16 p) 67 rfl rfl
    have e17 : psiKN b o L c k q vb vo VL vc vk vi x y 17 (a'.tmps.getD 68 undef) w' := hp 17 (oKN17 p) 68 rfl rfl
    have e18 : psiKN b o L c k q vb vo VL vc vk vi x y 18 (a'.tmps.getD 69 undef) w' := hp 18 (oKN18 p) 69 rfl rfl
    have e19 : psiKN b o L c k q vb vo VL vc vk vi x y 19 (a'.tmps.getD 70 undef) w' := hp 19 (oKN19 p) 70 rfl rfl
    have e20 : psiKN b o L c k q vb vo VL vc vk vi x y 20 (a'.tmps.getD 71 undef) w' := hp 20 (oKN20 p) 71 rfl rfl
    have e21 : psiKN b o L c k q vb vo VL vc vk vi x y 21 (a'.tmps.getD 72 undef) w' := hp 21 (oKN21 p) 72 rfl rfl
    have e22 : psiKN b o L c k q vb vo VL vc vk vi x y 22 (a'.tmps.getD 73 undef) w' := hp 22 (oKN22 p) 73 rfl rfl
    have e23 : psiKN b o L c k q vb vo VL vc vk vi x y 23 (a'.tmps.getD 74 undef) w' := hp 23 (oKN23 p) 74 rfl rfl
    have e24 : psiKN b o L c k q vb vo VL vc vk vi x y 24 (a'.tmps.getD 75 undef) w' := hp 24 (oKN24 p) 75 rfl rfl
    have e25 : psiKN b o L c k q vb vo VL vc vk vi x y 25 (a'.tmps.getD 76 undef) w' := hp 25 (oKN25 p) 76 rfl rfl
    have e26 : psiKN b o L c k q vb vo VL vc vk vi x y 26 (a'.tmps.getD 77 undef) w' := hp 26 (oKN26 p) 77 rfl rfl
    have e27 : psiKN b o L c k q vb vo VL vc vk vi x y 27 (a'.tmps.getD 78 undef) w' := hp 27 (oKN27 p) 78 rfl rfl
    have e28 : psiKN b o L c k q vb vo VL vc vk vi x y 28 (a'.tmps.getD 79 undef) w' := hp 28 (oKN28 p) 79 rfl rfl
    have e29 : psiKN b o L c k q vb vo VL vc vk vi x y 29 (a'.tmps.getD 80 undef) w' := hp 29 (oKN29 p) 80 rfl rfl
    have e30 : psiKN b o L c k q vb vo VL vc vk vi x y 30 (a'.tmps.getD 81 undef) w' := hp 30 (oKN30 p) 81 rfl rfl
    have e31 : psiKN b o L c k q vb vo VL vc vk vi x y 31 (a'.tmps.getD 82 undef) w' := hp 31 (oKN31 p) 82 rfl rfl
    have e32 : psiKN b o L c k q vb vo VL vc vk vi x y 32 (a'.tmps.getD 83 undef) w' := hp 32 (oKN32 p) 83 rfl rfl
    have e33 : psiKN b o L c k q vb vo VL vc vk vi x y 33 (a'.tmps.getD 84 undef) w' := hp 33 (oKN33 p) 84 rfl rfl
    have e34 : psiKN b o L c k q vb vo VL vc vk vi x y 34 (a'.tmps.getD 85 undef) w' := hp 34 (oKN34 p) 85 rfl rfl
    have e35 : psiKN b o L c k q vb vo VL vc vk vi x y 35 (a'.tmps.getD 86 undef) w' := hp 35 (oKN35 p) 86 rfl rfl
    have e36 : psiKN b o L c k q vb vo VL vc vk vi x y 36 (a'.tmps.getD 87 undef) w' := hp 36 (oKN36 p) 87 rfl rfl
    rw [hF.puts [(51, .bool false), (52, .bool false), (53, undef), (54, undef), (55, undef), (56, undef), (57, undef), (58, undef), (59, undef), (60, undef), (61, undef), (62, .bool false), (63, .bool false), (64, .slice (some ⟨vb, vo, none⟩) VL vc), (65, .int .i64 (k : Int)), (66, .pointer (some ⟨vb, vo + k, none⟩)), (67, .int .i64 (vk : Int)), (68, .slice (some ⟨vb, vo, none⟩) VL vc), (69, .int .i64 (q : Int)), (70, .pointer (some ⟨vb, vo + q, none⟩)), (71, .int .i64 (vi : Int)), (72, .bool false), (73, .bool false), (74, undef), (75, undef), (76, undef), (77, undef), (78, undef), (79, undef), (80, undef), (81, undef), (82, undef), (83, undef), (84, undef), (85, undef), (86, .bool false), (87, .bool false)] ?_ rfl (by rw [hN]; rfl)]
    · exact hQ  w'  hR.undraw
    · intro x hx
      simp only [List.mem_cons, List.not_mem_nil, or_false] at hx
      rcases hx with rfl | rfl | rfl | rfl | rfl | rfl | rfl | rfl | rfl | rfl | rfl | rfl | rfl | rfl | rfl | rfl | rfl | rfl | rfl | rfl | rfl | rfl | rfl | rfl | rfl | rfl | rfl | rfl | rfl | rfl | rfl | rfl | rfl | rfl | rfl | rfl | rfl
      · exact e0
      · exact e1
      · exact e2
      · exact e3
      · exact e4
      · exact e5
      · exact e6
      · exact e7
      · exact e8
      · exact e9
      · exact e10
      · exact e11
      · exact e12
      · exact e13
      · exact e14
      · exact e15
      · exact e16
      · exact e17
      · exact e18
      · exact e19
      · exact e20
      · exact e21
      · exact e22
      · exact e23
      · exact e24
      · exact e25
      · exact e26
      · exact e27
      · exact e28
      · exact e29
      · exact e30
      · exact e31
      · exact e32
      · exact e33
      · exact e34
      · exact e35
      · exact e36
def oKE0 (p : String) : Oper := { dst := some 51, op := Op.move (Operand.tmp 8), type := 4, pos := p, after := #[], guard := none }
def oKE1 (p : String) : Oper := { dst := some 52, op := Op.move (Operand.tmp 51), type := 4, pos := p, after := #[{ on := 0, ground := Ground.data }], guard := none }
def oKE2 (p : String) : Oper := { dst := some 53, op := Op.move (Operand.tmp 3), type := 25, pos := p, after := #[{ on := 1, ground := Ground.guard }], guard := some (1, true) }
def oKE3 (p : String) : Oper := { dst := some 54, op := Op.move (Operand.tmp 7), type := 3, pos := p, after := #[{ on := 1, ground := Ground.guard }], guard := some (1, true) }
def oKE4 (p : String) : Oper := { dst := some 55, op := Op.indexAddr 25 (Operand.tmp 53) (Operand.tmp 54), type := 0, pos := p, after := #[{ on := 2, ground := Ground.data }, { on := 3, ground := Ground.data }, { on := 1, ground := Ground.guard }], guard := some (1, true) }
def oKE5 (p : String) : Oper := { dst := some 56, op := Op.load 3 (Operand.tmp 55), type := 3, pos := p, after := #[{ on := 4, ground := Ground.data }, { on := 1, ground := Ground.guard }], guard := some (1, true) }
def oKE6 (p : String) : Oper := { dst := some 57, op := Op.move (Operand.tmp 3), type := 25, pos := p, after := #[{ on := 1, ground := Ground.guard }], guard := some (1, true) }
def oKE7 (p : String) : Oper := { dst := some 58, op := Op.move (Operand.tmp 6), type := 3, pos := p, after := #[{ on := 1, ground := Ground.guard }], guard := some (1, true) }
def oKE8 (p : String) : Oper := { dst := some 59, op := Op.indexAddr 25 (Operand.tmp 57) (Operand.tmp 58), type := 0, pos := p, after := #[{ on := 6, ground := Ground.data }, { on := 7, ground := Ground.data }, { on := 1, ground := Ground.guard }], guard := some (1, true) }
def oKE9 (p : String) : Oper := { dst := some 60, op := Op.load 3 (Operand.tmp 59), type := 3, pos := p, after := #[{ on := 8, ground := Ground.data }, { on := 1, ground := Ground.guard }], guard := some (1, true) }
def oKE10 (p : String) : Oper := { dst := some 61, op := Op.binOp BinOp.geq 3 (Operand.tmp 56) (Operand.tmp 60) 3, type := 4, pos := p, after := #[{ on := 5, ground := Ground.data }, { on := 9, ground := Ground.data }, { on := 1, ground := Ground.guard }], guard := some (1, true) }
def oKE11 (p : String) : Oper := { dst := some 62, op := Op.pick (Operand.tmp 52) (Operand.tmp 61) (Operand.const (Value.bool false)), type := 4, pos := p, after := #[{ on := 1, ground := Ground.data }, { on := 10, ground := Ground.data }], guard := none }
def oKE12 (p : String) : Oper := { dst := some 63, op := Op.move (Operand.tmp 62), type := 4, pos := p, after := #[{ on := 11, ground := Ground.data }, { on := 1, ground := Ground.chain }], guard := none }
def oKE13 (p : String) : Oper := { dst := some 64, op := Op.move (Operand.tmp 3), type := 25, pos := p, after := #[{ on := 12, ground := Ground.guard }], guard := some (12, false) }
def oKE14 (p : String) : Oper := { dst := some 65, op := Op.move (Operand.tmp 7), type := 3, pos := p, after := #[{ on := 12, ground := Ground.guard }], guard := some (12, false) }
def oKE15 (p : String) : Oper := { dst := some 66, op := Op.indexAddr 25 (Operand.tmp 64) (Operand.tmp 65), type := 0, pos := p, after := #[{ on := 13, ground := Ground.data }, { on := 14, ground := Ground.data }, { on := 12, ground := Ground.guard }], guard := some (12, false) }
def oKE16 (p : String) : Oper := { dst := some 67, op := Op.load 3 (Operand.tmp 66), type := 3, pos := p, after := #[{ on := 15, ground := Ground.data }, { on := 12, ground := Ground.guard }], guard := some (12, false) }
def oKE17 (p : String) : Oper := { dst := some 68, op := Op.move (Operand.tmp 3), type := 25, pos := p, after := #[{ on := 12, ground := Ground.guard }], guard := some (12, false) }
def oKE18 (p : String) : Oper := { dst := some 69, op := Op.move (Operand.tmp 6), type := 3, pos := p, after := #[{ on := 12, ground := Ground.guard }], guard := some (12, false) }
def oKE19 (p : String) : Oper := { dst := some 70, op := Op.indexAddr 25 (Operand.tmp 68) (Operand.tmp 69), type := 0, pos := p, after := #[{ on := 17, ground := Ground.data }, { on := 18, ground := Ground.data }, { on := 12, ground := Ground.guard }], guard := some (12, false) }
def oKE20 (p : String) : Oper := { dst := some 71, op := Op.load 3 (Operand.tmp 70), type := 3, pos := p, after := #[{ on := 19, ground := Ground.data }, { on := 12, ground := Ground.guard }], guard := some (12, false) }
def oKE21 (p : String) : Oper := { dst := some 72, op := Op.binOp BinOp.eql 3 (Operand.tmp 67) (Operand.tmp 71) 3, type := 4, pos := p, after := #[{ on := 16, ground := Ground.data }, { on := 20, ground := Ground.data }, { on := 12, ground := Ground.guard }], guard := some (12, false) }
def oKE22 (p : String) : Oper := { dst := some 73, op := Op.move (Operand.tmp 72), type := 4, pos := p, after := #[{ on := 21, ground := Ground.data }, { on := 12, ground := Ground.chain }, { on := 12, ground := Ground.guard }], guard := some (12, false) }
def oKE23 (p : String) : Oper := { dst := some 74, op := Op.move (Operand.tmp 0), type := 22, pos := p, after := #[{ on := 22, ground := Ground.guard }], guard := some (22, true) }
def oKE24 (p : String) : Oper := { dst := some 75, op := Op.move (Operand.tmp 6), type := 3, pos := p, after := #[{ on := 22, ground := Ground.guard }], guard := some (22, true) }
def oKE25 (p : String) : Oper := { dst := some 76, op := Op.indexAddr 22 (Operand.tmp 74) (Operand.tmp 75), type := 0, pos := p, after := #[{ on := 23, ground := Ground.data }, { on := 24, ground := Ground.data }, { on := 22, ground := Ground.guard }], guard := some (22, true) }
def oKE26 (p : String) : Oper := { dst := some 77, op := Op.load 31 (Operand.tmp 76), type := 31, pos := p, after := #[{ on := 25, ground := Ground.data }, { on := 22, ground := Ground.guard }], guard := some (22, true) }
def oKE27 (p : String) : Oper := { dst := some 78, op := Op.call { callee := Callee.value (Operand.func 9), args := #[Operand.tmp 77], argTypes := #[31] }, type := 4, pos := p, after := #[{ on := 26, ground := Ground.data }, { on := 22, ground := Ground.chain }, { on := 22, ground := Ground.guard }], guard := some (22, true) }
def oKE28 (p : String) : Oper := { dst := some 79, op := Op.move (Operand.tmp 78), type := 4, pos := p, after := #[{ on := 27, ground := Ground.data }, { on := 27, ground := Ground.chain }, { on := 22, ground := Ground.guard }], guard := some (22, true) }
def oKE29 (p : String) : Oper := { dst := some 80, op := Op.move (Operand.tmp 0), type := 22, pos := p, after := #[{ on := 28, ground := Ground.guard }], guard := some (28, false) }
def oKE30 (p : String) : Oper := { dst := some 81, op := Op.move (Operand.tmp 7), type := 3, pos := p, after := #[{ on := 28, ground := Ground.guard }], guard := some (28, false) }
def oKE31 (p : String) : Oper := { dst := some 82, op := Op.indexAddr 22 (Operand.tmp 80) (Operand.tmp 81), type := 0, pos := p, after := #[{ on := 29, ground := Ground.data }, { on := 30, ground := Ground.data }, { on := 28, ground := Ground.guard }], guard := some (28, false) }
def oKE32 (p : String) : Oper := { dst := some 83, op := Op.load 31 (Operand.tmp 82), type := 31, pos := p, after := #[{ on := 31, ground := Ground.data }, { on := 28, ground := Ground.guard }], guard := some (28, false) }
def oKE33 (p : String) : Oper := { dst := some 84, op := Op.call { callee := Callee.value (Operand.func 9), args := #[Operand.tmp 83], argTypes := #[31] }, type := 4, pos := p, after := #[{ on := 32, ground := Ground.data }, { on := 28, ground := Ground.chain }, { on := 28, ground := Ground.guard }], guard := some (28, false) }
def oKE34 (p : String) : Oper := { dst := some 85, op := Op.pick (Operand.tmp 79) (Operand.const (Value.bool true)) (Operand.tmp 84), type := 4, pos := p, after := #[{ on := 28, ground := Ground.data }, { on := 33, ground := Ground.data }, { on := 22, ground := Ground.guard }], guard := some (22, true) }
def oKE35 (p : String) : Oper := { dst := some 86, op := Op.pick (Operand.tmp 73) (Operand.tmp 85) (Operand.const (Value.bool false)), type := 4, pos := p, after := #[{ on := 22, ground := Ground.data }, { on := 34, ground := Ground.data }, { on := 12, ground := Ground.guard }], guard := some (12, false) }
def oKE36 (p : String) : Oper := { dst := some 87, op := Op.pick (Operand.tmp 63) (Operand.const (Value.bool true)) (Operand.tmp 86), type := 4, pos := p, after := #[{ on := 12, ground := Ground.data }, { on := 35, ground := Ground.data }], guard := none }
def opsKE (p : String) : List Oper := [oKE0 p, oKE1 p, oKE2 p, oKE3 p, oKE4 p, oKE5 p, oKE6 p, oKE7 p, oKE8 p, oKE9 p, oKE10 p, oKE11 p, oKE12 p, oKE13 p, oKE14 p, oKE15 p, oKE16 p, oKE17 p, oKE18 p, oKE19 p, oKE20 p, oKE21 p, oKE22 p, oKE23 p, oKE24 p, oKE25 p, oKE26 p, oKE27 p, oKE28 p, oKE29 p, oKE30 p, oKE31 p, oKE32 p, oKE33 p, oKE34 p, oKE35 p, oKE36 p]
theorem opsKE_back (p : String) : backwards (opsKE p) = true := by kernel_rfl
theorem opsKE_slots (p : String) : slotsOk 96 (opsKE p) = true := by kernel_rfl
/-- What each slot comes to. -/
def psiKE (b o L c k q vb vo VL vc vk vi : Nat) (x y : CmdV) : Nat → Value → World → Prop
  | 0, v, _ => v = .bool false
  | 1, v, _ => v = .bool false
  | 2, v, _ => v = undef
  | 3, v, _ => v = undef
  | 4, v, _ => v = undef
  | 5, v, _ => v = undef
  | 6, v, _ => v = undef
  | 7, v, _ => v = undef
  | 8, v, _ => v = undef
  | 9, v, _ => v = undef
  | 10, v, _ => v = undef
  | 11, v, _ => v = .bool false
  | 12, v, _ => v = .bool false
  | 13, v, _ => v = .slice (some ⟨vb, vo, none⟩) VL vc
  | 14, v, _ => v = .int .i64 (k : Int)
  | 15, v, _ => v = .pointer (some ⟨vb, vo + k, none⟩)
  | 16, v, _ => v = .int .i64 (vk : Int)
  | 17, v, _ => v = .slice (some ⟨vb, vo, none⟩) VL vc
  | 18, v, _ => v = .int .i64 (q : Int)
  | 19, v, _ => v = .pointer (some ⟨vb, vo + q, none⟩)
  | 20, v, _ => v = .int .i64 (vi : Int)
  | 21, v, _ => v = .bool true
  | 22, v, _ => v = .bool true
  | 23, v, _ => v = .slice (some ⟨b, o, none⟩) L c
  | 24, v, _ => v = .int .i64 (q : Int)
  | 25, v, _ => v = .pointer (some ⟨b, o + q * 7, none⟩)
  | 26, v, _ => v = y.val
  | 27, v, _ => v = .bool false
  | 28, v, _ => v = .bool false
  | 29, v, _ => v = .slice (some ⟨b, o, none⟩) L c
  | 30, v, _ => v = .int .i64 (k : Int)
  | 31, v, _ => v = .pointer (some ⟨b, o + k * 7, none⟩)
  | 32, v, _ => v = x.val
  | 33, v, _ => v = .bool false
  | 34, v, _ => v = .bool false
  | 35, v, _ => v = .bool false
  | 36, v, _ => v = .bool false
  | _, _, _ => True
theorem psiKE_grew (b o L c k q vb vo VL vc vk vi : Nat) (x y : CmdV) : ∀ i v w w', psiKE b o L c k q vb vo VL vc vk vi x y i v w → Grew w w' → psiKE b o L c k q vb vo VL vc vk vi x y i v w' := by
  intro i v w w' h hg
  rcases i with _ | _ | _ | _ | _ | _ | _ | _ | _ | _ | _ | _ | _ | _ | _ | _ | _ | _ | _ | _ | _ | _ | _ | _ | _ | _ | _ | _ | _ | _ | _ | _ | _ | _ | _ | _ | _ | i
  · exact h
  · exact h
  · exact h
  · exact h
  · exact h
  · exact h
  · exact h
  · exact h
  · exact h
  · exact h
  · exact h
  · exact h
  · exact h
  · exact h
  · exact h
  · exact h
  · exact h
  · exact h
  · exact h
  · exact h
  · exact h
  · exact h
  · exact h
  · exact h
  · exact h
  · exact h
  · exact h
  · exact h
  · exact h
  · exact h
  · exact h
  · exact h
  · exact h
  · exact h
  · exact h
  · exact h
  · exact h
  · trivial
set_option maxRecDepth 100000 in
set_option maxHeartbeats 4000000 in
theorem ksKE {p : String} (b o L c k q vb vo VL vc vk vi : Nat) (x y : CmdV) (hvk : k < VL) (hvi : q < VL) (heq : vk = vi) (hk : k < L) (hi : q < L) (a : Act) (w : World) (Q : Exit → Act → World → Prop) (hN : a.tmps.size = 96) (h0 : a.tmps.getD 0 undef = .slice (some ⟨b, o, none⟩) L c) (h3 : a.tmps.getD 3 undef = .slice (some ⟨vb, vo, none⟩) VL vc) (h6 : a.tmps.getD 6 undef = .int .i64 (q : Int)) (h7 : a.tmps.getD 7 undef = .int .i64 (k : Int)) (h8 : a.tmps.getD 8 undef = .bool false) (hvb : vb < w.heap.size) (hck : w.cell? ⟨vb, vo + k, none⟩ = some (.int .i64 (vk : Int))) (hci : w.cell? ⟨vb, vo + q, none⟩ = some (.int .i64 (vi : Int))) (hb : b < w.heap.size) (hx : ∀ j u, x.cells[j]? = some u → w.cell? ⟨b, o + k * 7 + j, none⟩ = some u) (hy : ∀ j u, y.cells[j]? = some u → w.cell? ⟨b, o + q * 7 + j, none⟩ = some u) (hLx : ∀ w', Grew w w' → Calls Try.prog 9 #[x.val] w' fun e W' => e = .returned (.bool false) ∧ Below w'.heap.size w' W') (hLy : ∀ w', Grew w w' → Calls Try.prog 9 #[y.val] w' fun e W' => e = .returned (.bool false) ∧ Below w'.heap.size w' W') (hQ : ∀ (w' : World), Grew w w' → Q .normal (puts [(51, .bool false), (52, .bool false), (53, undef), (54, undef), (55, undef), (56, undef), (57, undef), (58, undef), (59, undef), (60, undef), (61, undef), (62, .bool false), (63, .bool false), (64, .slice (some ⟨vb, vo, none⟩) VL vc), (65, .int .i64 (k : Int)), (66, .pointer (some ⟨vb, vo + k, none⟩)), (67, .int .i64 (vk : Int)), (68, .slice (some ⟨vb, vo, none⟩) VL vc), (69, .int .i64 (q : Int)), (70, .pointer (some ⟨vb, vo + q, none⟩)), (71, .int .i64 (vi : Int)), (72, .bool true), (73, .bool true), (74, .slice (some ⟨b, o, none⟩) L c), (75, .int .i64 (q : Int)), (76, .pointer (some ⟨b, o + q * 7, none⟩)), (77, y.val), (78, .bool false), (79, .bool false), (80, .slice (some ⟨b, o, none⟩) L c), (81, .int .i64 (k : Int)), (82, .pointer (some ⟨b, o + k * 7, none⟩)), (83, x.val), (84, .bool false), (85, .bool false), (86, .bool false), (87, .bool false)] a) w')
    : (Code.region 17 (opsKE p).toArray true).wp Try.prog Q a w := by
  refine (wpIn_wide (n := 1)).1 (wpIn_region_vals 96 hN follows (opsKE_back p) (opsKE_slots p) Grew Grew.refl Grew.trans (psiKE b o L c k q vb vo VL vc vk vi x y) (psiKE_grew b o L c k q vb vo VL vc vk vi x y) ?_ ?_)
  · intro i o d ho hd a' w' hF hR hp
    rcases i with _ | _ | _ | _ | _ | _ | _ | _ | _ | _ | _ | _ | _ | _ | _ | _ | _ | _ | _ | _ | _ | _ | _ | _ | _ | _ | _ | _ | _ | _ | _ | _ | _ | _ | _ | _ | _ | i
    · obtain rfl : oKE0 p = o := Option.some.inj ho
      obtain rfl : 51 = d := Option.some.inj hd
      exact step_move rfl rfl rfl (hF.at 8 rfl h8) ⟨_, rfl, rfl, Grew.refl _⟩
    · obtain rfl : oKE1 p = o := Option.some.inj ho
      obtain rfl : 52 = d := Option.some.inj hd
      have q0 : a'.tmps.getD 51 undef = .bool false := hp 0 (oKE0 p) 51 rfl rfl rfl
      exact step_move rfl rfl rfl q0 ⟨_, rfl, rfl, Grew.refl _⟩
    · obtain rfl : oKE2 p = o := Option.some.inj ho
      obtain rfl : 53 = d := Option.some.inj hd
      have q1 : a'.tmps.getD 52 undef = .bool false := hp 1 (oKE1 p) 52 rfl rfl rfl
      exact step_off rfl (wanted_off rfl (show (opsKE p).toArray[1]? = some (oKE1 p) from rfl) rfl q1) ⟨_, rfl, rfl, Grew.refl _⟩
    · obtain rfl : oKE3 p = o := Option.some.inj ho
      obtain rfl : 54 = d := Option.some.inj hd
      have q1 : a'.tmps.getD 52 undef = .bool false := hp 1 (oKE1 p) 52 rfl rfl rfl
      exact step_off rfl (wanted_off rfl (show (opsKE p).toArray[1]? = some (oKE1 p) from rfl) rfl q1) ⟨_, rfl, rfl, Grew.refl _⟩
    · obtain rfl : oKE4 p = o := Option.some.inj ho
      obtain rfl : 55 = d := Option.some.inj hd
      have q1 : a'.tmps.getD 52 undef = .bool false := hp 1 (oKE1 p) 52 rfl rfl rfl
      exact step_off rfl (wanted_off rfl (show (opsKE p).toArray[1]? = some (oKE1 p) from rfl) rfl q1) ⟨_, rfl, rfl, Grew.refl _⟩
    · obtain rfl : oKE5 p = o := Option.some.inj ho
      obtain rfl : 56 = d := Option.some.inj hd
      have q1 : a'.tmps.getD 52 undef = .bool false := hp 1 (oKE1 p) 52 rfl rfl rfl
      exact step_off rfl (wanted_off rfl (show (opsKE p).toArray[1]? = some (oKE1 p) from rfl) rfl q1) ⟨_, rfl, rfl, Grew.refl _⟩
    · obtain rfl : oKE6 p = o := Option.some.inj ho
      obtain rfl : 57 = d := Option.some.inj hd
      have q1 : a'.tmps.getD 52 undef = .bool false := hp 1 (oKE1 p) 52 rfl rfl rfl
      exact step_off rfl (wanted_off rfl (show (opsKE p).toArray[1]? = some (oKE1 p) from rfl) rfl q1) ⟨_, rfl, rfl, Grew.refl _⟩
    · obtain rfl : oKE7 p = o := Option.some.inj ho
      obtain rfl : 58 = d := Option.some.inj hd
      have q1 : a'.tmps.getD 52 undef = .bool false := hp 1 (oKE1 p) 52 rfl rfl rfl
      exact step_off rfl (wanted_off rfl (show (opsKE p).toArray[1]? = some (oKE1 p) from rfl) rfl q1) ⟨_, rfl, rfl, Grew.refl _⟩
    · obtain rfl : oKE8 p = o := Option.some.inj ho
      obtain rfl : 59 = d := Option.some.inj hd
      have q1 : a'.tmps.getD 52 undef = .bool false := hp 1 (oKE1 p) 52 rfl rfl rfl
      exact step_off rfl (wanted_off rfl (show (opsKE p).toArray[1]? = some (oKE1 p) from rfl) rfl q1) ⟨_, rfl, rfl, Grew.refl _⟩
    · obtain rfl : oKE9 p = o := Option.some.inj ho
      obtain rfl : 60 = d := Option.some.inj hd
      have q1 : a'.tmps.getD 52 undef = .bool false := hp 1 (oKE1 p) 52 rfl rfl rfl
      exact step_off rfl (wanted_off rfl (show (opsKE p).toArray[1]? = some (oKE1 p) from rfl) rfl q1) ⟨_, rfl, rfl, Grew.refl _⟩
    · obtain rfl : oKE10 p = o := Option.some.inj ho
      obtain rfl : 61 = d := Option.some.inj hd
      have q1 : a'.tmps.getD 52 undef = .bool false := hp 1 (oKE1 p) 52 rfl rfl rfl
      exact step_off rfl (wanted_off rfl (show (opsKE p).toArray[1]? = some (oKE1 p) from rfl) rfl q1) ⟨_, rfl, rfl, Grew.refl _⟩
    · obtain rfl : oKE11 p = o := Option.some.inj ho
      obtain rfl : 62 = d := Option.some.inj hd
      have q1 : a'.tmps.getD 52 undef = .bool false := hp 1 (oKE1 p) 52 rfl rfl rfl
      exact step_pick rfl rfl rfl q1 rfl ⟨_, rfl, rfl, Grew.refl _⟩
    · obtain rfl : oKE12 p = o := Option.some.inj ho
      obtain rfl : 63 = d := Option.some.inj hd
      have q11 : a'.tmps.getD 62 undef = .bool false := hp 11 (oKE11 p) 62 rfl rfl rfl
      exact step_move rfl rfl rfl q11 ⟨_, rfl, rfl, Grew.refl _⟩
    · obtain rfl : oKE13 p = o := Option.some.inj ho
      obtain rfl : 64 = d := Option.some.inj hd
      have q12 : a'.tmps.getD 63 undef = .bool false := hp 12 (oKE12 p) 63 rfl rfl rfl
      exact step_move rfl (wanted_on rfl (show (opsKE p).toArray[12]? = some (oKE12 p) from rfl) rfl q12) rfl (hF.at 3 rfl h3) ⟨_, rfl, rfl, Grew.refl _⟩
    · obtain rfl : oKE14 p = o := Option.some.inj ho
      obtain rfl : 65 = d := Option.some.inj hd
      have q12 : a'.tmps.getD 63 undef = .bool false := hp 12 (oKE12 p) 63 rfl rfl rfl
      exact step_move rfl (wanted_on rfl (show (opsKE p).toArray[12]? = some (oKE12 p) from rfl) rfl q12) rfl (hF.at 7 rfl h7) ⟨_, rfl, rfl, Grew.refl _⟩
    · obtain rfl : oKE15 p = o := Option.some.inj ho
      obtain rfl : 66 = d := Option.some.inj hd
      have q12 : a'.tmps.getD 63 undef = .bool false := hp 12 (oKE12 p) 63 rfl rfl rfl
      have q13 : a'.tmps.getD 64 undef = .slice (some ⟨vb, vo, none⟩) VL vc := hp 13 (oKE13 p) 64 rfl rfl rfl
      have q14 : a'.tmps.getD 65 undef = .int .i64 (k : Int) := hp 14 (oKE14 p) 65 rfl rfl rfl
      exact step_index rfl (wanted_on rfl (show (opsKE p).toArray[12]? = some (oKE12 p) from rfl) rfl q12) rfl q13 q14 (run_ixI _ _ _ _ _ _ hvk) ⟨_, rfl, rfl, Grew.refl _⟩
    · obtain rfl : oKE16 p = o := Option.some.inj ho
      obtain rfl : 67 = d := Option.some.inj hd
      have q12 : a'.tmps.getD 63 undef = .bool false := hp 12 (oKE12 p) 63 rfl rfl rfl
      have q15 : a'.tmps.getD 66 undef = .pointer (some ⟨vb, vo + k, none⟩) := hp 15 (oKE15 p) 66 rfl rfl rfl
      exact step_load rfl (wanted_on rfl (show (opsKE p).toArray[12]? = some (oKE12 p) from rfl) rfl q12) rfl q15 (run_ldI _ _ _ ((Below.cell hR.undraw (p := ⟨vb, vo + k, none⟩) hvb).trans hck)) ⟨_, rfl, rfl, Grew.refl _⟩
    · obtain rfl : oKE17 p = o := Option.some.inj ho
      obtain rfl : 68 = d := Option.some.inj hd
      have q12 : a'.tmps.getD 63 undef = .bool false := hp 12 (oKE12 p) 63 rfl rfl rfl
      exact step_move rfl (wanted_on rfl (show (opsKE p).toArray[12]? = some (oKE12 p) from rfl) rfl q12) rfl (hF.at 3 rfl h3) ⟨_, rfl, rfl, Grew.refl _⟩
    · obtain rfl : oKE18 p = o := Option.some.inj ho
      obtain rfl : 69 = d := Option.some.inj hd
      have q12 : a'.tmps.getD 63 undef = .bool false := hp 12 (oKE12 p) 63 rfl rfl rfl
      exact step_move rfl (wanted_on rfl (show (opsKE p).toArray[12]? = some (oKE12 p) from rfl) rfl q12) rfl (hF.at 6 rfl h6) ⟨_, rfl, rfl, Grew.refl _⟩
    · obtain rfl : oKE19 p = o := Option.some.inj ho
      obtain rfl : 70 = d := Option.some.inj hd
      have q12 : a'.tmps.getD 63 undef = .bool false := hp 12 (oKE12 p) 63 rfl rfl rfl
      have q17 : a'.tmps.getD 68 undef = .slice (some ⟨vb, vo, none⟩) VL vc := hp 17 (oKE17 p) 68 rfl rfl rfl
      have q18 : a'.tmps.getD 69 undef = .int .i64 (q : Int) := hp 18 (oKE18 p) 69 rfl rfl rfl
      exact step_index rfl (wanted_on rfl (show (opsKE p).toArray[12]? = some (oKE12 p) from rfl) rfl q12) rfl q17 q18 (run_ixI _ _ _ _ _ _ hvi) ⟨_, rfl, rfl, Grew.refl _⟩
    · obtain rfl : oKE20 p = o := Option.some.inj ho
      obtain rfl : 71 = d := Option.some.inj hd
      have q12 : a'.tmps.getD 63 undef = .bool false := hp 12 (oKE12 p) 63 rfl rfl rfl
      have q19 : a'.tmps.getD 70 undef = .pointer (some ⟨vb, vo + q, none⟩) := hp 19 (oKE19 p) 70 rfl rfl rfl
      exact step_load rfl (wanted_on rfl (show (opsKE p).toArray[12]? = some (oKE12 p) from rfl) rfl q12) rfl q19 (run_ldI _ _ _ ((Below.cell hR.undraw (p := ⟨vb, vo + q, none⟩) hvb).trans hci)) ⟨_, rfl, rfl, Grew.refl _⟩
    · obtain rfl : oKE21 p = o := Option.some.inj ho
      obtain rfl : 72 = d := Option.some.inj hd
      have q12 : a'.tmps.getD 63 undef = .bool false := hp 12 (oKE12 p) 63 rfl rfl rfl
      have q16 : a'.tmps.getD 67 undef = .int .i64 (vk : Int) := hp 16 (oKE16 p) 67 rfl rfl rfl
      have q20 : a'.tmps.getD 71 undef = .int .i64 (vi : Int) := hp 20 (oKE20 p) 71 rfl rfl rfl
      exact step_bin rfl (wanted_on rfl (show (opsKE p).toArray[12]? = some (oKE12 p) from rfl) rfl q12) rfl q16 q20 (guard_int _ _ _ _ _ _ _ _ _) (run_eqT _ _ _ _ heq) ⟨_, rfl, rfl, Grew.refl _⟩
    · obtain rfl : oKE22 p = o := Option.some.inj ho
      obtain rfl : 73 = d := Option.some.inj hd
      have q12 : a'.tmps.getD 63 undef = .bool false := hp 12 (oKE12 p) 63 rfl rfl rfl
      have q21 : a'.tmps.getD 72 undef = .bool true := hp 21 (oKE21 p) 72 rfl rfl rfl
      exact step_move rfl (wanted_on rfl (show (opsKE p).toArray[12]? = some (oKE12 p) from rfl) rfl q12) rfl q21 ⟨_, rfl, rfl, Grew.refl _⟩
    · obtain rfl : oKE23 p = o := Option.some.inj ho
      obtain rfl : 74 = d := Option.some.inj hd
      have q22 : a'.tmps.getD 73 undef = .bool true := hp 22 (oKE22 p) 73 rfl rfl rfl
      exact step_move rfl (wanted_on rfl (show (opsKE p).toArray[22]? = some (oKE22 p) from rfl) rfl q22) rfl (hF.at 0 rfl h0) ⟨_, rfl, rfl, Grew.refl _⟩
    · obtain rfl : oKE24 p = o := Option.some.inj ho
      obtain rfl : 75 = d := Option.some.inj hd
      have q22 : a'.tmps.getD 73 undef = .bool true := hp 22 (oKE22 p) 73 rfl rfl rfl
      exact step_move rfl (wanted_on rfl (show (opsKE p).toArray[22]? = some (oKE22 p) from rfl) rfl q22) rfl (hF.at 6 rfl h6) ⟨_, rfl, rfl, Grew.refl _⟩
    · obtain rfl : oKE25 p = o := Option.some.inj ho
      obtain rfl : 76 = d := Option.some.inj hd
      have q22 : a'.tmps.getD 73 undef = .bool true := hp 22 (oKE22 p) 73 rfl rfl rfl
      have q23 : a'.tmps.getD 74 undef = .slice (some ⟨b, o, none⟩) L c := hp 23 (oKE23 p) 74 rfl rfl rfl
      have q24 : a'.tmps.getD 75 undef = .int .i64 (q : Int) := hp 24 (oKE24 p) 75 rfl rfl rfl
      exact step_index rfl (wanted_on rfl (show (opsKE p).toArray[22]? = some (oKE22 p) from rfl) rfl q22) rfl q23 q24 (run_ixC _ _ _ _ _ _ hi) ⟨_, rfl, rfl, Grew.refl _⟩
    · obtain rfl : oKE26 p = o := Option.some.inj ho
      obtain rfl : 77 = d := Option.some.inj hd
      have q22 : a'.tmps.getD 73 undef = .bool true := hp 22 (oKE22 p) 73 rfl rfl rfl
      have q25 : a'.tmps.getD 76 undef = .pointer (some ⟨b, o + q * 7, none⟩) := hp 25 (oKE25 p) 76 rfl rfl rfl
      exact step_load rfl (wanted_on rfl (show (opsKE p).toArray[22]? = some (oKE22 p) from rfl) rfl q22) rfl q25 (run_ldC _ _ _ _ (fun i u hu => (Below.cell hR.undraw (p := ⟨b, o + q * 7 + i, none⟩) hb).trans (hy i u hu))) ⟨_, rfl, rfl, Grew.refl _⟩
    · obtain rfl : oKE27 p = o := Option.some.inj ho
      obtain rfl : 78 = d := Option.some.inj hd
      have q22 : a'.tmps.getD 73 undef = .bool true := hp 22 (oKE22 p) 73 rfl rfl rfl
      have q26 : a'.tmps.getD 77 undef = y.val := hp 26 (oKE26 p) 77 rfl rfl rfl
      refine step_callD rfl (wanted_on rfl (show (opsKE p).toArray[22]? = some (oKE22 p) from rfl) rfl q22) rfl (enters_of Try.func9 (by kernel_rfl) rfl) (show Array.map a'.eval #[.tmp 77] = _ from by simp only [List.map_toArray, List.map_cons, List.map_nil, Act.eval, q26]) ((hLy w' hR.undraw).mono ?_)
      rintro e w'' ⟨rfl, hb⟩
      exact ⟨_, rfl, _, rfl, rfl, hb⟩
    · obtain rfl : oKE28 p = o := Option.some.inj ho
      obtain rfl : 79 = d := Option.some.inj hd
      have q22 : a'.tmps.getD 73 undef = .bool true := hp 22 (oKE22 p) 73 rfl rfl rfl
      have q27 : a'.tmps.getD 78 undef = .bool false := hp 27 (oKE27 p) 78 rfl rfl rfl
      exact step_move rfl (wanted_on rfl (show (opsKE p).toArray[22]? = some (oKE22 p) from rfl) rfl q22) rfl q27 ⟨_, rfl, rfl, Grew.refl _⟩
    · obtain rfl : oKE29 p = o := Option.some.inj ho
      obtain rfl : 80 = d := Option.some.inj hd
      have q28 : a'.tmps.getD 79 undef = .bool false := hp 28 (oKE28 p) 79 rfl rfl rfl
      exact step_move rfl (wanted_on rfl (show (opsKE p).toArray[28]? = some (oKE28 p) from rfl) rfl q28) rfl (hF.at 0 rfl h0) ⟨_, rfl, rfl, Grew.refl _⟩
    · obtain rfl : oKE30 p = o := Option.some.inj ho
      obtain rfl : 81 = d := Option.some.inj hd
      have q28 : a'.tmps.getD 79 undef = .bool false := hp 28 (oKE28 p) 79 rfl rfl rfl
      exact step_move rfl (wanted_on rfl (show (opsKE p).toArray[28]? = some (oKE28 p) from rfl) rfl q28) rfl (hF.at 7 rfl h7) ⟨_, rfl, rfl, Grew.refl _⟩
    · obtain rfl : oKE31 p = o := Option.some.inj ho
      obtain rfl : 82 = d := Option.some.inj hd
      have q28 : a'.tmps.getD 79 undef = .bool false := hp 28 (oKE28 p) 79 rfl rfl rfl
      have q29 : a'.tmps.getD 80 undef = .slice (some ⟨b, o, none⟩) L c := hp 29 (oKE29 p) 80 rfl rfl rfl
      have q30 : a'.tmps.getD 81 undef = .int .i64 (k : Int) := hp 30 (oKE30 p) 81 rfl rfl rfl
      exact step_index rfl (wanted_on rfl (show (opsKE p).toArray[28]? = some (oKE28 p) from rfl) rfl q28) rfl q29 q30 (run_ixC _ _ _ _ _ _ hk) ⟨_, rfl, rfl, Grew.refl _⟩
    · obtain rfl : oKE32 p = o := Option.some.inj ho
      obtain rfl : 83 = d := Option.some.inj hd
      have q28 : a'.tmps.getD 79 undef = .bool false := hp 28 (oKE28 p) 79 rfl rfl rfl
      have q31 : a'.tmps.getD 82 undef = .pointer (some ⟨b, o + k * 7, none⟩) := hp 31 (oKE31 p) 82 rfl rfl rfl
      exact step_load rfl (wanted_on rfl (show (opsKE p).toArray[28]? = some (oKE28 p) from rfl) rfl q28) rfl q31 (run_ldC _ _ _ _ (fun i u hu => (Below.cell hR.undraw (p := ⟨b, o + k * 7 + i, none⟩) hb).trans (hx i u hu))) ⟨_, rfl, rfl, Grew.refl _⟩
    · obtain rfl : oKE33 p = o := Option.some.inj ho
      obtain rfl : 84 = d := Option.some.inj hd
      have q28 : a'.tmps.getD 79 undef = .bool false := hp 28 (oKE28 p) 79 rfl rfl rfl
      have q32 : a'.tmps.getD 83 undef = x.val := hp 32 (oKE32 p) 83 rfl rfl rfl
      refine step_callD rfl (wanted_on rfl (show (opsKE p).toArray[28]? = some (oKE28 p) from rfl) rfl q28) rfl (enters_of Try.func9 (by kernel_rfl) rfl) (show Array.map a'.eval #[.tmp 83] = _ from by simp only [List.map_toArray, List.map_cons, List.map_nil, Act.eval, q32]) ((hLx w' hR.undraw).mono ?_)
      rintro e w'' ⟨rfl, hb⟩
      exact ⟨_, rfl, _, rfl, rfl, hb⟩
    · obtain rfl : oKE34 p = o := Option.some.inj ho
      obtain rfl : 85 = d := Option.some.inj hd
      have q22 : a'.tmps.getD 73 undef = .bool true := hp 22 (oKE22 p) 73 rfl rfl rfl
      have q28 : a'.tmps.getD 79 undef = .bool false := hp 28 (oKE28 p) 79 rfl rfl rfl
      have q33 : a'.tmps.getD 84 undef = .bool false := hp 33 (oKE33 p) 84 rfl rfl rfl
      exact step_pick rfl (wanted_on rfl (show (opsKE p).toArray[22]? = some (oKE22 p) from rfl) rfl q22) rfl q28 (show (if false = true then _ else a'.tmps.getD 84 undef) = _ from q33) ⟨_, rfl, rfl, Grew.refl _⟩
    · obtain rfl : oKE35 p = o := Option.some.inj ho
      obtain rfl : 86 = d := Option.some.inj hd
      have q12 : a'.tmps.getD 63 undef = .bool false := hp 12 (oKE12 p) 63 rfl rfl rfl
      have q22 : a'.tmps.getD 73 undef = .bool true := hp 22 (oKE22 p) 73 rfl rfl rfl
      have q34 : a'.tmps.getD 85 undef = .bool false := hp 34 (oKE34 p) 85 rfl rfl rfl
      exact step_pick rfl (wanted_on rfl (show (opsKE p).toArray[12]? = some (oKE12 p) from rfl) rfl q12) rfl q22 (show (if true = true then a'.tmps.getD 85 undef else _) = _ from q34) ⟨_, rfl, rfl, Grew.refl _⟩
    · obtain rfl : oKE36 p = o := Option.some.inj ho
      obtain rfl : 87 = d := Option.some.inj hd
      have q12 : a'.tmps.getD 63 undef = .bool false := hp 12 (oKE12 p) 63 rfl rfl rfl
      have q35 : a'.tmps.getD 86 undef = .bool false := hp 35 (oKE35 p) 86 rfl rfl rfl
      exact step_pick rfl rfl rfl q12 (show (if false = true then _ else a'.tmps.getD 86 undef) = _ from q35) ⟨_, rfl, rfl, Grew.refl _⟩
    · exact absurd ((Array.getElem?_eq_some_iff.1 ho).1) (by simp [opsKE])
  · intro a' w' hF hR hp
    have e0 : psiKE b o L c k q vb vo VL vc vk vi x y 0 (a'.tmps.getD 51 undef) w' := hp 0 (oKE0 p) 51 rfl rfl
    have e1 : psiKE b o L c k q vb vo VL vc vk vi x y 1 (a'.tmps.getD 52 undef) w' := hp 1 (oKE1 p) 52 rfl rfl
    have e2 : psiKE b o L c k q vb vo VL vc vk vi x y 2 (a'.tmps.getD 53 undef) w' := hp 2 (oKE2 p) 53 rfl rfl
    have e3 : psiKE b o L c k q vb vo VL vc vk vi x y 3 (a'.tmps.getD 54 undef) w' := hp 3 (oKE3 p) 54 rfl rfl
    have e4 : psiKE b o L c k q vb vo VL vc vk vi x y 4 (a'.tmps.getD 55 undef) w' := hp 4 (oKE4 p) 55 rfl rfl
    have e5 : psiKE b o L c k q vb vo VL vc vk vi x y 5 (a'.tmps.getD 56 undef) w' := hp 5 (oKE5 p) 56 rfl rfl
    have e6 : psiKE b o L c k q vb vo VL vc vk vi x y 6 (a'.tmps.getD 57 undef) w' := hp 6 (oKE6 p) 57 rfl rfl
    have e7 : psiKE b o L c k q vb vo VL vc vk vi x y 7 (a'.tmps.getD 58 undef) w' := hp 7 (oKE7 p) 58 rfl rfl
    have e8 : psiKE b o L c k q vb vo VL vc vk vi x y 8 (a'.tmps.getD 59 undef) w' := hp 8 (oKE8 p) 59 rfl rfl
    have e9 : psiKE b o L c k q vb vo VL vc vk vi x y 9 (a'.tmps.getD 60 undef) w' := hp 9 (oKE9 p) 60 rfl rfl
    have e10 : psiKE b o L c k q vb vo VL vc vk vi x y 10 (a'.tmps.getD 61 undef) w' := hp 10 (oKE10 p) 61 rfl rfl
    have e11 : psiKE b o L c k q vb vo VL vc vk vi x y 11 (a'.tmps.getD 62 undef) w' := hp 11 (oKE11 p) 62 rfl rfl
    have e12 : psiKE b o L c k q vb vo VL vc vk vi x y 12 (a'.tmps.getD 63 undef) w' := hp 12 (oKE12 p) 63 rfl rfl
    have e13 : psiKE b o L c k q vb vo VL vc vk vi x y 13 (a'.tmps.getD 64 undef) w' := hp 13 (oKE13 p) 64 rfl rfl
    have e14 : psiKE b o L c k q vb vo VL vc vk vi x y 14 (a'.tmps.getD 65 undef) w' := hp 14 (oKE14 p) 65 rfl rfl
    have e15 : psiKE b o L c k q vb vo VL vc vk vi x y 15 (a'.tmps.getD 66 undef) w' := hp 15 (oKE15 p) 66 rfl rfl
    have e16 : psiKE b o L c k q vb vo VL vc vk vi x y 16 (a'.tmps.getD 67 undef) w' := hp 16 (oKE16 p) 67 rfl rfl
    have e17 : psiKE b o L c k q vb vo VL vc vk vi x y 17 (a'.tmps.getD 68 undef) w' := hp 17 (oKE17 p) 68 rfl rfl
    have e18 : psiKE b o L c k q vb vo VL vc vk vi x y 18 (a'.tmps.getD 69 undef) w' := hp 18 (oKE18 p) 69 rfl rfl
    have e19 : psiKE b o L c k q vb vo VL vc vk vi x y 19 (a'.tmps.getD 70 undef) w' := hp 19 (oKE19 p) 70 rfl rfl
    have e20 : psiKE b o L c k q vb vo VL vc vk vi x y 20 (a'.tmps.getD 71 undef) w' := hp 20 (oKE20 p) 71 rfl rfl
    have e21 : psiKE b o L c k q vb vo VL vc vk vi x y 21 (a'.tmps.getD 72 undef) w' := hp 21 (oKE21 p) 72 rfl rfl
    have e22 : psiKE b o L c k q vb vo VL vc vk vi x y 22 (a'.tmps.getD 73 undef) w' := hp 22 (oKE22 p) 73 rfl rfl
    have e23 : psiKE b o L c k q vb vo VL vc vk vi x y 23 (a'.tmps.getD 74 undef) w' := hp 23 (oKE23 p) 74 rfl rfl
    have e24 : psiKE b o L c k q vb vo VL vc vk vi x y 24 (a'.tmps.getD 75 undef) w' := hp 24 (oKE24 p) 75 rfl rfl
    have e25 : psiKE b o L c k q vb vo VL vc vk vi x y 25 (a'.tmps.getD 76 undef) w' := hp 25 (oKE25 p) 76 rfl rfl
    have e26 : psiKE b o L c k q vb vo VL vc vk vi x y 26 (a'.tmps.getD 77 undef) w' := hp 26 (oKE26 p) 77 rfl rfl
    have e27 : psiKE b o L c k q vb vo VL vc vk vi x y 27 (a'.tmps.getD 78 undef) w' := hp 27 (oKE27 p) 78 rfl rfl
    have e28 : psiKE b o L c k q vb vo VL vc vk vi x y 28 (a'.tmps.getD 79 undef) w' := hp 28 (oKE28 p) 79 rfl rfl
    have e29 : psiKE b o L c k q vb vo VL vc vk vi x y 29 (a'.tmps.getD 80 undef) w' := hp 29 (oKE29 p) 80 rfl rfl
    have e30 : psiKE b o L c k q vb vo VL vc vk vi x y 30 (a'.tmps.getD 81 undef) w' := hp 30 (oKE30 p) 81 rfl rfl
    have e31 : psiKE b o L c k q vb vo VL vc vk vi x y 31 (a'.tmps.getD 82 undef) w' := hp 31 (oKE31 p) 82 rfl rfl
    have e32 : psiKE b o L c k q vb vo VL vc vk vi x y 32 (a'.tmps.getD 83 undef) w' := hp 32 (oKE32 p) 83 rfl rfl
    have e33 : psiKE b o L c k q vb vo VL vc vk vi x y 33 (a'.tmps.getD 84 undef) w' := hp 33 (oKE33 p) 84 rfl rfl
    have e34 : psiKE b o L c k q vb vo VL vc vk vi x y 34 (a'.tmps.getD 85 undef) w' := hp 34 (oKE34 p) 85 rfl rfl
    have e35 : psiKE b o L c k q vb vo VL vc vk vi x y 35 (a'.tmps.getD 86 undef) w' := hp 35 (oKE35 p) 86 rfl rfl
    have e36 : psiKE b o L c k q vb vo VL vc vk vi x y 36 (a'.tmps.getD 87 undef) w' := hp 36 (oKE36 p) 87 rfl rfl
    rw [hF.puts [(51, .bool false), (52, .bool false), (53, undef), (54, undef), (55, undef), (56, undef), (57, undef), (58, undef), (59, undef), (60, undef), (61, undef), (62, .bool false), (63, .bool false), (64, .slice (some ⟨vb, vo, none⟩) VL vc), (65, .int .i64 (k : Int)), (66, .pointer (some ⟨vb, vo + k, none⟩)), (67, .int .i64 (vk : Int)), (68, .slice (some ⟨vb, vo, none⟩) VL vc), (69, .int .i64 (q : Int)), (70, .pointer (some ⟨vb, vo + q, none⟩)), (71, .int .i64 (vi : Int)), (72, .bool true), (73, .bool true), (74, .slice (some ⟨b, o, none⟩) L c), (75, .int .i64 (q : Int)), (76, .pointer (some ⟨b, o + q * 7, none⟩)), (77, y.val), (78, .bool false), (79, .bool false), (80, .slice (some ⟨b, o, none⟩) L c), (81, .int .i64 (k : Int)), (82, .pointer (some ⟨b, o + k * 7, none⟩)), (83, x.val), (84, .bool false), (85, .bool false), (86, .bool false), (87, .bool false)] ?_ rfl (by rw [hN]; rfl)]
    · exact hQ  w'  hR.undraw
    · intro x hx
      simp only [List.mem_cons, List.not_mem_nil, or_false] at hx
      rcases hx with rfl | rfl | rfl | rfl | rfl | rfl | rfl | rfl | rfl | rfl | rfl | rfl | rfl | rfl | rfl | rfl | rfl | rfl | rfl | rfl | rfl | rfl | rfl | rfl | rfl | rfl | rfl | rfl | rfl | rfl | rfl | rfl | rfl | rfl | rfl | rfl | rfl
      · exact e0
      · exact e1
      · exact e2
      · exact e3
      · exact e4
      · exact e5
      · exact e6
      · exact e7
      · exact e8
      · exact e9
      · exact e10
      · exact e11
      · exact e12
      · exact e13
      · exact e14
      · exact e15
      · exact e16
      · exact e17
      · exact e18
      · exact e19
      · exact e20
      · exact e21
      · exact e22
      · exact e23
      · exact e24
      · exact e25
      · exact e26
      · exact e27
      · exact e28
      · exact e29
      · exact e30
      · exact e31
      · exact e32
      · exact e33
      · exact e34
      · exact e35
      · exact e36
end Go.Proofs.Ytooaobadnainkaa
