/- KeysetTells and the reference's Waves: the statements that read batches and waves, whatever their order of evaluation. -/
import Derived.Test.YtooaobadnainkaaKsRun
namespace Go.Proofs.Ytooaobadnainkaa
open Go.RowKit

def oRW90 (p : String) : Oper := { dst := some 18, op := Op.move (Operand.tmp 0), type := 22, pos := p, after := #[], guard := none }
def oRW91 (p : String) : Oper := { dst := some 19, op := Op.move (Operand.tmp 6), type := 3, pos := p, after := #[], guard := none }
def oRW92 (p : String) : Oper := { dst := some 20, op := Op.indexAddr 22 (Operand.tmp 18) (Operand.tmp 19), type := 0, pos := p, after := #[{ on := 0, ground := Ground.data }, { on := 1, ground := Ground.data }], guard := none }
def oRW93 (p : String) : Oper := { dst := some 21, op := Op.load 31 (Operand.tmp 20), type := 31, pos := p, after := #[{ on := 2, ground := Ground.data }], guard := none }
def oRW94 (p : String) : Oper := { dst := some 22, op := Op.move (Operand.tmp 0), type := 22, pos := p, after := #[], guard := none }
def oRW95 (p : String) : Oper := { dst := some 23, op := Op.move (Operand.tmp 4), type := 3, pos := p, after := #[], guard := none }
def oRW96 (p : String) : Oper := { dst := some 24, op := Op.indexAddr 22 (Operand.tmp 22) (Operand.tmp 23), type := 0, pos := p, after := #[{ on := 4, ground := Ground.data }, { on := 5, ground := Ground.data }], guard := none }
def oRW97 (p : String) : Oper := { dst := some 25, op := Op.load 31 (Operand.tmp 24), type := 31, pos := p, after := #[{ on := 6, ground := Ground.data }], guard := none }
def oRW98 (p : String) : Oper := { dst := some 26, op := Op.call { callee := Callee.value (Operand.func 12), args := #[Operand.tmp 21, Operand.tmp 25], argTypes := #[31, 31] }, type := 4, pos := p, after := #[{ on := 3, ground := Ground.data }, { on := 7, ground := Ground.data }], guard := none }
def opsRW9 (p : String) : List Oper := [oRW90 p, oRW91 p, oRW92 p, oRW93 p, oRW94 p, oRW95 p, oRW96 p, oRW97 p, oRW98 p]
theorem opsRW9_back (p : String) : backwards (opsRW9 p) = true := by kernel_rfl
theorem opsRW9_slots (p : String) : slotsOk 39 (opsRW9 p) = true := by kernel_rfl
/-- What each slot comes to. -/
def psiRW9 (b o L c k q : Nat) (x y : CmdV) (r : Bool) : Nat → Value → World → Prop
  | 0, v, _ => v = .slice (some ⟨b, o, none⟩) L c
  | 1, v, _ => v = .int .i64 (k : Int)
  | 2, v, _ => v = .pointer (some ⟨b, o + k * 7, none⟩)
  | 3, v, _ => v = x.val
  | 4, v, _ => v = .slice (some ⟨b, o, none⟩) L c
  | 5, v, _ => v = .int .i64 (q : Int)
  | 6, v, _ => v = .pointer (some ⟨b, o + q * 7, none⟩)
  | 7, v, _ => v = y.val
  | 8, v, _ => v = .bool r
  | _, _, _ => True
theorem psiRW9_grew (b o L c k q : Nat) (x y : CmdV) (r : Bool) : ∀ i v w w', psiRW9 b o L c k q x y r i v w → Grew w w' → psiRW9 b o L c k q x y r i v w' := by
  intro i v w w' h hg
  rcases i with _ | _ | _ | _ | _ | _ | _ | _ | _ | i
  · exact h
  · exact h
  · exact h
  · exact h
  · exact h
  · exact h
  · exact h
  · exact h
  · exact h
  · trivial
set_option maxRecDepth 100000 in
set_option maxHeartbeats 4000000 in
theorem rfway {p : String} (b o L c k q : Nat) (x y : CmdV) (r : Bool) (hk : k < L) (hi : q < L) (a : Act) (w : World) (Q : Exit → Act → World → Prop) (hN : a.tmps.size = 39) (h0 : a.tmps.getD 0 undef = .slice (some ⟨b, o, none⟩) L c) (h4 : a.tmps.getD 4 undef = .int .i64 (q : Int)) (h6 : a.tmps.getD 6 undef = .int .i64 (k : Int)) (hb : b < w.heap.size) (hx : ∀ j u, x.cells[j]? = some u → w.cell? ⟨b, o + k * 7 + j, none⟩ = some u) (hy : ∀ j u, y.cells[j]? = some u → w.cell? ⟨b, o + q * 7 + j, none⟩ = some u) (hW : ∀ w', Grew w w' → Calls Try.prog 12 #[x.val, y.val] w' fun e W' => e = .returned (.bool r) ∧ Below w'.heap.size w' W') (hQ : ∀ (w' : World), Grew w w' → Q .normal (puts [(18, .slice (some ⟨b, o, none⟩) L c), (19, .int .i64 (k : Int)), (20, .pointer (some ⟨b, o + k * 7, none⟩)), (21, x.val), (22, .slice (some ⟨b, o, none⟩) L c), (23, .int .i64 (q : Int)), (24, .pointer (some ⟨b, o + q * 7, none⟩)), (25, y.val), (26, .bool r)] a) w')
    : (Code.region 9 (opsRW9 p).toArray true).wp Try.prog Q a w := by
  refine (wpIn_wide (n := 1)).1 (wpIn_region_vals 39 hN follows (opsRW9_back p) (opsRW9_slots p) Grew Grew.refl Grew.trans (psiRW9 b o L c k q x y r) (psiRW9_grew b o L c k q x y r) ?_ ?_)
  · intro i o d ho hd a' w' hF hR hp
    rcases i with _ | _ | _ | _ | _ | _ | _ | _ | _ | i
    · obtain rfl : oRW90 p = o := Option.some.inj ho
      obtain rfl : 18 = d := Option.some.inj hd
      exact step_move rfl rfl rfl (hF.at 0 rfl h0) ⟨_, rfl, rfl, Grew.refl _⟩
    · obtain rfl : oRW91 p = o := Option.some.inj ho
      obtain rfl : 19 = d := Option.some.inj hd
      exact step_move rfl rfl rfl (hF.at 6 rfl h6) ⟨_, rfl, rfl, Grew.refl _⟩
    · obtain rfl : oRW92 p = o := Option.some.inj ho
      obtain rfl : 20 = d := Option.some.inj hd
      have q0 : a'.tmps.getD 18 undef = .slice (some ⟨b, o, none⟩) L c := hp 0 (oRW90 p) 18 rfl rfl rfl
      have q1 : a'.tmps.getD 19 undef = .int .i64 (k : Int) := hp 1 (oRW91 p) 19 rfl rfl rfl
      exact step_index rfl rfl rfl q0 q1 (run_ixC _ _ _ _ _ _ hk) ⟨_, rfl, rfl, Grew.refl _⟩
    · obtain rfl : oRW93 p = o := Option.some.inj ho
      obtain rfl : 21 = d := Option.some.inj hd
      have q2 : a'.tmps.getD 20 undef = .pointer (some ⟨b, o + k * 7, none⟩) := hp 2 (oRW92 p) 20 rfl rfl rfl
      exact step_load rfl rfl rfl q2 (run_ldC _ _ _ _ (fun i u hu => (Below.cell hR.undraw (p := ⟨b, o + k * 7 + i, none⟩) hb).trans (hx i u hu))) ⟨_, rfl, rfl, Grew.refl _⟩
    · obtain rfl : oRW94 p = o := Option.some.inj ho
      obtain rfl : 22 = d := Option.some.inj hd
      exact step_move rfl rfl rfl (hF.at 0 rfl h0) ⟨_, rfl, rfl, Grew.refl _⟩
    · obtain rfl : oRW95 p = o := Option.some.inj ho
      obtain rfl : 23 = d := Option.some.inj hd
      exact step_move rfl rfl rfl (hF.at 4 rfl h4) ⟨_, rfl, rfl, Grew.refl _⟩
    · obtain rfl : oRW96 p = o := Option.some.inj ho
      obtain rfl : 24 = d := Option.some.inj hd
      have q4 : a'.tmps.getD 22 undef = .slice (some ⟨b, o, none⟩) L c := hp 4 (oRW94 p) 22 rfl rfl rfl
      have q5 : a'.tmps.getD 23 undef = .int .i64 (q : Int) := hp 5 (oRW95 p) 23 rfl rfl rfl
      exact step_index rfl rfl rfl q4 q5 (run_ixC _ _ _ _ _ _ hi) ⟨_, rfl, rfl, Grew.refl _⟩
    · obtain rfl : oRW97 p = o := Option.some.inj ho
      obtain rfl : 25 = d := Option.some.inj hd
      have q6 : a'.tmps.getD 24 undef = .pointer (some ⟨b, o + q * 7, none⟩) := hp 6 (oRW96 p) 24 rfl rfl rfl
      exact step_load rfl rfl rfl q6 (run_ldC _ _ _ _ (fun i u hu => (Below.cell hR.undraw (p := ⟨b, o + q * 7 + i, none⟩) hb).trans (hy i u hu))) ⟨_, rfl, rfl, Grew.refl _⟩
    · obtain rfl : oRW98 p = o := Option.some.inj ho
      obtain rfl : 26 = d := Option.some.inj hd
      have q3 : a'.tmps.getD 21 undef = x.val := hp 3 (oRW93 p) 21 rfl rfl rfl
      have q7 : a'.tmps.getD 25 undef = y.val := hp 7 (oRW97 p) 25 rfl rfl rfl
      refine step_callD rfl rfl rfl (enters_of Try.func12 (by kernel_rfl) rfl) (show Array.map a'.eval #[.tmp 21, .tmp 25] = _ from by simp only [List.map_toArray, List.map_cons, List.map_nil, Act.eval, q3, q7]) ((hW w' hR.undraw).mono ?_)
      rintro e w'' ⟨rfl, hb⟩
      exact ⟨_, rfl, _, rfl, rfl, hb⟩
    · exact absurd ((Array.getElem?_eq_some_iff.1 ho).1) (by simp [opsRW9])
  · intro a' w' hF hR hp
    have e0 : psiRW9 b o L c k q x y r 0 (a'.tmps.getD 18 undef) w' := hp 0 (oRW90 p) 18 rfl rfl
    have e1 : psiRW9 b o L c k q x y r 1 (a'.tmps.getD 19 undef) w' := hp 1 (oRW91 p) 19 rfl rfl
    have e2 : psiRW9 b o L c k q x y r 2 (a'.tmps.getD 20 undef) w' := hp 2 (oRW92 p) 20 rfl rfl
    have e3 : psiRW9 b o L c k q x y r 3 (a'.tmps.getD 21 undef) w' := hp 3 (oRW93 p) 21 rfl rfl
    have e4 : psiRW9 b o L c k q x y r 4 (a'.tmps.getD 22 undef) w' := hp 4 (oRW94 p) 22 rfl rfl
    have e5 : psiRW9 b o L c k q x y r 5 (a'.tmps.getD 23 undef) w' := hp 5 (oRW95 p) 23 rfl rfl
    have e6 : psiRW9 b o L c k q x y r 6 (a'.tmps.getD 24 undef) w' := hp 6 (oRW96 p) 24 rfl rfl
    have e7 : psiRW9 b o L c k q x y r 7 (a'.tmps.getD 25 undef) w' := hp 7 (oRW97 p) 25 rfl rfl
    have e8 : psiRW9 b o L c k q x y r 8 (a'.tmps.getD 26 undef) w' := hp 8 (oRW98 p) 26 rfl rfl
    rw [hF.puts [(18, .slice (some ⟨b, o, none⟩) L c), (19, .int .i64 (k : Int)), (20, .pointer (some ⟨b, o + k * 7, none⟩)), (21, x.val), (22, .slice (some ⟨b, o, none⟩) L c), (23, .int .i64 (q : Int)), (24, .pointer (some ⟨b, o + q * 7, none⟩)), (25, y.val), (26, .bool r)] ?_ rfl (by rw [hN]; rfl)]
    · exact hQ  w'  hR.undraw
    · intro x hx
      simp only [List.mem_cons, List.not_mem_nil, or_false] at hx
      rcases hx with rfl | rfl | rfl | rfl | rfl | rfl | rfl | rfl | rfl
      · exact e0
      · exact e1
      · exact e2
      · exact e3
      · exact e4
      · exact e5
      · exact e6
      · exact e7
      · exact e8
def oKT100 (p : String) : Oper := { dst := some 30, op := Op.move (Operand.tmp 3), type := 25, pos := p, after := #[], guard := none }
def oKT101 (p : String) : Oper := { dst := some 31, op := Op.move (Operand.tmp 6), type := 3, pos := p, after := #[], guard := none }
def oKT102 (p : String) : Oper := { dst := some 32, op := Op.indexAddr 25 (Operand.tmp 30) (Operand.tmp 31), type := 0, pos := p, after := #[{ on := 0, ground := Ground.data }, { on := 1, ground := Ground.data }], guard := none }
def oKT103 (p : String) : Oper := { dst := some 33, op := Op.load 3 (Operand.tmp 32), type := 3, pos := p, after := #[{ on := 2, ground := Ground.data }], guard := none }
def oKT104 (p : String) : Oper := { dst := some 34, op := Op.move (Operand.tmp 4), type := 25, pos := p, after := #[], guard := none }
def oKT105 (p : String) : Oper := { dst := some 35, op := Op.move (Operand.tmp 6), type := 3, pos := p, after := #[], guard := none }
def oKT106 (p : String) : Oper := { dst := some 36, op := Op.indexAddr 25 (Operand.tmp 34) (Operand.tmp 35), type := 0, pos := p, after := #[{ on := 4, ground := Ground.data }, { on := 5, ground := Ground.data }], guard := none }
def oKT107 (p : String) : Oper := { dst := some 37, op := Op.load 3 (Operand.tmp 36), type := 3, pos := p, after := #[{ on := 6, ground := Ground.data }], guard := none }
def oKT108 (p : String) : Oper := { dst := some 38, op := Op.binOp BinOp.neq 3 (Operand.tmp 33) (Operand.tmp 37) 3, type := 4, pos := p, after := #[{ on := 3, ground := Ground.data }, { on := 7, ground := Ground.data }], guard := none }
def oKT109 (p : String) : Oper := { dst := some 39, op := Op.move (Operand.tmp 38), type := 4, pos := p, after := #[{ on := 8, ground := Ground.data }], guard := none }
def oKT1010 (p : String) : Oper := { dst := some 40, op := Op.move (Operand.tmp 0), type := 22, pos := p, after := #[{ on := 9, ground := Ground.guard }], guard := some (9, false) }
def oKT1011 (p : String) : Oper := { dst := some 41, op := Op.move (Operand.tmp 6), type := 3, pos := p, after := #[{ on := 9, ground := Ground.guard }], guard := some (9, false) }
def oKT1012 (p : String) : Oper := { dst := some 42, op := Op.indexAddr 22 (Operand.tmp 40) (Operand.tmp 41), type := 0, pos := p, after := #[{ on := 10, ground := Ground.data }, { on := 11, ground := Ground.data }, { on := 9, ground := Ground.guard }], guard := some (9, false) }
def oKT1013 (p : String) : Oper := { dst := some 43, op := Op.load 31 (Operand.tmp 42), type := 31, pos := p, after := #[{ on := 12, ground := Ground.data }, { on := 9, ground := Ground.guard }], guard := some (9, false) }
def oKT1014 (p : String) : Oper := { dst := some 44, op := Op.call { callee := Callee.value (Operand.func 9), args := #[Operand.tmp 43], argTypes := #[31] }, type := 4, pos := p, after := #[{ on := 13, ground := Ground.data }, { on := 9, ground := Ground.chain }, { on := 9, ground := Ground.guard }], guard := some (9, false) }
def oKT1015 (p : String) : Oper := { dst := some 45, op := Op.move (Operand.tmp 0), type := 22, pos := p, after := #[{ on := 9, ground := Ground.guard }], guard := some (9, false) }
def oKT1016 (p : String) : Oper := { dst := some 46, op := Op.move (Operand.tmp 6), type := 3, pos := p, after := #[{ on := 9, ground := Ground.guard }], guard := some (9, false) }
def oKT1017 (p : String) : Oper := { dst := some 47, op := Op.indexAddr 22 (Operand.tmp 45) (Operand.tmp 46), type := 0, pos := p, after := #[{ on := 15, ground := Ground.data }, { on := 16, ground := Ground.data }, { on := 9, ground := Ground.guard }], guard := some (9, false) }
def oKT1018 (p : String) : Oper := { dst := some 48, op := Op.load 31 (Operand.tmp 47), type := 31, pos := p, after := #[{ on := 17, ground := Ground.data }, { on := 9, ground := Ground.guard }], guard := some (9, false) }
def oKT1019 (p : String) : Oper := { dst := some 49, op := Op.call { callee := Callee.value (Operand.func 10), args := #[Operand.tmp 48], argTypes := #[31] }, type := 4, pos := p, after := #[{ on := 18, ground := Ground.data }, { on := 14, ground := Ground.chain }, { on := 9, ground := Ground.guard }], guard := some (9, false) }
def oKT1020 (p : String) : Oper := { dst := some 50, op := Op.binOp BinOp.neq 4 (Operand.tmp 44) (Operand.tmp 49) 4, type := 4, pos := p, after := #[{ on := 14, ground := Ground.data }, { on := 19, ground := Ground.data }, { on := 9, ground := Ground.guard }], guard := some (9, false) }
def oKT1021 (p : String) : Oper := { dst := some 51, op := Op.pick (Operand.tmp 39) (Operand.const (Value.bool true)) (Operand.tmp 50), type := 4, pos := p, after := #[{ on := 9, ground := Ground.data }, { on := 20, ground := Ground.data }], guard := none }
def opsKT10 (p : String) : List Oper := [oKT100 p, oKT101 p, oKT102 p, oKT103 p, oKT104 p, oKT105 p, oKT106 p, oKT107 p, oKT108 p, oKT109 p, oKT1010 p, oKT1011 p, oKT1012 p, oKT1013 p, oKT1014 p, oKT1015 p, oKT1016 p, oKT1017 p, oKT1018 p, oKT1019 p, oKT1020 p, oKT1021 p]
theorem opsKT10_back (p : String) : backwards (opsKT10 p) = true := by kernel_rfl
theorem opsKT10_slots (p : String) : slotsOk 160 (opsKT10 p) = true := by kernel_rfl
/-- What each slot comes to. -/
def psiKT10 (b o L c q va oa ca vb ob cb vn : Nat) (y : CmdV) (r : Bool) : Nat → Value → World → Prop
  | 0, v, _ => v = .slice (some ⟨va, oa, none⟩) L ca
  | 1, v, _ => v = .int .i64 (q : Int)
  | 2, v, _ => v = .pointer (some ⟨va, oa + q, none⟩)
  | 3, v, _ => v = .int .i64 (vn : Int)
  | 4, v, _ => v = .slice (some ⟨vb, ob, none⟩) L cb
  | 5, v, _ => v = .int .i64 (q : Int)
  | 6, v, _ => v = .pointer (some ⟨vb, ob + q, none⟩)
  | 7, v, _ => v = .int .i64 (vn : Int)
  | 8, v, _ => v = .bool false
  | 9, v, _ => v = .bool false
  | 10, v, _ => v = .slice (some ⟨b, o, none⟩) L c
  | 11, v, _ => v = .int .i64 (q : Int)
  | 12, v, _ => v = .pointer (some ⟨b, o + q * 7, none⟩)
  | 13, v, _ => v = y.val
  | 14, v, _ => v = .bool r
  | 15, v, _ => v = .slice (some ⟨b, o, none⟩) L c
  | 16, v, _ => v = .int .i64 (q : Int)
  | 17, v, _ => v = .pointer (some ⟨b, o + q * 7, none⟩)
  | 18, v, _ => v = y.val
  | 19, v, _ => v = .bool r
  | 20, v, _ => v = .bool false
  | 21, v, _ => v = .bool false
  | _, _, _ => True
theorem psiKT10_grew (b o L c q va oa ca vb ob cb vn : Nat) (y : CmdV) (r : Bool) : ∀ i v w w', psiKT10 b o L c q va oa ca vb ob cb vn y r i v w → Grew w w' → psiKT10 b o L c q va oa ca vb ob cb vn y r i v w' := by
  intro i v w w' h hg
  rcases i with _ | _ | _ | _ | _ | _ | _ | _ | _ | _ | _ | _ | _ | _ | _ | _ | _ | _ | _ | _ | _ | _ | i
  · exact h
  · exact h
  · exact h
  · exact h
  · exact h
  · exact h
  · exact h
  · exact h
  · exact h
  · exact h
  · exact h
  · exact h
  · exact h
  · exact h
  · exact h
  · exact h
  · exact h
  · exact h
  · exact h
  · exact h
  · exact h
  · exact h
  · trivial
set_option maxRecDepth 100000 in
set_option maxHeartbeats 4000000 in
theorem ktlone {p : String} (b o L c q va oa ca vb ob cb vn : Nat) (y : CmdV) (r : Bool) (hi : q < L) (a : Act) (w : World) (Q : Exit → Act → World → Prop) (hN : a.tmps.size = 160) (h0 : a.tmps.getD 0 undef = .slice (some ⟨b, o, none⟩) L c) (h3 : a.tmps.getD 3 undef = .slice (some ⟨va, oa, none⟩) L ca) (h4 : a.tmps.getD 4 undef = .slice (some ⟨vb, ob, none⟩) L cb) (h6 : a.tmps.getD 6 undef = .int .i64 (q : Int)) (hb : b < w.heap.size) (hy : ∀ j u, y.cells[j]? = some u → w.cell? ⟨b, o + q * 7 + j, none⟩ = some u) (hva : va < w.heap.size) (hvb : vb < w.heap.size) (hca : w.cell? ⟨va, oa + q, none⟩ = some (.int .i64 (vn : Int))) (hcb : w.cell? ⟨vb, ob + q, none⟩ = some (.int .i64 (vn : Int))) (hK : ∀ w', Grew w w' → Calls Try.prog 9 #[y.val] w' fun e W' => e = .returned (.bool r) ∧ Below w'.heap.size w' W') (hRf : ∀ w', Grew w w' → Calls Try.prog 10 #[y.val] w' fun e W' => e = .returned (.bool r) ∧ Below w'.heap.size w' W') (hQ : ∀ (w' : World), Grew w w' → Q .normal (puts [(30, .slice (some ⟨va, oa, none⟩) L ca), (31, .int .i64 (q : Int)), (32, .pointer (some ⟨va, oa + q, none⟩)), (33, .int .i64 (vn : Int)), (34, .slice (some ⟨vb, ob, none⟩) L cb), (35, .int .i64 (q : Int)), (36, .pointer (some ⟨vb, ob + q, none⟩)), (37, .int .i64 (vn : Int)), (38, .bool false), (39, .bool false), (40, .slice (some ⟨b, o, none⟩) L c), (41, .int .i64 (q : Int)), (42, .pointer (some ⟨b, o + q * 7, none⟩)), (43, y.val), (44, .bool r), (45, .slice (some ⟨b, o, none⟩) L c), (46, .int .i64 (q : Int)), (47, .pointer (some ⟨b, o + q * 7, none⟩)), (48, y.val), (49, .bool r), (50, .bool false), (51, .bool false)] a) w')
    : (Code.region 10 (opsKT10 p).toArray true).wp Try.prog Q a w := by
  refine (wpIn_wide (n := 1)).1 (wpIn_region_vals 160 hN follows (opsKT10_back p) (opsKT10_slots p) Grew Grew.refl Grew.trans (psiKT10 b o L c q va oa ca vb ob cb vn y r) (psiKT10_grew b o L c q va oa ca vb ob cb vn y r) ?_ ?_)
  · intro i o d ho hd a' w' hF hR hp
    rcases i with _ | _ | _ | _ | _ | _ | _ | _ | _ | _ | _ | _ | _ | _ | _ | _ | _ | _ | _ | _ | _ | _ | i
    · obtain rfl : oKT100 p = o := Option.some.inj ho
      obtain rfl : 30 = d := Option.some.inj hd
      exact step_move rfl rfl rfl (hF.at 3 rfl h3) ⟨_, rfl, rfl, Grew.refl _⟩
    · obtain rfl : oKT101 p = o := Option.some.inj ho
      obtain rfl : 31 = d := Option.some.inj hd
      exact step_move rfl rfl rfl (hF.at 6 rfl h6) ⟨_, rfl, rfl, Grew.refl _⟩
    · obtain rfl : oKT102 p = o := Option.some.inj ho
      obtain rfl : 32 = d := Option.some.inj hd
      have q0 : a'.tmps.getD 30 undef = .slice (some ⟨va, oa, none⟩) L ca := hp 0 (oKT100 p) 30 rfl rfl rfl
      have q1 : a'.tmps.getD 31 undef = .int .i64 (q : Int) := hp 1 (oKT101 p) 31 rfl rfl rfl
      exact step_index rfl rfl rfl q0 q1 (run_ixI _ _ _ _ _ _ hi) ⟨_, rfl, rfl, Grew.refl _⟩
    · obtain rfl : oKT103 p = o := Option.some.inj ho
      obtain rfl : 33 = d := Option.some.inj hd
      have q2 : a'.tmps.getD 32 undef = .pointer (some ⟨va, oa + q, none⟩) := hp 2 (oKT102 p) 32 rfl rfl rfl
      exact step_load rfl rfl rfl q2 (run_ldI _ _ _ ((Below.cell hR.undraw (p := ⟨va, oa + q, none⟩) hva).trans hca)) ⟨_, rfl, rfl, Grew.refl _⟩
    · obtain rfl : oKT104 p = o := Option.some.inj ho
      obtain rfl : 34 = d := Option.some.inj hd
      exact step_move rfl rfl rfl (hF.at 4 rfl h4) ⟨_, rfl, rfl, Grew.refl _⟩
    · obtain rfl : oKT105 p = o := Option.some.inj ho
      obtain rfl : 35 = d := Option.some.inj hd
      exact step_move rfl rfl rfl (hF.at 6 rfl h6) ⟨_, rfl, rfl, Grew.refl _⟩
    · obtain rfl : oKT106 p = o := Option.some.inj ho
      obtain rfl : 36 = d := Option.some.inj hd
      have q4 : a'.tmps.getD 34 undef = .slice (some ⟨vb, ob, none⟩) L cb := hp 4 (oKT104 p) 34 rfl rfl rfl
      have q5 : a'.tmps.getD 35 undef = .int .i64 (q : Int) := hp 5 (oKT105 p) 35 rfl rfl rfl
      exact step_index rfl rfl rfl q4 q5 (run_ixI _ _ _ _ _ _ hi) ⟨_, rfl, rfl, Grew.refl _⟩
    · obtain rfl : oKT107 p = o := Option.some.inj ho
      obtain rfl : 37 = d := Option.some.inj hd
      have q6 : a'.tmps.getD 36 undef = .pointer (some ⟨vb, ob + q, none⟩) := hp 6 (oKT106 p) 36 rfl rfl rfl
      exact step_load rfl rfl rfl q6 (run_ldI _ _ _ ((Below.cell hR.undraw (p := ⟨vb, ob + q, none⟩) hvb).trans hcb)) ⟨_, rfl, rfl, Grew.refl _⟩
    · obtain rfl : oKT108 p = o := Option.some.inj ho
      obtain rfl : 38 = d := Option.some.inj hd
      have q3 : a'.tmps.getD 33 undef = .int .i64 (vn : Int) := hp 3 (oKT103 p) 33 rfl rfl rfl
      have q7 : a'.tmps.getD 37 undef = .int .i64 (vn : Int) := hp 7 (oKT107 p) 37 rfl rfl rfl
      exact step_bin rfl rfl rfl q3 q7 (guard_int _ _ _ _ _ _ _ _ _) (run_neqSame _ _ _) ⟨_, rfl, rfl, Grew.refl _⟩
    · obtain rfl : oKT109 p = o := Option.some.inj ho
      obtain rfl : 39 = d := Option.some.inj hd
      have q8 : a'.tmps.getD 38 undef = .bool false := hp 8 (oKT108 p) 38 rfl rfl rfl
      exact step_move rfl rfl rfl q8 ⟨_, rfl, rfl, Grew.refl _⟩
    · obtain rfl : oKT1010 p = o := Option.some.inj ho
      obtain rfl : 40 = d := Option.some.inj hd
      have q9 : a'.tmps.getD 39 undef = .bool false := hp 9 (oKT109 p) 39 rfl rfl rfl
      exact step_move rfl (wanted_on rfl (show (opsKT10 p).toArray[9]? = some (oKT109 p) from rfl) rfl q9) rfl (hF.at 0 rfl h0) ⟨_, rfl, rfl, Grew.refl _⟩
    · obtain rfl : oKT1011 p = o := Option.some.inj ho
      obtain rfl : 41 = d := Option.some.inj hd
      have q9 : a'.tmps.getD 39 undef = .bool false := hp 9 (oKT109 p) 39 rfl rfl rfl
      exact step_move rfl (wanted_on rfl (show (opsKT10 p).toArray[9]? = some (oKT109 p) from rfl) rfl q9) rfl (hF.at 6 rfl h6) ⟨_, rfl, rfl, Grew.refl _⟩
    · obtain rfl : oKT1012 p = o := Option.some.inj ho
      obtain rfl : 42 = d := Option.some.inj hd
      have q9 : a'.tmps.getD 39 undef = .bool false := hp 9 (oKT109 p) 39 rfl rfl rfl
      have q10 : a'.tmps.getD 40 undef = .slice (some ⟨b, o, none⟩) L c := hp 10 (oKT1010 p) 40 rfl rfl rfl
      have q11 : a'.tmps.getD 41 undef = .int .i64 (q : Int) := hp 11 (oKT1011 p) 41 rfl rfl rfl
      exact step_index rfl (wanted_on rfl (show (opsKT10 p).toArray[9]? = some (oKT109 p) from rfl) rfl q9) rfl q10 q11 (run_ixC _ _ _ _ _ _ hi) ⟨_, rfl, rfl, Grew.refl _⟩
    · obtain rfl : oKT1013 p = o := Option.some.inj ho
      obtain rfl : 43 = d := Option.some.inj hd
      have q9 : a'.tmps.getD 39 undef = .bool false := hp 9 (oKT109 p) 39 rfl rfl rfl
      have q12 : a'.tmps.getD 42 undef = .pointer (some ⟨b, o + q * 7, none⟩) := hp 12 (oKT1012 p) 42 rfl rfl rfl
      exact step_load rfl (wanted_on rfl (show (opsKT10 p).toArray[9]? = some (oKT109 p) from rfl) rfl q9) rfl q12 (run_ldC _ _ _ _ (fun i u hu => (Below.cell hR.undraw (p := ⟨b, o + q * 7 + i, none⟩) hb).trans (hy i u hu))) ⟨_, rfl, rfl, Grew.refl _⟩
    · obtain rfl : oKT1014 p = o := Option.some.inj ho
      obtain rfl : 44 = d := Option.some.inj hd
      have q9 : a'.tmps.getD 39 undef = .bool false := hp 9 (oKT109 p) 39 rfl rfl rfl
      have q13 : a'.tmps.getD 43 undef = y.val := hp 13 (oKT1013 p) 43 rfl rfl rfl
      refine step_callD rfl (wanted_on rfl (show (opsKT10 p).toArray[9]? = some (oKT109 p) from rfl) rfl q9) rfl (enters_of Try.func9 (by kernel_rfl) rfl) (show Array.map a'.eval #[.tmp 43] = _ from by simp only [List.map_toArray, List.map_cons, List.map_nil, Act.eval, q13]) ((hK w' hR.undraw).mono ?_)
      rintro e w'' ⟨rfl, hb⟩
      exact ⟨_, rfl, _, rfl, rfl, hb⟩
    · obtain rfl : oKT1015 p = o := Option.some.inj ho
      obtain rfl : 45 = d := Option.some.inj hd
      have q9 : a'.tmps.getD 39 undef = .bool false := hp 9 (oKT109 p) 39 rfl rfl rfl
      exact step_move rfl (wanted_on rfl (show (opsKT10 p).toArray[9]? = some (oKT109 p) from rfl) rfl q9) rfl (hF.at 0 rfl h0) ⟨_, rfl, rfl, Grew.refl _⟩
    · obtain rfl : oKT1016 p = o := Option.some.inj ho
      obtain rfl : 46 = d := Option.some.inj hd
      have q9 : a'.tmps.getD 39 undef = .bool false := hp 9 (oKT109 p) 39 rfl rfl rfl
      exact step_move rfl (wanted_on rfl (show (opsKT10 p).toArray[9]? = some (oKT109 p) from rfl) rfl q9) rfl (hF.at 6 rfl h6) ⟨_, rfl, rfl, Grew.refl _⟩
    · obtain rfl : oKT1017 p = o := Option.some.inj ho
      obtain rfl : 47 = d := Option.some.inj hd
      have q9 : a'.tmps.getD 39 undef = .bool false := hp 9 (oKT109 p) 39 rfl rfl rfl
      have q15 : a'.tmps.getD 45 undef = .slice (some ⟨b, o, none⟩) L c := hp 15 (oKT1015 p) 45 rfl rfl rfl
      have q16 : a'.tmps.getD 46 undef = .int .i64 (q : Int) := hp 16 (oKT1016 p) 46 rfl rfl rfl
      exact step_index rfl (wanted_on rfl (show (opsKT10 p).toArray[9]? = some (oKT109 p) from rfl) rfl q9) rfl q15 q16 (run_ixC _ _ _ _ _ _ hi) ⟨_, rfl, rfl, Grew.refl _⟩
    · obtain rfl : oKT1018 p = o := Option.some.inj ho
      obtain rfl : 48 = d := Option.some.inj hd
      have q9 : a'.tmps.getD 39 undef = .bool false := hp 9 (oKT109 p) 39 rfl rfl rfl
      have q17 : a'.tmps.getD 47 undef = .pointer (some ⟨b, o + q * 7, none⟩) := hp 17 (oKT1017 p) 47 rfl rfl rfl
      exact step_load rfl (wanted_on rfl (show (opsKT10 p).toArray[9]? = some (oKT109 p) from rfl) rfl q9) rfl q17 (run_ldC _ _ _ _ (fun i u hu => (Below.cell hR.undraw (p := ⟨b, o + q * 7 + i, none⟩) hb).trans (hy i u hu))) ⟨_, rfl, rfl, Grew.refl _⟩
    · obtain rfl : oKT1019 p = o := Option.some.inj ho
      obtain rfl : 49 = d := Option.some.inj hd
      have q9 : a'.tmps.getD 39 undef = .bool false := hp 9 (oKT109 p) 39 rfl rfl rfl
      have q18 : a'.tmps.getD 48 undef = y.val := hp 18 (oKT1018 p) 48 rfl rfl rfl
      refine step_callD rfl (wanted_on rfl (show (opsKT10 p).toArray[9]? = some (oKT109 p) from rfl) rfl q9) rfl (enters_of Try.func10 (by kernel_rfl) rfl) (show Array.map a'.eval #[.tmp 48] = _ from by simp only [List.map_toArray, List.map_cons, List.map_nil, Act.eval, q18]) ((hRf w' hR.undraw).mono ?_)
      rintro e w'' ⟨rfl, hb⟩
      exact ⟨_, rfl, _, rfl, rfl, hb⟩
    · obtain rfl : oKT1020 p = o := Option.some.inj ho
      obtain rfl : 50 = d := Option.some.inj hd
      have q9 : a'.tmps.getD 39 undef = .bool false := hp 9 (oKT109 p) 39 rfl rfl rfl
      have q14 : a'.tmps.getD 44 undef = .bool r := hp 14 (oKT1014 p) 44 rfl rfl rfl
      have q19 : a'.tmps.getD 49 undef = .bool r := hp 19 (oKT1019 p) 49 rfl rfl rfl
      exact step_bin rfl (wanted_on rfl (show (opsKT10 p).toArray[9]? = some (oKT109 p) from rfl) rfl q9) rfl q14 q19 (guard_bool _ _ _ _ _ _ _) (run_neqB _ _) ⟨_, rfl, rfl, Grew.refl _⟩
    · obtain rfl : oKT1021 p = o := Option.some.inj ho
      obtain rfl : 51 = d := Option.some.inj hd
      have q9 : a'.tmps.getD 39 undef = .bool false := hp 9 (oKT109 p) 39 rfl rfl rfl
      have q20 : a'.tmps.getD 50 undef = .bool false := hp 20 (oKT1020 p) 50 rfl rfl rfl
      exact step_pick rfl rfl rfl q9 (show (if false = true then _ else a'.tmps.getD 50 undef) = _ from q20) ⟨_, rfl, rfl, Grew.refl _⟩
    · exact absurd ((Array.getElem?_eq_some_iff.1 ho).1) (by simp [opsKT10])
  · intro a' w' hF hR hp
    have e0 : psiKT10 b o L c q va oa ca vb ob cb vn y r 0 (a'.tmps.getD 30 undef) w' := hp 0 (oKT100 p) 30 rfl rfl
    have e1 : psiKT10 b o L c q va oa ca vb ob cb vn y r 1 (a'.tmps.getD 31 undef) w' := hp 1 (oKT101 p) 31 rfl rfl
    have e2 : psiKT10 b o L c q va oa ca vb ob cb vn y r 2 (a'.tmps.getD 32 undef) w' := hp 2 (oKT102 p) 32 rfl rfl
    have e3 : psiKT10 b o L c q va oa ca vb ob cb vn y r 3 (a'.tmps.getD 33 undef) w' := hp 3 (oKT103 p) 33 rfl rfl
    have e4 : psiKT10 b o L c q va oa ca vb ob cb vn y r 4 (a'.tmps.getD 34 undef) w' := hp 4 (oKT104 p) 34 rfl rfl
    have e5 : psiKT10 b o L c q va oa ca vb ob cb vn y r 5 (a'.tmps.getD 35 undef) w' := hp 5 (oKT105 p) 35 rfl rfl
    have e6 : psiKT10 b o L c q va oa ca vb ob cb vn y r 6 (a'.tmps.getD 36 undef) w' := hp 6 (oKT106 p) 36 rfl rfl
    have e7 : psiKT10 b o L c q va oa ca vb ob cb vn y r 7 (a'.tmps.getD 37 undef) w' := hp 7 (oKT107 p) 37 rfl rfl
    have e8 : psiKT10 b o L c q va oa ca vb ob cb vn y r 8 (a'.tmps.getD 38 undef) w' := hp 8 (oKT108 p) 38 rfl rfl
    have e9 : psiKT10 b o L c q va oa ca vb ob cb vn y r 9 (a'.tmps.getD 39 undef) w' := hp 9 (oKT109 p) 39 rfl rfl
    have e10 : psiKT10 b o L c q va oa ca vb ob cb vn y r 10 (a'.tmps.getD 40 undef) w' := hp 10 (oKT1010 p) 40 rfl rfl
    have e11 : psiKT10 b o L c q va oa ca vb ob cb vn y r 11 (a'.tmps.getD 41 undef) w' := hp 11 (oKT1011 p) 41 rfl rfl
    have e12 : psiKT10 b o L c q va oa ca vb ob cb vn y r 12 (a'.tmps.getD 42 undef) w' := hp 12 (oKT1012 p) 42 rfl rfl
    have e13 : psiKT10 b o L c q va oa ca vb ob cb vn y r 13 (a'.tmps.getD 43 undef) w' := hp 13 (oKT1013 p) 43 rfl rfl
    have e14 : psiKT10 b o L c q va oa ca vb ob cb vn y r 14 (a'.tmps.getD 44 undef) w' := hp 14 (oKT1014 p) 44 rfl rfl
    have e15 : psiKT10 b o L c q va oa ca vb ob cb vn y r 15 (a'.tmps.getD 45 undef) w' := hp 15 (oKT1015 p) 45 rfl rfl
    have e16 : psiKT10 b o L c q va oa ca vb ob cb vn y r 16 (a'.tmps.getD 46 undef) w' := hp 16 (oKT1016 p) 46 rfl rfl
    have e17 : psiKT10 b o L c q va oa ca vb ob cb vn y r 17 (a'.tmps.getD 47 undef) w' := hp 17 (oKT1017 p) 47 rfl rfl
    have e18 : psiKT10 b o L c q va oa ca vb ob cb vn y r 18 (a'.tmps.getD 48 undef) w' := hp 18 (oKT1018 p) 48 rfl rfl
    have e19 : psiKT10 b o L c q va oa ca vb ob cb vn y r 19 (a'.tmps.getD 49 undef) w' := hp 19 (oKT1019 p) 49 rfl rfl
    have e20 : psiKT10 b o L c q va oa ca vb ob cb vn y r 20 (a'.tmps.getD 50 undef) w' := hp 20 (oKT1020 p) 50 rfl rfl
    have e21 : psiKT10 b o L c q va oa ca vb ob cb vn y r 21 (a'.tmps.getD 51 undef) w' := hp 21 (oKT1021 p) 51 rfl rfl
    rw [hF.puts [(30, .slice (some ⟨va, oa, none⟩) L ca), (31, .int .i64 (q : Int)), (32, .pointer (some ⟨va, oa + q, none⟩)), (33, .int .i64 (vn : Int)), (34, .slice (some ⟨vb, ob, none⟩) L cb), (35, .int .i64 (q : Int)), (36, .pointer (some ⟨vb, ob + q, none⟩)), (37, .int .i64 (vn : Int)), (38, .bool false), (39, .bool false), (40, .slice (some ⟨b, o, none⟩) L c), (41, .int .i64 (q : Int)), (42, .pointer (some ⟨b, o + q * 7, none⟩)), (43, y.val), (44, .bool r), (45, .slice (some ⟨b, o, none⟩) L c), (46, .int .i64 (q : Int)), (47, .pointer (some ⟨b, o + q * 7, none⟩)), (48, y.val), (49, .bool r), (50, .bool false), (51, .bool false)] ?_ rfl (by rw [hN]; rfl)]
    · exact hQ  w'  hR.undraw
    · intro x hx
      simp only [List.mem_cons, List.not_mem_nil, or_false] at hx
      rcases hx with rfl | rfl | rfl | rfl | rfl | rfl | rfl | rfl | rfl | rfl | rfl | rfl | rfl | rfl | rfl | rfl | rfl | rfl | rfl | rfl | rfl | rfl
      · exact e0
      · exact e1
      · exact e2
      · exact e3
      · exact e4
      · exact e5
      · exact e6
      · exact e7
      · exact e8
      · exact e9
      · exact e10
      · exact e11
      · exact e12
      · exact e13
      · exact e14
      · exact e15
      · exact e16
      · exact e17
      · exact e18
      · exact e19
      · exact e20
      · exact e21
def oKT160 (p : String) : Oper := { dst := some 68, op := Op.move (Operand.tmp 0), type := 22, pos := p, after := #[], guard := none }
def oKT161 (p : String) : Oper := { dst := some 69, op := Op.move (Operand.tmp 6), type := 3, pos := p, after := #[], guard := none }
def oKT162 (p : String) : Oper := { dst := some 70, op := Op.indexAddr 22 (Operand.tmp 68) (Operand.tmp 69), type := 0, pos := p, after := #[{ on := 0, ground := Ground.data }, { on := 1, ground := Ground.data }], guard := none }
def oKT163 (p : String) : Oper := { dst := some 71, op := Op.load 31 (Operand.tmp 70), type := 31, pos := p, after := #[{ on := 2, ground := Ground.data }], guard := none }
def oKT164 (p : String) : Oper := { dst := some 72, op := Op.move (Operand.tmp 0), type := 22, pos := p, after := #[], guard := none }
def oKT165 (p : String) : Oper := { dst := some 73, op := Op.move (Operand.tmp 7), type := 3, pos := p, after := #[], guard := none }
def oKT166 (p : String) : Oper := { dst := some 74, op := Op.indexAddr 22 (Operand.tmp 72) (Operand.tmp 73), type := 0, pos := p, after := #[{ on := 4, ground := Ground.data }, { on := 5, ground := Ground.data }], guard := none }
def oKT167 (p : String) : Oper := { dst := some 75, op := Op.load 31 (Operand.tmp 74), type := 31, pos := p, after := #[{ on := 6, ground := Ground.data }], guard := none }
def oKT168 (p : String) : Oper := { dst := some 76, op := Op.call { callee := Callee.value (Operand.func 11), args := #[Operand.tmp 71, Operand.tmp 75], argTypes := #[31, 31] }, type := 4, pos := p, after := #[{ on := 3, ground := Ground.data }, { on := 7, ground := Ground.data }], guard := none }
def oKT169 (p : String) : Oper := { dst := some 77, op := Op.move (Operand.tmp 0), type := 22, pos := p, after := #[], guard := none }
def oKT1610 (p : String) : Oper := { dst := some 78, op := Op.move (Operand.tmp 6), type := 3, pos := p, after := #[], guard := none }
def oKT1611 (p : String) : Oper := { dst := some 79, op := Op.indexAddr 22 (Operand.tmp 77) (Operand.tmp 78), type := 0, pos := p, after := #[{ on := 9, ground := Ground.data }, { on := 10, ground := Ground.data }], guard := none }
def oKT1612 (p : String) : Oper := { dst := some 80, op := Op.load 31 (Operand.tmp 79), type := 31, pos := p, after := #[{ on := 11, ground := Ground.data }], guard := none }
def oKT1613 (p : String) : Oper := { dst := some 81, op := Op.move (Operand.tmp 0), type := 22, pos := p, after := #[], guard := none }
def oKT1614 (p : String) : Oper := { dst := some 82, op := Op.move (Operand.tmp 7), type := 3, pos := p, after := #[], guard := none }
def oKT1615 (p : String) : Oper := { dst := some 83, op := Op.indexAddr 22 (Operand.tmp 81) (Operand.tmp 82), type := 0, pos := p, after := #[{ on := 13, ground := Ground.data }, { on := 14, ground := Ground.data }], guard := none }
def oKT1616 (p : String) : Oper := { dst := some 84, op := Op.load 31 (Operand.tmp 83), type := 31, pos := p, after := #[{ on := 15, ground := Ground.data }], guard := none }
def oKT1617 (p : String) : Oper := { dst := some 85, op := Op.call { callee := Callee.value (Operand.func 12), args := #[Operand.tmp 80, Operand.tmp 84], argTypes := #[31, 31] }, type := 4, pos := p, after := #[{ on := 12, ground := Ground.data }, { on := 16, ground := Ground.data }, { on := 8, ground := Ground.chain }], guard := none }
def oKT1618 (p : String) : Oper := { dst := some 86, op := Op.binOp BinOp.neq 4 (Operand.tmp 76) (Operand.tmp 85) 4, type := 4, pos := p, after := #[{ on := 8, ground := Ground.data }, { on := 17, ground := Ground.data }], guard := none }
def oKT1619 (p : String) : Oper := { dst := some 87, op := Op.move (Operand.tmp 86), type := 4, pos := p, after := #[{ on := 18, ground := Ground.data }, { on := 17, ground := Ground.chain }], guard := none }
def oKT1620 (p : String) : Oper := { dst := some 88, op := Op.move (Operand.tmp 0), type := 22, pos := p, after := #[{ on := 19, ground := Ground.guard }], guard := some (19, false) }
def oKT1621 (p : String) : Oper := { dst := some 89, op := Op.move (Operand.tmp 7), type := 3, pos := p, after := #[{ on := 19, ground := Ground.guard }], guard := some (19, false) }
def oKT1622 (p : String) : Oper := { dst := some 90, op := Op.indexAddr 22 (Operand.tmp 88) (Operand.tmp 89), type := 0, pos := p, after := #[{ on := 20, ground := Ground.data }, { on := 21, ground := Ground.data }, { on := 19, ground := Ground.guard }], guard := some (19, false) }
def oKT1623 (p : String) : Oper := { dst := some 91, op := Op.load 31 (Operand.tmp 90), type := 31, pos := p, after := #[{ on := 22, ground := Ground.data }, { on := 19, ground := Ground.guard }], guard := some (19, false) }
def oKT1624 (p : String) : Oper := { dst := some 92, op := Op.move (Operand.tmp 0), type := 22, pos := p, after := #[{ on := 19, ground := Ground.guard }], guard := some (19, false) }
def oKT1625 (p : String) : Oper := { dst := some 93, op := Op.move (Operand.tmp 6), type := 3, pos := p, after := #[{ on := 19, ground := Ground.guard }], guard := some (19, false) }
def oKT1626 (p : String) : Oper := { dst := some 94, op := Op.indexAddr 22 (Operand.tmp 92) (Operand.tmp 93), type := 0, pos := p, after := #[{ on := 24, ground := Ground.data }, { on := 25, ground := Ground.data }, { on := 19, ground := Ground.guard }], guard := some (19, false) }
def oKT1627 (p : String) : Oper := { dst := some 95, op := Op.load 31 (Operand.tmp 94), type := 31, pos := p, after := #[{ on := 26, ground := Ground.data }, { on := 19, ground := Ground.guard }], guard := some (19, false) }
def oKT1628 (p : String) : Oper := { dst := some 96, op := Op.call { callee := Callee.value (Operand.func 11), args := #[Operand.tmp 91, Operand.tmp 95], argTypes := #[31, 31] }, type := 4, pos := p, after := #[{ on := 23, ground := Ground.data }, { on := 27, ground := Ground.data }, { on := 19, ground := Ground.chain }, { on := 19, ground := Ground.guard }], guard := some (19, false) }
def oKT1629 (p : String) : Oper := { dst := some 97, op := Op.move (Operand.tmp 0), type := 22, pos := p, after := #[{ on := 19, ground := Ground.guard }], guard := some (19, false) }
def oKT1630 (p : String) : Oper := { dst := some 98, op := Op.move (Operand.tmp 6), type := 3, pos := p, after := #[{ on := 19, ground := Ground.guard }], guard := some (19, false) }
def oKT1631 (p : String) : Oper := { dst := some 99, op := Op.indexAddr 22 (Operand.tmp 97) (Operand.tmp 98), type := 0, pos := p, after := #[{ on := 29, ground := Ground.data }, { on := 30, ground := Ground.data }, { on := 19, ground := Ground.guard }], guard := some (19, false) }
def oKT1632 (p : String) : Oper := { dst := some 100, op := Op.load 31 (Operand.tmp 99), type := 31, pos := p, after := #[{ on := 31, ground := Ground.data }, { on := 19, ground := Ground.guard }], guard := some (19, false) }
def oKT1633 (p : String) : Oper := { dst := some 101, op := Op.move (Operand.tmp 0), type := 22, pos := p, after := #[{ on := 19, ground := Ground.guard }], guard := some (19, false) }
def oKT1634 (p : String) : Oper := { dst := some 102, op := Op.move (Operand.tmp 7), type := 3, pos := p, after := #[{ on := 19, ground := Ground.guard }], guard := some (19, false) }
def oKT1635 (p : String) : Oper := { dst := some 103, op := Op.indexAddr 22 (Operand.tmp 101) (Operand.tmp 102), type := 0, pos := p, after := #[{ on := 33, ground := Ground.data }, { on := 34, ground := Ground.data }, { on := 19, ground := Ground.guard }], guard := some (19, false) }
def oKT1636 (p : String) : Oper := { dst := some 104, op := Op.load 31 (Operand.tmp 103), type := 31, pos := p, after := #[{ on := 35, ground := Ground.data }, { on := 19, ground := Ground.guard }], guard := some (19, false) }
def oKT1637 (p : String) : Oper := { dst := some 105, op := Op.call { callee := Callee.value (Operand.func 12), args := #[Operand.tmp 100, Operand.tmp 104], argTypes := #[31, 31] }, type := 4, pos := p, after := #[{ on := 32, ground := Ground.data }, { on := 36, ground := Ground.data }, { on := 28, ground := Ground.chain }, { on := 19, ground := Ground.guard }], guard := some (19, false) }
def oKT1638 (p : String) : Oper := { dst := some 106, op := Op.binOp BinOp.neq 4 (Operand.tmp 96) (Operand.tmp 105) 4, type := 4, pos := p, after := #[{ on := 28, ground := Ground.data }, { on := 37, ground := Ground.data }, { on := 19, ground := Ground.guard }], guard := some (19, false) }
def oKT1639 (p : String) : Oper := { dst := some 107, op := Op.pick (Operand.tmp 87) (Operand.const (Value.bool true)) (Operand.tmp 106), type := 4, pos := p, after := #[{ on := 19, ground := Ground.data }, { on := 38, ground := Ground.data }], guard := none }
def opsKT16 (p : String) : List Oper := [oKT160 p, oKT161 p, oKT162 p, oKT163 p, oKT164 p, oKT165 p, oKT166 p, oKT167 p, oKT168 p, oKT169 p, oKT1610 p, oKT1611 p, oKT1612 p, oKT1613 p, oKT1614 p, oKT1615 p, oKT1616 p, oKT1617 p, oKT1618 p, oKT1619 p, oKT1620 p, oKT1621 p, oKT1622 p, oKT1623 p, oKT1624 p, oKT1625 p, oKT1626 p, oKT1627 p, oKT1628 p, oKT1629 p, oKT1630 p, oKT1631 p, oKT1632 p, oKT1633 p, oKT1634 p, oKT1635 p, oKT1636 p, oKT1637 p, oKT1638 p, oKT1639 p]
theorem opsKT16_back (p : String) : backwards (opsKT16 p) = true := by kernel_rfl
theorem opsKT16_slots (p : String) : slotsOk 160 (opsKT16 p) = true := by kernel_rfl
/-- What each slot comes to. -/
def psiKT16 (b o L c k q : Nat) (x y : CmdV) (r : Bool) : Nat → Value → World → Prop
  | 0, v, _ => v = .slice (some ⟨b, o, none⟩) L c
  | 1, v, _ => v = .int .i64 (q : Int)
  | 2, v, _ => v = .pointer (some ⟨b, o + q * 7, none⟩)
  | 3, v, _ => v = y.val
  | 4, v, _ => v = .slice (some ⟨b, o, none⟩) L c
  | 5, v, _ => v = .int .i64 (k : Int)
  | 6, v, _ => v = .pointer (some ⟨b, o + k * 7, none⟩)
  | 7, v, _ => v = x.val
  | 8, v, _ => v = .bool r
  | 9, v, _ => v = .slice (some ⟨b, o, none⟩) L c
  | 10, v, _ => v = .int .i64 (q : Int)
  | 11, v, _ => v = .pointer (some ⟨b, o + q * 7, none⟩)
  | 12, v, _ => v = y.val
  | 13, v, _ => v = .slice (some ⟨b, o, none⟩) L c
  | 14, v, _ => v = .int .i64 (k : Int)
  | 15, v, _ => v = .pointer (some ⟨b, o + k * 7, none⟩)
  | 16, v, _ => v = x.val
  | 17, v, _ => v = .bool r
  | 18, v, _ => v = .bool false
  | 19, v, _ => v = .bool false
  | 20, v, _ => v = .slice (some ⟨b, o, none⟩) L c
  | 21, v, _ => v = .int .i64 (k : Int)
  | 22, v, _ => v = .pointer (some ⟨b, o + k * 7, none⟩)
  | 23, v, _ => v = x.val
  | 24, v, _ => v = .slice (some ⟨b, o, none⟩) L c
  | 25, v, _ => v = .int .i64 (q : Int)
  | 26, v, _ => v = .pointer (some ⟨b, o + q * 7, none⟩)
  | 27, v, _ => v = y.val
  | 28, v, _ => v = .bool r
  | 29, v, _ => v = .slice (some ⟨b, o, none⟩) L c
  | 30, v, _ => v = .int .i64 (q : Int)
  | 31, v, _ => v = .pointer (some ⟨b, o + q * 7, none⟩)
  | 32, v, _ => v = y.val
  | 33, v, _ => v = .slice (some ⟨b, o, none⟩) L c
  | 34, v, _ => v = .int .i64 (k : Int)
  | 35, v, _ => v = .pointer (some ⟨b, o + k * 7, none⟩)
  | 36, v, _ => v = x.val
  | 37, v, _ => v = .bool r
  | 38, v, _ => v = .bool false
  | 39, v, _ => v = .bool false
  | _, _, _ => True
theorem psiKT16_grew (b o L c k q : Nat) (x y : CmdV) (r : Bool) : ∀ i v w w', psiKT16 b o L c k q x y r i v w → Grew w w' → psiKT16 b o L c k q x y r i v w' := by
  intro i v w w' h hg
  rcases i with _ | _ | _ | _ | _ | _ | _ | _ | _ | _ | _ | _ | _ | _ | _ | _ | _ | _ | _ | _ | _ | _ | _ | _ | _ | _ | _ | _ | _ | _ | _ | _ | _ | _ | _ | _ | _ | _ | _ | _ | i
  · exact h
  · exact h
  · exact h
  · exact h
  · exact h
  · exact h
  · exact h
  · exact h
  · exact h
  · exact h
  · exact h
  · exact h
  · exact h
  · exact h
  · exact h
  · exact h
  · exact h
  · exact h
  · exact h
  · exact h
  · exact h
  · exact h
  · exact h
  · exact h
  · exact h
  · exact h
  · exact h
  · exact h
  · exact h
  · exact h
  · exact h
  · exact h
  · exact h
  · exact h
  · exact h
  · exact h
  · exact h
  · exact h
  · exact h
  · exact h
  · trivial
set_option maxRecDepth 100000 in
set_option maxHeartbeats 4000000 in
theorem ktway {p : String} (b o L c k q : Nat) (x y : CmdV) (r : Bool) (hk : k < L) (hi : q < L) (a : Act) (w : World) (Q : Exit → Act → World → Prop) (hN : a.tmps.size = 160) (h0 : a.tmps.getD 0 undef = .slice (some ⟨b, o, none⟩) L c) (h6 : a.tmps.getD 6 undef = .int .i64 (q : Int)) (h7 : a.tmps.getD 7 undef = .int .i64 (k : Int)) (hb : b < w.heap.size) (hx : ∀ j u, x.cells[j]? = some u → w.cell? ⟨b, o + k * 7 + j, none⟩ = some u) (hy : ∀ j u, y.cells[j]? = some u → w.cell? ⟨b, o + q * 7 + j, none⟩ = some u) (hK1 : ∀ w', Grew w w' → Calls Try.prog 11 #[y.val, x.val] w' fun e W' => e = .returned (.bool r) ∧ Below w'.heap.size w' W') (hK2 : ∀ w', Grew w w' → Calls Try.prog 11 #[x.val, y.val] w' fun e W' => e = .returned (.bool r) ∧ Below w'.heap.size w' W') (hRf : ∀ w', Grew w w' → Calls Try.prog 12 #[y.val, x.val] w' fun e W' => e = .returned (.bool r) ∧ Below w'.heap.size w' W') (hQ : ∀ (w' : World), Grew w w' → Q .normal (puts [(68, .slice (some ⟨b, o, none⟩) L c), (69, .int .i64 (q : Int)), (70, .pointer (some ⟨b, o + q * 7, none⟩)), (71, y.val), (72, .slice (some ⟨b, o, none⟩) L c), (73, .int .i64 (k : Int)), (74, .pointer (some ⟨b, o + k * 7, none⟩)), (75, x.val), (76, .bool r), (77, .slice (some ⟨b, o, none⟩) L c), (78, .int .i64 (q : Int)), (79, .pointer (some ⟨b, o + q * 7, none⟩)), (80, y.val), (81, .slice (some ⟨b, o, none⟩) L c), (82, .int .i64 (k : Int)), (83, .pointer (some ⟨b, o + k * 7, none⟩)), (84, x.val), (85, .bool r), (86, .bool false), (87, .bool false), (88, .slice (some ⟨b, o, none⟩) L c), (89, .int .i64 (k : Int)), (90, .pointer (some ⟨b, o + k * 7, none⟩)), (91, x.val), (92, .slice (some ⟨b, o, none⟩) L c), (93, .int .i64 (q : Int)), (94, .pointer (some ⟨b, o + q * 7, none⟩)), (95, y.val), (96, .bool r), (97, .slice (some ⟨b, o, none⟩) L c), (98, .int .i64 (q : Int)), (99, .pointer (some ⟨b, o + q * 7, none⟩)), (100, y.val), (101, .slice (some ⟨b, o, none⟩) L c), (102, .int .i64 (k : Int)), (103, .pointer (some ⟨b, o + k * 7, none⟩)), (104, x.val), (105, .bool r), (106, .bool false), (107, .bool false)] a) w')
    : (Code.region 16 (opsKT16 p).toArray true).wp Try.prog Q a w := by
  refine (wpIn_wide (n := 1)).1 (wpIn_region_vals 160 hN follows (opsKT16_back p) (opsKT16_slots p) Grew Grew.refl Grew.trans (psiKT16 b o L c k q x y r) (psiKT16_grew b o L c k q x y r) ?_ ?_)
  · intro i o d ho hd a' w' hF hR hp
    rcases i with _ | _ | _ | _ | _ | _ | _ | _ | _ | _ | _ | _ | _ | _ | _ | _ | _ | _ | _ | _ | _ | _ | _ | _ | _ | _ | _ | _ | _ | _ | _ | _ | _ | _ | _ | _ | _ | _ | _ | _ | i
    · obtain rfl : oKT160 p = o := Option.some.inj ho
      obtain rfl : 68 = d := Option.some.inj hd
      exact step_move rfl rfl rfl (hF.at 0 rfl h0) ⟨_, rfl, rfl, Grew.refl _⟩
    · obtain rfl : oKT161 p = o := Option.some.inj ho
      obtain rfl : 69 = d := Option.some.inj hd
      exact step_move rfl rfl rfl (hF.at 6 rfl h6) ⟨_, rfl, rfl, Grew.refl _⟩
    · obtain rfl : oKT162 p = o := Option.some.inj ho
      obtain rfl : 70 = d := Option.some.inj hd
      have q0 : a'.tmps.getD 68 undef = .slice (some ⟨b, o, none⟩) L c := hp 0 (oKT160 p) 68 rfl rfl rfl
      have q1 : a'.tmps.getD 69 undef = .int .i64 (q : Int) := hp 1 (oKT161 p) 69 rfl rfl rfl
      exact step_index rfl rfl rfl q0 q1 (run_ixC _ _ _ _ _ _ hi) ⟨_, rfl, rfl, Grew.refl _⟩
    · obtain rfl : oKT163 p = o := Option.some.inj ho
      obtain rfl : 71 = d := Option.some.inj hd
      have q2 : a'.tmps.getD 70 undef = .pointer (some ⟨b, o + q * 7, none⟩) := hp 2 (oKT162 p) 70 rfl rfl rfl
      exact step_load rfl rfl rfl q2 (run_ldC _ _ _ _ (fun i u hu => (Below.cell hR.undraw (p := ⟨b, o + q * 7 + i, none⟩) hb).trans (hy i u hu))) ⟨_, rfl, rfl, Grew.refl _⟩
    · obtain rfl : oKT164 p = o := Option.some.inj ho
      obtain rfl : 72 = d := Option.some.inj hd
      exact step_move rfl rfl rfl (hF.at 0 rfl h0) ⟨_, rfl, rfl, Grew.refl _⟩
    · obtain rfl : oKT165 p = o := Option.some.inj ho
      obtain rfl : 73 = d := Option.some.inj hd
      exact step_move rfl rfl rfl (hF.at 7 rfl h7) ⟨_, rfl, rfl, Grew.refl _⟩
    · obtain rfl : oKT166 p = o := Option.some.inj ho
      obtain rfl : 74 = d := Option.some.inj hd
      have q4 : a'.tmps.getD 72 undef = .slice (some ⟨b, o, none⟩) L c := hp 4 (oKT164 p) 72 rfl rfl rfl
      have q5 : a'.tmps.getD 73 undef = .int .i64 (k : Int) := hp 5 (oKT165 p) 73 rfl rfl rfl
      exact step_index rfl rfl rfl q4 q5 (run_ixC _ _ _ _ _ _ hk) ⟨_, rfl, rfl, Grew.refl _⟩
    · obtain rfl : oKT167 p = o := Option.some.inj ho
      obtain rfl : 75 = d := Option.some.inj hd
      have q6 : a'.tmps.getD 74 undef = .pointer (some ⟨b, o + k * 7, none⟩) := hp 6 (oKT166 p) 74 rfl rfl rfl
      exact step_load rfl rfl rfl q6 (run_ldC _ _ _ _ (fun i u hu => (Below.cell hR.undraw (p := ⟨b, o + k * 7 + i, none⟩) hb).trans (hx i u hu))) ⟨_, rfl, rfl, Grew.refl _⟩
    · obtain rfl : oKT168 p = o := Option.some.inj ho
      obtain rfl : 76 = d := Option.some.inj hd
      have q3 : a'.tmps.getD 71 undef = y.val := hp 3 (oKT163 p) 71 rfl rfl rfl
      have q7 : a'.tmps.getD 75 undef = x.val := hp 7 (oKT167 p) 75 rfl rfl rfl
      refine step_callD rfl rfl rfl (enters_of Try.func11 (by kernel_rfl) rfl) (show Array.map a'.eval #[.tmp 71, .tmp 75] = _ from by simp only [List.map_toArray, List.map_cons, List.map_nil, Act.eval, q3, q7]) ((hK1 w' hR.undraw).mono ?_)
      rintro e w'' ⟨rfl, hb⟩
      exact ⟨_, rfl, _, rfl, rfl, hb⟩
    · obtain rfl : oKT169 p = o := Option.some.inj ho
      obtain rfl : 77 = d := Option.some.inj hd
      exact step_move rfl rfl rfl (hF.at 0 rfl h0) ⟨_, rfl, rfl, Grew.refl _⟩
    · obtain rfl : oKT1610 p = o := Option.some.inj ho
      obtain rfl : 78 = d := Option.some.inj hd
      exact step_move rfl rfl rfl (hF.at 6 rfl h6) ⟨_, rfl, rfl, Grew.refl _⟩
    · obtain rfl : oKT1611 p = o := Option.some.inj ho
      obtain rfl : 79 = d := Option.some.inj hd
      have q9 : a'.tmps.getD 77 undef = .slice (some ⟨b, o, none⟩) L c := hp 9 (oKT169 p) 77 rfl rfl rfl
      have q10 : a'.tmps.getD 78 undef = .int .i64 (q : Int) := hp 10 (oKT1610 p) 78 rfl rfl rfl
      exact step_index rfl rfl rfl q9 q10 (run_ixC _ _ _ _ _ _ hi) ⟨_, rfl, rfl, Grew.refl _⟩
    · obtain rfl : oKT1612 p = o := Option.some.inj ho
      obtain rfl : 80 = d := Option.some.inj hd
      have q11 : a'.tmps.getD 79 undef = .pointer (some ⟨b, o + q * 7, none⟩) := hp 11 (oKT1611 p) 79 rfl rfl rfl
      exact step_load rfl rfl rfl q11 (run_ldC _ _ _ _ (fun i u hu => (Below.cell hR.undraw (p := ⟨b, o + q * 7 + i, none⟩) hb).trans (hy i u hu))) ⟨_, rfl, rfl, Grew.refl _⟩
    · obtain rfl : oKT1613 p = o := Option.some.inj ho
      obtain rfl : 81 = d := Option.some.inj hd
      exact step_move rfl rfl rfl (hF.at 0 rfl h0) ⟨_, rfl, rfl, Grew.refl _⟩
    · obtain rfl : oKT1614 p = o := Option.some.inj ho
      obtain rfl : 82 = d := Option.some.inj hd
      exact step_move rfl rfl rfl (hF.at 7 rfl h7) ⟨_, rfl, rfl, Grew.refl _⟩
    · obtain rfl : oKT1615 p = o := Option.some.inj ho
      obtain rfl : 83 = d := Option.some.inj hd
      have q13 : a'.tmps.getD 81 undef = .slice (some ⟨b, o, none⟩) L c := hp 13 (oKT1613 p) 81 rfl rfl rfl
      have q14 : a'.tmps.getD 82 undef = .int .i64 (k : Int) := hp 14 (oKT1614 p) 82 rfl rfl rfl
      exact step_index rfl rfl rfl q13 q14 (run_ixC _ _ _ _ _ _ hk) ⟨_, rfl, rfl, Grew.refl _⟩
    · obtain rfl : oKT1616 p = o := Option.some.inj ho
      obtain rfl : 84 = d := Option.some.inj hd
      have q15 : a'.tmps.getD 83 undef = .pointer (some ⟨b, o + k * 7, none⟩) := hp 15 (oKT1615 p) 83 rfl rfl rfl
      exact step_load rfl rfl rfl q15 (run_ldC _ _ _ _ (fun i u hu => (Below.cell hR.undraw (p := ⟨b, o + k * 7 + i, none⟩) hb).trans (hx i u hu))) ⟨_, rfl, rfl, Grew.refl _⟩
    · obtain rfl : oKT1617 p = o := Option.some.inj ho
      obtain rfl : 85 = d := Option.some.inj hd
      have q12 : a'.tmps.getD 80 undef = y.val := hp 12 (oKT1612 p) 80 rfl rfl rfl
      have q16 : a'.tmps.getD 84 undef = x.val := hp 16 (oKT1616 p) 84 rfl rfl rfl
      refine step_callD rfl rfl rfl (enters_of Try.func12 (by kernel_rfl) rfl) (show Array.map a'.eval #[.tmp 80, .tmp 84] = _ from by simp only [List.map_toArray, List.map_cons, List.map_nil, Act.eval, q12, q16]) ((hRf w' hR.undraw).mono ?_)
      rintro e w'' ⟨rfl, hb⟩
      exact ⟨_, rfl, _, rfl, rfl, hb⟩
    · obtain rfl : oKT1618 p = o := Option.some.inj ho
      obtain rfl : 86 = d := Option.some.inj hd
      have q8 : a'.tmps.getD 76 undef = .bool r := hp 8 (oKT168 p) 76 rfl rfl rfl
      have q17 : a'.tmps.getD 85 undef = .bool r := hp 17 (oKT1617 p) 85 rfl rfl rfl
      exact step_bin rfl rfl rfl q8 q17 (guard_bool _ _ _ _ _ _ _) (run_neqB _ _) ⟨_, rfl, rfl, Grew.refl _⟩
    · obtain rfl : oKT1619 p = o := Option.some.inj ho
      obtain rfl : 87 = d := Option.some.inj hd
      have q18 : a'.tmps.getD 86 undef = .bool false := hp 18 (oKT1618 p) 86 rfl rfl rfl
      exact step_move rfl rfl rfl q18 ⟨_, rfl, rfl, Grew.refl _⟩
    · obtain rfl : oKT1620 p = o := Option.some.inj ho
      obtain rfl : 88 = d := Option.some.inj hd
      have q19 : a'.tmps.getD 87 undef = .bool false := hp 19 (oKT1619 p) 87 rfl rfl rfl
      exact step_move rfl (wanted_on rfl (show (opsKT16 p).toArray[19]? = some (oKT1619 p) from rfl) rfl q19) rfl (hF.at 0 rfl h0) ⟨_, rfl, rfl, Grew.refl _⟩
    · obtain rfl : oKT1621 p = o := Option.some.inj ho
      obtain rfl : 89 = d := Option.some.inj hd
      have q19 : a'.tmps.getD 87 undef = .bool false := hp 19 (oKT1619 p) 87 rfl rfl rfl
      exact step_move rfl (wanted_on rfl (show (opsKT16 p).toArray[19]? = some (oKT1619 p) from rfl) rfl q19) rfl (hF.at 7 rfl h7) ⟨_, rfl, rfl, Grew.refl _⟩
    · obtain rfl : oKT1622 p = o := Option.some.inj ho
      obtain rfl : 90 = d := Option.some.inj hd
      have q19 : a'.tmps.getD 87 undef = .bool false := hp 19 (oKT1619 p) 87 rfl rfl rfl
      have q20 : a'.tmps.getD 88 undef = .slice (some ⟨b, o, none⟩) L c := hp 20 (oKT1620 p) 88 rfl rfl rfl
      have q21 : a'.tmps.getD 89 undef = .int .i64 (k : Int) := hp 21 (oKT1621 p) 89 rfl rfl rfl
      exact step_index rfl (wanted_on rfl (show (opsKT16 p).toArray[19]? = some (oKT1619 p) from rfl) rfl q19) rfl q20 q21 (run_ixC _ _ _ _ _ _ hk) ⟨_, rfl, rfl, Grew.refl _⟩
    · obtain rfl : oKT1623 p = o := Option.some.inj ho
      obtain rfl : 91 = d := Option.some.inj hd
      have q19 : a'.tmps.getD 87 undef = .bool false := hp 19 (oKT1619 p) 87 rfl rfl rfl
      have q22 : a'.tmps.getD 90 undef = .pointer (some ⟨b, o + k * 7, none⟩) := hp 22 (oKT1622 p) 90 rfl rfl rfl
      exact step_load rfl (wanted_on rfl (show (opsKT16 p).toArray[19]? = some (oKT1619 p) from rfl) rfl q19) rfl q22 (run_ldC _ _ _ _ (fun i u hu => (Below.cell hR.undraw (p := ⟨b, o + k * 7 + i, none⟩) hb).trans (hx i u hu))) ⟨_, rfl, rfl, Grew.refl _⟩
    · obtain rfl : oKT1624 p = o := Option.some.inj ho
      obtain rfl : 92 = d := Option.some.inj hd
      have q19 : a'.tmps.getD 87 undef = .bool false := hp 19 (oKT1619 p) 87 rfl rfl rfl
      exact step_move rfl (wanted_on rfl (show (opsKT16 p).toArray[19]? = some (oKT1619 p) from rfl) rfl q19) rfl (hF.at 0 rfl h0) ⟨_, rfl, rfl, Grew.refl _⟩
    · obtain rfl : oKT1625 p = o := Option.some.inj ho
      obtain rfl : 93 = d := Option.some.inj hd
      have q19 : a'.tmps.getD 87 undef = .bool false := hp 19 (oKT1619 p) 87 rfl rfl rfl
      exact step_move rfl (wanted_on rfl (show (opsKT16 p).toArray[19]? = some (oKT1619 p) from rfl) rfl q19) rfl (hF.at 6 rfl h6) ⟨_, rfl, rfl, Grew.refl _⟩
    · obtain rfl : oKT1626 p = o := Option.some.inj ho
      obtain rfl : 94 = d := Option.some.inj hd
      have q19 : a'.tmps.getD 87 undef = .bool false := hp 19 (oKT1619 p) 87 rfl rfl rfl
      have q24 : a'.tmps.getD 92 undef = .slice (some ⟨b, o, none⟩) L c := hp 24 (oKT1624 p) 92 rfl rfl rfl
      have q25 : a'.tmps.getD 93 undef = .int .i64 (q : Int) := hp 25 (oKT1625 p) 93 rfl rfl rfl
      exact step_index rfl (wanted_on rfl (show (opsKT16 p).toArray[19]? = some (oKT1619 p) from rfl) rfl q19) rfl q24 q25 (run_ixC _ _ _ _ _ _ hi) ⟨_, rfl, rfl, Grew.refl _⟩
    · obtain rfl : oKT1627 p = o := Option.some.inj ho
      obtain rfl : 95 = d := Option.some.inj hd
      have q19 : a'.tmps.getD 87 undef = .bool false := hp 19 (oKT1619 p) 87 rfl rfl rfl
      have q26 : a'.tmps.getD 94 undef = .pointer (some ⟨b, o + q * 7, none⟩) := hp 26 (oKT1626 p) 94 rfl rfl rfl
      exact step_load rfl (wanted_on rfl (show (opsKT16 p).toArray[19]? = some (oKT1619 p) from rfl) rfl q19) rfl q26 (run_ldC _ _ _ _ (fun i u hu => (Below.cell hR.undraw (p := ⟨b, o + q * 7 + i, none⟩) hb).trans (hy i u hu))) ⟨_, rfl, rfl, Grew.refl _⟩
    · obtain rfl : oKT1628 p = o := Option.some.inj ho
      obtain rfl : 96 = d := Option.some.inj hd
      have q19 : a'.tmps.getD 87 undef = .bool false := hp 19 (oKT1619 p) 87 rfl rfl rfl
      have q23 : a'.tmps.getD 91 undef = x.val := hp 23 (oKT1623 p) 91 rfl rfl rfl
      have q27 : a'.tmps.getD 95 undef = y.val := hp 27 (oKT1627 p) 95 rfl rfl rfl
      refine step_callD rfl (wanted_on rfl (show (opsKT16 p).toArray[19]? = some (oKT1619 p) from rfl) rfl q19) rfl (enters_of Try.func11 (by kernel_rfl) rfl) (show Array.map a'.eval #[.tmp 91, .tmp 95] = _ from by simp only [List.map_toArray, List.map_cons, List.map_nil, Act.eval, q23, q27]) ((hK2 w' hR.undraw).mono ?_)
      rintro e w'' ⟨rfl, hb⟩
      exact ⟨_, rfl, _, rfl, rfl, hb⟩
    · obtain rfl : oKT1629 p = o := Option.some.inj ho
      obtain rfl : 97 = d := Option.some.inj hd
      have q19 : a'.tmps.getD 87 undef = .bool false := hp 19 (oKT1619 p) 87 rfl rfl rfl
      exact step_move rfl (wanted_on rfl (show (opsKT16 p).toArray[19]? = some (oKT1619 p) from rfl) rfl q19) rfl (hF.at 0 rfl h0) ⟨_, rfl, rfl, Grew.refl _⟩
    · obtain rfl : oKT1630 p = o := Option.some.inj ho
      obtain rfl : 98 = d := Option.some.inj hd
      have q19 : a'.tmps.getD 87 undef = .bool false := hp 19 (oKT1619 p) 87 rfl rfl rfl
      exact step_move rfl (wanted_on rfl (show (opsKT16 p).toArray[19]? = some (oKT1619 p) from rfl) rfl q19) rfl (hF.at 6 rfl h6) ⟨_, rfl, rfl, Grew.refl _⟩
    · obtain rfl : oKT1631 p = o := Option.some.inj ho
      obtain rfl : 99 = d := Option.some.inj hd
      have q19 : a'.tmps.getD 87 undef = .bool false := hp 19 (oKT1619 p) 87 rfl rfl rfl
      have q29 : a'.tmps.getD 97 undef = .slice (some ⟨b, o, none⟩) L c := hp 29 (oKT1629 p) 97 rfl rfl rfl
      have q30 : a'.tmps.getD 98 undef = .int .i64 (q : Int) := hp 30 (oKT1630 p) 98 rfl rfl rfl
      exact step_index rfl (wanted_on rfl (show (opsKT16 p).toArray[19]? = some (oKT1619 p) from rfl) rfl q19) rfl q29 q30 (run_ixC _ _ _ _ _ _ hi) ⟨_, rfl, rfl, Grew.refl _⟩
    · obtain rfl : oKT1632 p = o := Option.some.inj ho
      obtain rfl : 100 = d := Option.some.inj hd
      have q19 : a'.tmps.getD 87 undef = .bool false := hp 19 (oKT1619 p) 87 rfl rfl rfl
      have q31 : a'.tmps.getD 99 undef = .pointer (some ⟨b, o + q * 7, none⟩) := hp 31 (oKT1631 p) 99 rfl rfl rfl
      exact step_load rfl (wanted_on rfl (show (opsKT16 p).toArray[19]? = some (oKT1619 p) from rfl) rfl q19) rfl q31 (run_ldC _ _ _ _ (fun i u hu => (Below.cell hR.undraw (p := ⟨b, o + q * 7 + i, none⟩) hb).trans (hy i u hu))) ⟨_, rfl, rfl, Grew.refl _⟩
    · obtain rfl : oKT1633 p = o := Option.some.inj ho
      obtain rfl : 101 = d := Option.some.inj hd
      have q19 : a'.tmps.getD 87 undef = .bool false := hp 19 (oKT1619 p) 87 rfl rfl rfl
      exact step_move rfl (wanted_on rfl (show (opsKT16 p).toArray[19]? = some (oKT1619 p) from rfl) rfl q19) rfl (hF.at 0 rfl h0) ⟨_, rfl, rfl, Grew.refl _⟩
    · obtain rfl : oKT1634 p = o := Option.some.inj ho
      obtain rfl : 102 = d := Option.some.inj hd
      have q19 : a'.tmps.getD 87 undef = .bool false := hp 19 (oKT1619 p) 87 rfl rfl rfl
      exact step_move rfl (wanted_on rfl (show (opsKT16 p).toArray[19]? = some (oKT1619 p) from rfl) rfl q19) rfl (hF.at 7 rfl h7) ⟨_, rfl, rfl, Grew.refl _⟩
    · obtain rfl : oKT1635 p = o := Option.some.inj ho
      obtain rfl : 103 = d := Option.some.inj hd
      have q19 : a'.tmps.getD 87 undef = .bool false := hp 19 (oKT1619 p) 87 rfl rfl rfl
      have q33 : a'.tmps.getD 101 undef = .slice (some ⟨b, o, none⟩) L c := hp 33 (oKT1633 p) 101 rfl rfl rfl
      have q34 : a'.tmps.getD 102 undef = .int .i64 (k : Int) := hp 34 (oKT1634 p) 102 rfl rfl rfl
      exact step_index rfl (wanted_on rfl (show (opsKT16 p).toArray[19]? = some (oKT1619 p) from rfl) rfl q19) rfl q33 q34 (run_ixC _ _ _ _ _ _ hk) ⟨_, rfl, rfl, Grew.refl _⟩
    · obtain rfl : oKT1636 p = o := Option.some.inj ho
      obtain rfl : 104 = d := Option.some.inj hd
      have q19 : a'.tmps.getD 87 undef = .bool false := hp 19 (oKT1619 p) 87 rfl rfl rfl
      have q35 : a'.tmps.getD 103 undef = .pointer (some ⟨b, o + k * 7, none⟩) := hp 35 (oKT1635 p) 103 rfl rfl rfl
      exact step_load rfl (wanted_on rfl (show (opsKT16 p).toArray[19]? = some (oKT1619 p) from rfl) rfl q19) rfl q35 (run_ldC _ _ _ _ (fun i u hu => (Below.cell hR.undraw (p := ⟨b, o + k * 7 + i, none⟩) hb).trans (hx i u hu))) ⟨_, rfl, rfl, Grew.refl _⟩
    · obtain rfl : oKT1637 p = o := Option.some.inj ho
      obtain rfl : 105 = d := Option.some.inj hd
      have q19 : a'.tmps.getD 87 undef = .bool false := hp 19 (oKT1619 p) 87 rfl rfl rfl
      have q32 : a'.tmps.getD 100 undef = y.val := hp 32 (oKT1632 p) 100 rfl rfl rfl
      have q36 : a'.tmps.getD 104 undef = x.val := hp 36 (oKT1636 p) 104 rfl rfl rfl
      refine step_callD rfl (wanted_on rfl (show (opsKT16 p).toArray[19]? = some (oKT1619 p) from rfl) rfl q19) rfl (enters_of Try.func12 (by kernel_rfl) rfl) (show Array.map a'.eval #[.tmp 100, .tmp 104] = _ from by simp only [List.map_toArray, List.map_cons, List.map_nil, Act.eval, q32, q36]) ((hRf w' hR.undraw).mono ?_)
      rintro e w'' ⟨rfl, hb⟩
      exact ⟨_, rfl, _, rfl, rfl, hb⟩
    · obtain rfl : oKT1638 p = o := Option.some.inj ho
      obtain rfl : 106 = d := Option.some.inj hd
      have q19 : a'.tmps.getD 87 undef = .bool false := hp 19 (oKT1619 p) 87 rfl rfl rfl
      have q28 : a'.tmps.getD 96 undef = .bool r := hp 28 (oKT1628 p) 96 rfl rfl rfl
      have q37 : a'.tmps.getD 105 undef = .bool r := hp 37 (oKT1637 p) 105 rfl rfl rfl
      exact step_bin rfl (wanted_on rfl (show (opsKT16 p).toArray[19]? = some (oKT1619 p) from rfl) rfl q19) rfl q28 q37 (guard_bool _ _ _ _ _ _ _) (run_neqB _ _) ⟨_, rfl, rfl, Grew.refl _⟩
    · obtain rfl : oKT1639 p = o := Option.some.inj ho
      obtain rfl : 107 = d := Option.some.inj hd
      have q19 : a'.tmps.getD 87 undef = .bool false := hp 19 (oKT1619 p) 87 rfl rfl rfl
      have q38 : a'.tmps.getD 106 undef = .bool false := hp 38 (oKT1638 p) 106 rfl rfl rfl
      exact step_pick rfl rfl rfl q19 (show (if false = true then _ else a'.tmps.getD 106 undef) = _ from q38) ⟨_, rfl, rfl, Grew.refl _⟩
    · exact absurd ((Array.getElem?_eq_some_iff.1 ho).1) (by simp [opsKT16])
  · intro a' w' hF hR hp
    have e0 : psiKT16 b o L c k q x y r 0 (a'.tmps.getD 68 undef) w' := hp 0 (oKT160 p) 68 rfl rfl
    have e1 : psiKT16 b o L c k q x y r 1 (a'.tmps.getD 69 undef) w' := hp 1 (oKT161 p) 69 rfl rfl
    have e2 : psiKT16 b o L c k q x y r 2 (a'.tmps.getD 70 undef) w' := hp 2 (oKT162 p) 70 rfl rfl
    have e3 : psiKT16 b o L c k q x y r 3 (a'.tmps.getD 71 undef) w' := hp 3 (oKT163 p) 71 rfl rfl
    have e4 : psiKT16 b o L c k q x y r 4 (a'.tmps.getD 72 undef) w' := hp 4 (oKT164 p) 72 rfl rfl
    have e5 : psiKT16 b o L c k q x y r 5 (a'.tmps.getD 73 undef) w' := hp 5 (oKT165 p) 73 rfl rfl
    have e6 : psiKT16 b o L c k q x y r 6 (a'.tmps.getD 74 undef) w' := hp 6 (oKT166 p) 74 rfl rfl
    have e7 : psiKT16 b o L c k q x y r 7 (a'.tmps.getD 75 undef) w' := hp 7 (oKT167 p) 75 rfl rfl
    have e8 : psiKT16 b o L c k q x y r 8 (a'.tmps.getD 76 undef) w' := hp 8 (oKT168 p) 76 rfl rfl
    have e9 : psiKT16 b o L c k q x y r 9 (a'.tmps.getD 77 undef) w' := hp 9 (oKT169 p) 77 rfl rfl
    have e10 : psiKT16 b o L c k q x y r 10 (a'.tmps.getD 78 undef) w' := hp 10 (oKT1610 p) 78 rfl rfl
    have e11 : psiKT16 b o L c k q x y r 11 (a'.tmps.getD 79 undef) w' := hp 11 (oKT1611 p) 79 rfl rfl
    have e12 : psiKT16 b o L c k q x y r 12 (a'.tmps.getD 80 undef) w' := hp 12 (oKT1612 p) 80 rfl rfl
    have e13 : psiKT16 b o L c k q x y r 13 (a'.tmps.getD 81 undef) w' := hp 13 (oKT1613 p) 81 rfl rfl
    have e14 : psiKT16 b o L c k q x y r 14 (a'.tmps.getD 82 undef) w' := hp 14 (oKT1614 p) 82 rfl rfl
    have e15 : psiKT16 b o L c k q x y r 15 (a'.tmps.getD 83 undef) w' := hp 15 (oKT1615 p) 83 rfl rfl
    have e16 : psiKT16 b o L c k q x y r 16 (a'.tmps.getD 84 undef) w' := hp 16 (oKT1616 p) 84 rfl rfl
    have e17 : psiKT16 b o L c k q x y r 17 (a'.tmps.getD 85 undef) w' := hp 17 (oKT1617 p) 85 rfl rfl
    have e18 : psiKT16 b o L c k q x y r 18 (a'.tmps.getD 86 undef) w' := hp 18 (oKT1618 p) 86 rfl rfl
    have e19 : psiKT16 b o L c k q x y r 19 (a'.tmps.getD 87 undef) w' := hp 19 (oKT1619 p) 87 rfl rfl
    have e20 : psiKT16 b o L c k q x y r 20 (a'.tmps.getD 88 undef) w' := hp 20 (oKT1620 p) 88 rfl rfl
    have e21 : psiKT16 b o L c k q x y r 21 (a'.tmps.getD 89 undef) w' := hp 21 (oKT1621 p) 89 rfl rfl
    have e22 : psiKT16 b o L c k q x y r 22 (a'.tmps.getD 90 undef) w' := hp 22 (oKT1622 p) 90 rfl rfl
    have e23 : psiKT16 b o L c k q x y r 23 (a'.tmps.getD 91 undef) w' := hp 23 (oKT1623 p) 91 rfl rfl
    have e24 : psiKT16 b o L c k q x y r 24 (a'.tmps.getD 92 undef) w' := hp 24 (oKT1624 p) 92 rfl rfl
    have e25 : psiKT16 b o L c k q x y r 25 (a'.tmps.getD 93 undef) w' := hp 25 (oKT1625 p) 93 rfl rfl
    have e26 : psiKT16 b o L c k q x y r 26 (a'.tmps.getD 94 undef) w' := hp 26 (oKT1626 p) 94 rfl rfl
    have e27 : psiKT16 b o L c k q x y r 27 (a'.tmps.getD 95 undef) w' := hp 27 (oKT1627 p) 95 rfl rfl
    have e28 : psiKT16 b o L c k q x y r 28 (a'.tmps.getD 96 undef) w' := hp 28 (oKT1628 p) 96 rfl rfl
    have e29 : psiKT16 b o L c k q x y r 29 (a'.tmps.getD 97 undef) w' := hp 29 (oKT1629 p) 97 rfl rfl
    have e30 : psiKT16 b o L c k q x y r 30 (a'.tmps.getD 98 undef) w' := hp 30 (oKT1630 p) 98 rfl rfl
    have e31 : psiKT16 b o L c k q x y r 31 (a'.tmps.getD 99 undef) w' := hp 31 (oKT1631 p) 99 rfl rfl
    have e32 : psiKT16 b o L c k q x y r 32 (a'.tmps.getD 100 undef) w' := hp 32 (oKT1632 p) 100 rfl rfl
    have e33 : psiKT16 b o L c k q x y r 33 (a'.tmps.getD 101 undef) w' := hp 33 (oKT1633 p) 101 rfl rfl
    have e34 : psiKT16 b o L c k q x y r 34 (a'.tmps.getD 102 undef) w' := hp 34 (oKT1634 p) 102 rfl rfl
    have e35 : psiKT16 b o L c k q x y r 35 (a'.tmps.getD 103 undef) w' := hp 35 (oKT1635 p) 103 rfl rfl
    have e36 : psiKT16 b o L c k q x y r 36 (a'.tmps.getD 104 undef) w' := hp 36 (oKT1636 p) 104 rfl rfl
    have e37 : psiKT16 b o L c k q x y r 37 (a'.tmps.getD 105 undef) w' := hp 37 (oKT1637 p) 105 rfl rfl
    have e38 : psiKT16 b o L c k q x y r 38 (a'.tmps.getD 106 undef) w' := hp 38 (oKT1638 p) 106 rfl rfl
    have e39 : psiKT16 b o L c k q x y r 39 (a'.tmps.getD 107 undef) w' := hp 39 (oKT1639 p) 107 rfl rfl
    rw [hF.puts [(68, .slice (some ⟨b, o, none⟩) L c), (69, .int .i64 (q : Int)), (70, .pointer (some ⟨b, o + q * 7, none⟩)), (71, y.val), (72, .slice (some ⟨b, o, none⟩) L c), (73, .int .i64 (k : Int)), (74, .pointer (some ⟨b, o + k * 7, none⟩)), (75, x.val), (76, .bool r), (77, .slice (some ⟨b, o, none⟩) L c), (78, .int .i64 (q : Int)), (79, .pointer (some ⟨b, o + q * 7, none⟩)), (80, y.val), (81, .slice (some ⟨b, o, none⟩) L c), (82, .int .i64 (k : Int)), (83, .pointer (some ⟨b, o + k * 7, none⟩)), (84, x.val), (85, .bool r), (86, .bool false), (87, .bool false), (88, .slice (some ⟨b, o, none⟩) L c), (89, .int .i64 (k : Int)), (90, .pointer (some ⟨b, o + k * 7, none⟩)), (91, x.val), (92, .slice (some ⟨b, o, none⟩) L c), (93, .int .i64 (q : Int)), (94, .pointer (some ⟨b, o + q * 7, none⟩)), (95, y.val), (96, .bool r), (97, .slice (some ⟨b, o, none⟩) L c), (98, .int .i64 (q : Int)), (99, .pointer (some ⟨b, o + q * 7, none⟩)), (100, y.val), (101, .slice (some ⟨b, o, none⟩) L c), (102, .int .i64 (k : Int)), (103, .pointer (some ⟨b, o + k * 7, none⟩)), (104, x.val), (105, .bool r), (106, .bool false), (107, .bool false)] ?_ rfl (by rw [hN]; rfl)]
    · exact hQ  w'  hR.undraw
    · intro x hx
      simp only [List.mem_cons, List.not_mem_nil, or_false] at hx
      rcases hx with rfl | rfl | rfl | rfl | rfl | rfl | rfl | rfl | rfl | rfl | rfl | rfl | rfl | rfl | rfl | rfl | rfl | rfl | rfl | rfl | rfl | rfl | rfl | rfl | rfl | rfl | rfl | rfl | rfl | rfl | rfl | rfl | rfl | rfl | rfl | rfl | rfl | rfl | rfl | rfl
      · exact e0
      · exact e1
      · exact e2
      · exact e3
      · exact e4
      · exact e5
      · exact e6
      · exact e7
      · exact e8
      · exact e9
      · exact e10
      · exact e11
      · exact e12
      · exact e13
      · exact e14
      · exact e15
      · exact e16
      · exact e17
      · exact e18
      · exact e19
      · exact e20
      · exact e21
      · exact e22
      · exact e23
      · exact e24
      · exact e25
      · exact e26
      · exact e27
      · exact e28
      · exact e29
      · exact e30
      · exact e31
      · exact e32
      · exact e33
      · exact e34
      · exact e35
      · exact e36
      · exact e37
      · exact e38
      · exact e39
end Go.Proofs.Ytooaobadnainkaa
