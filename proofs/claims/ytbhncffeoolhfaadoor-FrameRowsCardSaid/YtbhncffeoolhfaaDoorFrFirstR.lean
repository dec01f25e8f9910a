/- The statements of frame.first that copy the sum and that hold it against the contents' own, whatever their order of evaluation. -/
import Derived.Test.YtbhncffeoolhfaaDoorPuts
import Derived.Test.YtbhncffeoolhfaaDoorFrSum
import Derived.Test.YtbhncffeoolhfaaDoorFrPut
import Derived.Laws.StructEq
import Derived.Laws.Tables
import Derived.Laws.Cover2
namespace Go.Proofs.YtbhncffeoolhfaaDoor
open Go.RowKit

/-- Four bytes are copied into an array. -/
theorem copy4 (w : World) (g : Nat) (t : TypeId) (c b o : Nat) (ys : List UInt8) (cur : Array Value) (hy : ys.length = 4) (hz : cur.size = 4) (hg : w.heap[g]? = some (.cells cur t (0, 0))) {B : Nat} (hs : HasA w B (some ⟨b, o, none⟩) ys) :
    ∃ w', (∀ ty, (Builtin.copy_ #[22, 22] ty #[.slice (some ⟨g, 0, none⟩) 4 4, .slice (some ⟨b, o, none⟩) 4 c]).run Tryd.prog w = .ok (.int .i64 4) w') ∧ w'.heap[g]? = some (.cells (ys.map enc).toArray t (0, 0)) ∧ w.grownBy w' (some g) := by
  have h := fun ty => run_copy_row (P := Tryd.prog) w 22 22 ty 5 g 0 4 4 ⟨b, o, none⟩ 4 c cur t (ys.map enc) Tryd.underlying22 size5 hg (by simp [hy]) (hs.src rfl) (by simp [hy, hz]) (encs_one ys)
  have e : (cur.toList.take 0 ++ ys.map enc ++ cur.toList.drop (0 + (ys.map enc).length)).toArray = (ys.map enc).toArray := by
    rw [List.take_zero, List.nil_append, List.drop_of_length_le (by simp [hy, hz]), List.append_nil]
  rw [e] at h
  refine ⟨w.setRow g (ys.map enc).toArray, fun ty => by rw [h ty]; simp [hy, goInt], setRow_heap w g cur _ t _ hg, ⟨rfl, rfl, rfl, by simp, fun k _ hk => setRow_other w g k _ (fun e => hk (by simp [e]))⟩⟩

/-- Nothing but block D changes, and D stays an array of four; once it holds the bytes it goes on to. -/
def RC (D : Nat) (ys : List UInt8) (x y : World) : Prop :=
  x.grownBy y (some D) ∧ ((∃ cur : Array Value, cur.size = 4 ∧ x.heap[D]? = some (.cells cur 39 (0, 0))) → ∃ cur : Array Value, cur.size = 4 ∧ y.heap[D]? = some (.cells cur 39 (0, 0))) ∧
  (x.heap[D]? = some (.cells (ys.map enc).toArray 39 (0, 0)) → y.heap[D]? = some (.cells (ys.map enc).toArray 39 (0, 0)))
theorem RC.refl (D : Nat) (ys : List UInt8) (w : World) : RC D ys w w := ⟨grownBy_refl _ _, id, id⟩
theorem RC.trans {D : Nat} {ys : List UInt8} {x y z : World} (h : RC D ys x y) (k : RC D ys y z) : RC D ys x z := ⟨grownBy_trans h.1 k.1, fun e => k.2.1 (h.2.1 e), fun e => k.2.2 (h.2.2 e)⟩

section
variable {n : Nat} {ops : Array Oper} {i : Nat} {o : Oper} {a : Act} {w : World} {K : Act → World → Prop} {Q : Exit → Act → World → Prop}
theorem step_whole {t : TypeId} {x : Operand} {vx v : Value} (hi : ops[i]? = some o) (hw : Region.wanted o (yielded ops a.tmps) = true) (ho : o.op = .slice t x none none none) (hx : a.eval x = vx) (hr : (Instr.sliceAt t vx none none none).run Tryd.prog w = .ok v w) (h : K (a.put o.dst v) w) : wpOpIn Fence.wide n Tryd.prog ops Q i K a w :=
  step_run hi hw (by rw [ho]; intro c h; cases h) (by simp [Oper.about, ho]) (by simp [execOp, ho, hx, hr]) h
theorem step_builtin2 {x y : Operand} {ts : Array TypeId} {vx vy : Value} (hi : ops[i]? = some o) (hw : Region.wanted o (yielded ops a.tmps) = true) (ho : o.op = .call { callee := .builtin .copy, args := #[x, y], argTypes := ts }) (hx : a.eval x = vx) (hy : a.eval y = vy)
    (h : ∃ v w', (Builtin.copy_ ts o.type #[vx, vy]).run Tryd.prog w = .ok v w' ∧ K (a.put o.dst v) w') : wpOpIn Fence.wide n Tryd.prog ops Q i K a w := by
  obtain ⟨v, w', hr, h⟩ := h
  refine step_run hi hw (by rw [ho]; intro c h; cases h) (by simp [Oper.about, ho, resolve, Target.leads, Sem.run_pure]) (v := v) (w' := w') ?_ h
  unfold execOp
  simp only [ho, resolve, invoke, builtin, Sem.run_bind, Sem.run_pure, Result.andThen_ok, List.map_toArray, List.map_cons, List.map_nil, hx, hy, hr]
theorem step_ret {f : FuncId} {xs : Array Operand} {ts : Array TypeId} {vs : Array Value} {v : Value} (hi : ops[i]? = some o) (hw : Region.wanted o (yielded ops a.tmps) = true)
    (ho : o.op = .call { callee := .value (.func f), args := xs, argTypes := ts }) (eg : ∀ args w, (callFunc f args).run Tryd.prog w = .ok (.enter f args) w) (hxs : xs.map a.eval = vs) (hc : Calls Tryd.prog f vs w fun e w' => e = .returned v ∧ Below w.heap.size w w')
    (h : ∀ w', Grew w w' → K (a.put o.dst v) w') : wpOpIn Fence.wide n Tryd.prog ops Q i K a w := by
  refine step_call hi hw ho trivial (fun h => by cases h) eg ?_
  rw [hxs]
  refine (callsIn_wide.2 hc).mono ?_
  rintro e w' ⟨rfl, hb⟩
  exact ⟨_, rfl, h _ hb⟩
end
theorem run_whole4 (w : World) (D : Nat) : (Instr.sliceAt 39 (.pointer (some ⟨D, 0, none⟩)) none none none).run Tryd.prog w = .ok (.slice (some ⟨D, 0, none⟩) 4 4) w := by
  simp [go_sem, run_underlying Tryd.underlying39]
theorem run_sub4 (w : World) (t : TypeId) (k : Nat) (h : k ≤ 1000000) : (binOp .sub t (.int .i64 ((k : Int) + 4)) (.int .i64 4)).run Tryd.prog w = .ok (.int .i64 (k : Int)) w := by
  have e : IntKind.i64.wrap ((k : Int) + 4 - 4) = k := by rw [IntKind.wrap_i64]; omega
  have e2 : IntKind.i64.wrap (k : Int) = k := by rw [IntKind.wrap_i64]; omega
  simp [go_sem, e2]
theorem run_four (w : World) (b o L c k : Nat) (h : k + 4 ≤ c) (h2 : k ≤ 1000000) : (Instr.sliceAt 22 (.slice (some ⟨b, o, none⟩) L c) (some (.int .i64 (k : Int))) (some (.int .i64 ((k : Int) + 4))) none).run Tryd.prog w = .ok (.slice (some ⟨b, o + k, none⟩) 4 (c - k)) w := by
  have h1 : (k : Int) + 4 ≤ c := by omega
  have h3 : (0 : Int) ≤ (k : Int) + 4 := by omega
  have h4 : ((k : Int) + 4).toNat = k + 4 := by omega
  have h5 : ¬ c = k := by omega
  simp [go_sem, h1, h3, h4, h5]
theorem ld4 (w : World) (D : Nat) (y0 y1 y2 y3 : Int) (h : w.heap[D]? = some (.cells #[.int .u8 y0, .int .u8 y1, .int .u8 y2, .int .u8 y3] 39 (0, 0))) :
    (Instr.loadAt 39 (.pointer (some ⟨D, 0, none⟩))).run Tryd.prog w = .ok (.agg #[.int .u8 y0, .int .u8 y1, .int .u8 y2, .int .u8 y3]) w := by
  have h0 := blk_cell h 0
  have h1 := blk_cell h 1
  have h2 := blk_cell h 2
  have h3 := blk_cell h 3
  simp at h0 h1 h2 h3
  simp [go_sem, h0, h1, h2, h3]
theorem eq4 (x0 x1 x2 x3 y0 y1 y2 y3 : Int) (w : World) : (Op.equalIn 10000 39 (.agg #[.int .u8 x0, .int .u8 x1, .int .u8 x2, .int .u8 x3]) (.agg #[.int .u8 y0, .int .u8 y1, .int .u8 y2, .int .u8 y3])).run Tryd.prog w = .ok (x0 == y0 && (x1 == y1 && (x2 == y2 && x3 == y3))) w := by
  have u3 := Tryd.underlying5
  have a3 := Tryd.isAgg5
  have z3 := Tryd.sizeOf5
  rw [show (10000 : Nat) = 9999 + 1 from rfl, Op.equalIn]
  simp only [Sem.run_bind, run_underlying Tryd.underlying39, Result.andThen_ok]
  simp only [Std.Legacy.Range.forIn_eq_forIn_range', Std.Legacy.Range.size, Nat.sub_zero, Nat.add_sub_cancel, Nat.div_one, List.range'_succ, List.range'_zero, List.forIn_cons, List.forIn_nil]
  go_simp
  by_cases h0 : x0 = y0 <;> by_cases h1 : x1 = y1 <;> by_cases h2 : x2 = y2 <;> by_cases h3 : x3 = y3 <;> simp [h0, h1, h2, h3]
def neB (y0 y1 y2 y3 : Int) (s : Nat) : Bool := !(y0 == (s : Int) % 256 && (y1 == (s : Int) / 256 % 256 && (y2 == (s : Int) / 65536 % 256 && y3 == (s : Int) / 16777216)))
theorem run_neB (w : World) (y0 y1 y2 y3 : Int) (s : Nat) : (binOp .neq 39 (.agg #[.int .u8 y0, .int .u8 y1, .int .u8 y2, .int .u8 y3]) (sumV s)).run Tryd.prog w = .ok (.bool (neB y0 y1 y2 y3 s)) w := by
  simp [go_sem, eq4, sumV, neB]
theorem noGuard4 : Tryd.prog.eqGuardType Tryd.prog.depth 39 = false := by kernel_rfl
theorem guard_agg (op : BinOp) (w : World) (x y : Operand) (s : Array Value) (u : Nat) : (eqGuard op 39 x y (.agg s) (sumV u)).run Tryd.prog w = .ok () w := by
  have h : Sem.run Tryd.prog program w = .ok Tryd.prog w := rfl
  cases op <;> simp [eqGuard, sumV, h, noGuard4]
def oFI90 (p : String) : Oper := { dst := some 32, op := Op.slice 39 (Operand.tmp 8) none none none, type := 22, pos := p, after := #[], guard := none }
def oFI91 (p : String) : Oper := { dst := some 33, op := Op.move (Operand.tmp 0), type := 22, pos := p, after := #[], guard := none }
def oFI92 (p : String) : Oper := { dst := some 34, op := Op.move (Operand.tmp 6), type := 3, pos := p, after := #[], guard := none }
def oFI93 (p : String) : Oper := { dst := some 35, op := Op.binOp BinOp.sub 3 (Operand.tmp 34) (Operand.const (Value.int IntKind.i64 4)) 3, type := 3, pos := p, after := #[{ on := 2, ground := Ground.data }], guard := none }
def oFI94 (p : String) : Oper := { dst := some 36, op := Op.move (Operand.tmp 6), type := 3, pos := p, after := #[], guard := none }
def oFI95 (p : String) : Oper := { dst := some 37, op := Op.slice 22 (Operand.tmp 33) (some (Operand.tmp 35)) (some (Operand.tmp 36)) none, type := 22, pos := p, after := #[{ on := 1, ground := Ground.data }, { on := 3, ground := Ground.data }, { on := 4, ground := Ground.data }], guard := none }
def oFI96 (p : String) : Oper := { dst := some 38, op := Op.call { callee := Callee.builtin Builtin.copy, args := #[Operand.tmp 32, Operand.tmp 37], argTypes := #[22, 22] }, type := 3, pos := p, after := #[{ on := 0, ground := Ground.data }, { on := 5, ground := Ground.data }], guard := none }
def opsFI9 (p : String) : List Oper := [oFI90 p, oFI91 p, oFI92 p, oFI93 p, oFI94 p, oFI95 p, oFI96 p]
theorem opsFI9_back (p : String) : backwards (opsFI9 p) = true := by kernel_rfl
theorem opsFI9_slots (p : String) : slotsOk 51 (opsFI9 p) = true := by kernel_rfl
/-- What each slot comes to. -/
def psiFI9 (B D : Nat) (b o ok L c c4 k : Nat) (ys : List UInt8) : Nat → Value → World → Prop
  | 0, v, _ => v = .slice (some ⟨D, 0, none⟩) 4 4
  | 1, v, _ => v = .slice (some ⟨b, o, none⟩) L c
  | 2, v, _ => v = .int .i64 ((k : Int) + 4)
  | 3, v, _ => v = .int .i64 (k : Int)
  | 4, v, _ => v = .int .i64 ((k : Int) + 4)
  | 5, v, _ => v = .slice (some ⟨b, ok, none⟩) 4 c4
  | 6, v, w => v = .int .i64 4 ∧ w.heap[D]? = some (.cells (ys.map enc).toArray 39 (0, 0))
  | _, _, _ => True
theorem psiFI9_grew (B D : Nat) (b o ok L c c4 k : Nat) (ys : List UInt8) : ∀ i v w w', psiFI9 B D b o ok L c c4 k ys i v w → RC D ys w w' → psiFI9 B D b o ok L c c4 k ys i v w' := by
  intro i v w w' h hg
  rcases i with _ | _ | _ | _ | _ | _ | _ | i
  · exact h
  · exact h
  · exact h
  · exact h
  · exact h
  · exact h
  · exact ⟨h.1, hg.2.2 h.2⟩
  · trivial
set_option maxRecDepth 100000 in
set_option maxHeartbeats 4000000 in
theorem first_copy {p : String} (B D : Nat) (b o ok L c c4 k : Nat) (ys : List UInt8) (hy : ys.length = 4) (hBD : B ≤ D) (hkL : k + 4 ≤ c) (hk2 : k ≤ 1000000) (hok : ok = o + k) (hc4 : c4 = c - k) (a : Act) (w : World) (Q : Exit → Act → World → Prop) (hN : a.tmps.size = 51) (h0 : a.tmps.getD 0 undef = .slice (some ⟨b, o, none⟩) L c) (h6 : a.tmps.getD 6 undef = .int .i64 ((k : Int) + 4)) (h8 : a.tmps.getD 8 undef = .pointer (some ⟨D, 0, none⟩)) (hBw : B ≤ w.heap.size) (hA : HasA w B (some ⟨b, ok, none⟩) ys) (hD : ∃ cur : Array Value, cur.size = 4 ∧ w.heap[D]? = some (.cells cur 39 (0, 0))) (hQ : ∀ (v38 : Value), ∀ (w' : World), (fun v w => v = .int .i64 4 ∧ w.heap[D]? = some (.cells (ys.map enc).toArray 39 (0, 0))) v38 w' → w.grownBy w' (some D) → Q .normal (puts [(32, .slice (some ⟨D, 0, none⟩) 4 4), (33, .slice (some ⟨b, o, none⟩) L c), (34, .int .i64 ((k : Int) + 4)), (35, .int .i64 (k : Int)), (36, .int .i64 ((k : Int) + 4)), (37, .slice (some ⟨b, ok, none⟩) 4 c4), (38, v38)] a) w')
    : (Code.region 9 (opsFI9 p).toArray true).wp Tryd.prog Q a w := by
  refine (wpIn_wide (n := 1)).1 (wpIn_region_vals 51 hN follows (opsFI9_back p) (opsFI9_slots p) (RC D ys) (fun w => RC.refl D ys w) RC.trans (psiFI9 B D b o ok L c c4 k ys) (psiFI9_grew B D b o ok L c c4 k ys) ?_ ?_)
  · intro i o d ho hd a' w' hF hR hp
    rcases i with _ | _ | _ | _ | _ | _ | _ | i
    · obtain rfl : oFI90 p = o := Option.some.inj ho
      obtain rfl : 32 = d := Option.some.inj hd
      exact step_whole rfl rfl rfl (hF.at 8 rfl h8) (run_whole4 _ _) ⟨_, rfl, rfl, (fun w => RC.refl D ys w) _⟩
    · obtain rfl : oFI91 p = o := Option.some.inj ho
      obtain rfl : 33 = d := Option.some.inj hd
      exact step_move rfl rfl rfl (hF.at 0 rfl h0) ⟨_, rfl, rfl, (fun w => RC.refl D ys w) _⟩
    · obtain rfl : oFI92 p = o := Option.some.inj ho
      obtain rfl : 34 = d := Option.some.inj hd
      exact step_move rfl rfl rfl (hF.at 6 rfl h6) ⟨_, rfl, rfl, (fun w => RC.refl D ys w) _⟩
    · obtain rfl : oFI93 p = o := Option.some.inj ho
      obtain rfl : 35 = d := Option.some.inj hd
      have q2 : a'.tmps.getD 34 undef = .int .i64 ((k : Int) + 4) := hp 2 (oFI92 p) 34 rfl rfl rfl
      exact step_bin rfl rfl rfl q2 rfl (guard_int _ _ _ _ _ _ _ _ _) (run_sub4 _ _ _ hk2) ⟨_, rfl, rfl, (fun w => RC.refl D ys w) _⟩
    · obtain rfl : oFI94 p = o := Option.some.inj ho
      obtain rfl : 36 = d := Option.some.inj hd
      exact step_move rfl rfl rfl (hF.at 6 rfl h6) ⟨_, rfl, rfl, (fun w => RC.refl D ys w) _⟩
    · obtain rfl : oFI95 p = o := Option.some.inj ho
      obtain rfl : 37 = d := Option.some.inj hd
      have q1 : a'.tmps.getD 33 undef = .slice (some ⟨b, o, none⟩) L c := hp 1 (oFI91 p) 33 rfl rfl rfl
      have q3 : a'.tmps.getD 35 undef = .int .i64 (k : Int) := hp 3 (oFI93 p) 35 rfl rfl rfl
      have q4 : a'.tmps.getD 36 undef = .int .i64 ((k : Int) + 4) := hp 4 (oFI94 p) 36 rfl rfl rfl
      exact step_between rfl rfl rfl q1 q3 q4 (by subst hok; subst hc4; exact run_four _ _ _ _ _ _ hkL hk2) ⟨_, rfl, rfl, (fun w => RC.refl D ys w) _⟩
    · obtain rfl : oFI96 p = o := Option.some.inj ho
      obtain rfl : 38 = d := Option.some.inj hd
      have q0 : a'.tmps.getD 32 undef = .slice (some ⟨D, 0, none⟩) 4 4 := hp 0 (oFI90 p) 32 rfl rfl rfl
      have q5 : a'.tmps.getD 37 undef = .slice (some ⟨b, ok, none⟩) 4 c4 := hp 5 (oFI95 p) 37 rfl rfl rfl
      refine step_builtin2 rfl rfl rfl q0 q5 ?_
      have hs := hA.keep (w' := w') (fun q hq => World.cell?_of_block (hR.1.block q.block (Nat.lt_of_lt_of_le hq hBw) (fun e => by cases e; exact absurd hq (Nat.not_lt.2 hBD))))
      obtain ⟨cur, hcz, hcg⟩ := hR.2.1 hD
      obtain ⟨w'', hrun, hk, hg⟩ := copy4 w' D 39 c4 b ok (ys) cur hy hcz hcg (B := B) hs
      exact ⟨_, _, hrun _, _, rfl, ⟨rfl, hk⟩, hg, fun _ => ⟨_, by simp [hy], hk⟩, fun _ => hk⟩
    · exact absurd ((Array.getElem?_eq_some_iff.1 ho).1) (by simp [opsFI9])
  · intro a' w' hF hR hp
    have e0 : psiFI9 B D b o ok L c c4 k ys 0 (a'.tmps.getD 32 undef) w' := hp 0 (oFI90 p) 32 rfl rfl
    have e1 : psiFI9 B D b o ok L c c4 k ys 1 (a'.tmps.getD 33 undef) w' := hp 1 (oFI91 p) 33 rfl rfl
    have e2 : psiFI9 B D b o ok L c c4 k ys 2 (a'.tmps.getD 34 undef) w' := hp 2 (oFI92 p) 34 rfl rfl
    have e3 : psiFI9 B D b o ok L c c4 k ys 3 (a'.tmps.getD 35 undef) w' := hp 3 (oFI93 p) 35 rfl rfl
    have e4 : psiFI9 B D b o ok L c c4 k ys 4 (a'.tmps.getD 36 undef) w' := hp 4 (oFI94 p) 36 rfl rfl
    have e5 : psiFI9 B D b o ok L c c4 k ys 5 (a'.tmps.getD 37 undef) w' := hp 5 (oFI95 p) 37 rfl rfl
    have e6 : psiFI9 B D b o ok L c c4 k ys 6 (a'.tmps.getD 38 undef) w' := hp 6 (oFI96 p) 38 rfl rfl
    rw [hF.puts [(32, .slice (some ⟨D, 0, none⟩) 4 4), (33, .slice (some ⟨b, o, none⟩) L c), (34, .int .i64 ((k : Int) + 4)), (35, .int .i64 (k : Int)), (36, .int .i64 ((k : Int) + 4)), (37, .slice (some ⟨b, ok, none⟩) 4 c4), (38, a'.tmps.getD 38 undef)] ?_ rfl (by rw [hN]; rfl)]
    · exact hQ _ w' e6 ⟨hR.1.os, hR.1.tape, hR.1.output, hR.1.size, hR.1.block⟩
    · intro x hx
      simp only [List.mem_cons, List.not_mem_nil, or_false] at hx
      rcases hx with rfl | rfl | rfl | rfl | rfl | rfl | rfl
      · exact e0
      · exact e1
      · exact e2
      · exact e3
      · exact e4
      · exact e5
      · exact rfl
def oFI110 (p : String) : Oper := { dst := some 43, op := Op.load 39 (Operand.tmp 8), type := 39, pos := p, after := #[], guard := none }
def oFI111 (p : String) : Oper := { dst := some 44, op := Op.move (Operand.tmp 9), type := 22, pos := p, after := #[], guard := none }
def oFI112 (p : String) : Oper := { dst := some 45, op := Op.call { callee := Callee.value (Operand.func 15), args := #[Operand.tmp 44], argTypes := #[22] }, type := 39, pos := p, after := #[{ on := 1, ground := Ground.data }], guard := none }
def oFI113 (p : String) : Oper := { dst := some 46, op := Op.binOp BinOp.neq 39 (Operand.tmp 43) (Operand.tmp 45) 39, type := 4, pos := p, after := #[{ on := 0, ground := Ground.data }, { on := 2, ground := Ground.data }], guard := none }
def opsFI11 (p : String) : List Oper := [oFI110 p, oFI111 p, oFI112 p, oFI113 p]
theorem opsFI11_back (p : String) : backwards (opsFI11 p) = true := by kernel_rfl
theorem opsFI11_slots (p : String) : slotsOk 51 (opsFI11 p) = true := by kernel_rfl
/-- What each slot comes to. -/
def psiFI11 (D : Nat) (A2 : Option Addr) (n c2 : Nat) (x : List UInt8) (y0 y1 y2 y3 : Int) : Nat → Value → World → Prop
  | 0, v, _ => v = .agg #[.int .u8 y0, .int .u8 y1, .int .u8 y2, .int .u8 y3]
  | 1, v, _ => v = .slice A2 n c2
  | 2, v, _ => v = sumV (crcSum x)
  | 3, v, _ => v = .bool (neB y0 y1 y2 y3 (crcSum x))
  | _, _, _ => True
theorem psiFI11_grew (D : Nat) (A2 : Option Addr) (n c2 : Nat) (x : List UInt8) (y0 y1 y2 y3 : Int) : ∀ i v w w', psiFI11 D A2 n c2 x y0 y1 y2 y3 i v w → Grew w w' → psiFI11 D A2 n c2 x y0 y1 y2 y3 i v w' := by
  intro i v w w' h hg
  rcases i with _ | _ | _ | _ | i
  · exact h
  · exact h
  · exact h
  · exact h
  · trivial
set_option maxRecDepth 100000 in
set_option maxHeartbeats 4000000 in
theorem first_cmp {p : String} (D : Nat) (A2 : Option Addr) (n c2 : Nat) (x : List UInt8) (y0 y1 y2 y3 : Int) (hxl : n = x.length) (hn : n ≤ 65536) (a : Act) (w : World) (Q : Exit → Act → World → Prop) (hN : a.tmps.size = 51) (h8 : a.tmps.getD 8 undef = .pointer (some ⟨D, 0, none⟩)) (h9 : a.tmps.getD 9 undef = .slice A2 n c2) (hT : Tab w) (hA2 : HasA w w.heap.size A2 x) (hDw : D < w.heap.size) (hD : w.heap[D]? = some (.cells #[.int .u8 y0, .int .u8 y1, .int .u8 y2, .int .u8 y3] 39 (0, 0))) (hQ : ∀ (w' : World), Grew w w' → Q .normal (puts [(43, .agg #[.int .u8 y0, .int .u8 y1, .int .u8 y2, .int .u8 y3]), (44, .slice A2 n c2), (45, sumV (crcSum x)), (46, .bool (neB y0 y1 y2 y3 (crcSum x)))] a) w')
    : (Code.region 11 (opsFI11 p).toArray true).wp Tryd.prog Q a w := by
  refine (wpIn_wide (n := 1)).1 (wpIn_region_vals 51 hN follows (opsFI11_back p) (opsFI11_slots p) Grew Grew.refl Grew.trans (psiFI11 D A2 n c2 x y0 y1 y2 y3) (psiFI11_grew D A2 n c2 x y0 y1 y2 y3) ?_ ?_)
  · intro i o d ho hd a' w' hF hR hp
    rcases i with _ | _ | _ | _ | i
    · obtain rfl : oFI110 p = o := Option.some.inj ho
      obtain rfl : 43 = d := Option.some.inj hd
      exact step_load rfl rfl rfl (hF.at 8 rfl h8) (ld4 _ _ _ _ _ _ ((Below.block hR.undraw D hDw).trans hD)) ⟨_, rfl, rfl, Grew.refl _⟩
    · obtain rfl : oFI111 p = o := Option.some.inj ho
      obtain rfl : 44 = d := Option.some.inj hd
      exact step_move rfl rfl rfl (hF.at 9 rfl h9) ⟨_, rfl, rfl, Grew.refl _⟩
    · obtain rfl : oFI112 p = o := Option.some.inj ho
      obtain rfl : 45 = d := Option.some.inj hd
      have q1 : a'.tmps.getD 44 undef = .slice A2 n c2 := hp 1 (oFI111 p) 44 rfl rfl rfl
      exact step_ret rfl rfl rfl (enters_of Tryd.func15 (by kernel_rfl) rfl) (show Array.map a'.eval #[.tmp 44] = _ from by simp only [List.map_toArray, List.map_cons, List.map_nil, Act.eval, q1]) (sumOf_any A2 n c2 x hxl (by omega) w' (hT.grew hR.undraw) (HasA.below' hA2 hR.undraw)) (fun w'' hg => ⟨_, rfl, rfl, hg⟩)
    · obtain rfl : oFI113 p = o := Option.some.inj ho
      obtain rfl : 46 = d := Option.some.inj hd
      have q0 : a'.tmps.getD 43 undef = .agg #[.int .u8 y0, .int .u8 y1, .int .u8 y2, .int .u8 y3] := hp 0 (oFI110 p) 43 rfl rfl rfl
      have q2 : a'.tmps.getD 45 undef = sumV (crcSum x) := hp 2 (oFI112 p) 45 rfl rfl rfl
      exact step_bin rfl rfl rfl q0 q2 (guard_agg _ _ _ _ _ _) (run_neB _ _ _ _ _ _) ⟨_, rfl, rfl, Grew.refl _⟩
    · exact absurd ((Array.getElem?_eq_some_iff.1 ho).1) (by simp [opsFI11])
  · intro a' w' hF hR hp
    have e0 : psiFI11 D A2 n c2 x y0 y1 y2 y3 0 (a'.tmps.getD 43 undef) w' := hp 0 (oFI110 p) 43 rfl rfl
    have e1 : psiFI11 D A2 n c2 x y0 y1 y2 y3 1 (a'.tmps.getD 44 undef) w' := hp 1 (oFI111 p) 44 rfl rfl
    have e2 : psiFI11 D A2 n c2 x y0 y1 y2 y3 2 (a'.tmps.getD 45 undef) w' := hp 2 (oFI112 p) 45 rfl rfl
    have e3 : psiFI11 D A2 n c2 x y0 y1 y2 y3 3 (a'.tmps.getD 46 undef) w' := hp 3 (oFI113 p) 46 rfl rfl
    rw [hF.puts [(43, .agg #[.int .u8 y0, .int .u8 y1, .int .u8 y2, .int .u8 y3]), (44, .slice A2 n c2), (45, sumV (crcSum x)), (46, .bool (neB y0 y1 y2 y3 (crcSum x)))] ?_ rfl (by rw [hN]; rfl)]
    · exact hQ  w'  hR.undraw
    · intro x hx
      simp only [List.mem_cons, List.not_mem_nil, or_false] at hx
      rcases hx with rfl | rfl | rfl | rfl
      · exact e0
      · exact e1
      · exact e2
      · exact e3
end Go.Proofs.YtbhncffeoolhfaaDoor
