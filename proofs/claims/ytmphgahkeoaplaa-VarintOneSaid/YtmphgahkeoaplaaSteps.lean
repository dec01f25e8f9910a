/- Steps of a region that draws its order, each by what it puts into its slot. -/
import Derived.Test.YtmphgahkeoaplaaW8
namespace Go.Proofs.Ytmphgahkeoaplaa
open Go.RowKit

/-- The relation of worlds: nothing that lay has turned. -/
def Grew (w w' : World) : Prop := Below w.heap.size w w'
theorem Grew.refl (w : World) : Grew w w := Below.refl _ _
theorem Grew.trans {x y z : World} (h : Grew x y) (k : Grew y z) : Grew x z := Below.trans h (Below.mono k (Below.size h))

theorem Grew.undraw {w w' : World} (h : Grew w.drew w') : Grew w w' := by
  have k : Below w.drew.heap.size w.drew w' := h
  exact ⟨k.os, k.tape, k.output, k.size, k.block⟩

/-- v is a slice of the bytes X. -/
def IsB (w : World) (v : Value) (X : List UInt8) : Prop := ∃ A L c, v = .slice A L c ∧ L = X.length ∧ HasA w w.heap.size A X
theorem IsB.grew {w w' : World} {v : Value} {X : List UInt8} (h : IsB w v X) (hg : Grew w w') : IsB w' v X := by
  obtain ⟨A, L, c, hv, hL, hA⟩ := h
  exact ⟨A, L, c, hv, hL, hA.below' hg⟩
theorem IsB.own {w : World} {base n : Nat} {v : Value} {X : List UInt8} (h : w.ownsRow base 5 1 v n (X.map enc)) : IsB w v X := by
  rcases h.2 with ⟨rfl, h0⟩ | ⟨g, cap, cur, rfl, _⟩
  · subst h0
    exact ⟨none, 0, 0, rfl, own_len h, HasA.of_own h⟩
  · exact ⟨_, n, cap, rfl, own_len h, HasA.of_own h⟩
theorem IsB.conv {w : World} {v : Value} {X : List UInt8} (h : IsB w v X) : (convert 22 9 v).run Try.prog w = .ok (.string (str X)) w := by
  obtain ⟨A, L, c, rfl, hL, hA⟩ := h
  exact run_conv hA c Try.underlying22 Try.underlying5 Try.underlying9 hL

/-- A slot that the region doesn't fill. -/
theorem Frm.at {ops : List Oper} {a a' : Act} (h : Frm ops a a') (s : Nat) {v : Value} (hs : (ops.all fun o => !(o.dst == some s)) = true) (hv : a.tmps.getD s undef = v) : a'.tmps.getD s undef = v := by
  rw [← hv]
  refine h.old s fun o ho e => ?_
  rw [List.all_eq_true] at hs
  have := hs o ho
  simp [e] at this

theorem getD_some {tmps : Array Value} {d : Nat} {b : Bool} (h : tmps.getD d undef = .bool b) : tmps[d]? = some (.bool b) := by
  rw [Array.getD_eq_getD_getElem?] at h
  cases hx : tmps[d]? with
  | none => rw [hx] at h; cases h
  | some x => rw [hx] at h; simp at h; rw [h]

theorem wanted_on {ops : Array Oper} {o og : Oper} {a : Act} {g d : Nat} {b : Bool} (hg : o.guard = some (g, b)) (hog : ops[g]? = some og) (hd : og.dst = some d) (h : a.tmps.getD d undef = .bool b) : Region.wanted o (yielded ops a.tmps) = true := by
  simp [Region.wanted, hg, yielded, hog, hd, getD_some h]
theorem wanted_off {ops : Array Oper} {o og : Oper} {a : Act} {g d : Nat} {b : Bool} (hg : o.guard = some (g, b)) (hog : ops[g]? = some og) (hd : og.dst = some d) (h : a.tmps.getD d undef = .bool (!b)) : Region.wanted o (yielded ops a.tmps) = false := by
  simp [Region.wanted, hg, yielded, hog, hd, getD_some h]

section
variable {n : Nat} {Q : Exit → Act → World → Prop} {ops : Array Oper} {i : Nat} {o : Oper} {a : Act} {w : World} {K : Act → World → Prop}

/-- An operation whose guard says no. -/
theorem step_off {P : Program} (hi : ops[i]? = some o) (hw : Region.wanted o (yielded ops a.tmps) = false) (h : K (a.put o.dst undef) w) : wpOpIn Fence.wide n P ops Q i K a w := by
  unfold wpOpIn
  simp only [hi, hw]
  exact ⟨fun _ _ => trivial, h⟩

theorem step_move {x : Operand} {v : Value} (hi : ops[i]? = some o) (hw : Region.wanted o (yielded ops a.tmps) = true) (ho : o.op = .move x) (hx : a.eval x = v) (h : K (a.put o.dst v) w) : wpOpIn Fence.wide n Try.prog ops Q i K a w :=
  step_run hi hw (by rw [ho]; intro c h; cases h) (by simp [Oper.about, ho]) (by simp [execOp, ho, hx]) h
theorem step_assign {x : Operand} {v : Value} (hi : ops[i]? = some o) (hw : Region.wanted o (yielded ops a.tmps) = true) (ho : o.op = .assign x) (hx : a.eval x = v) (h : K (a.put o.dst v) w) : wpOpIn Fence.wide n Try.prog ops Q i K a w :=
  step_run hi hw (by rw [ho]; intro c h; cases h) (by simp [Oper.about, ho]) (by simp [execOp, ho, hx]) h
theorem step_pick {x y z : Operand} {b : Bool} {v : Value} (hi : ops[i]? = some o) (hw : Region.wanted o (yielded ops a.tmps) = true) (ho : o.op = .pick x y z) (hx : a.eval x = .bool b) (hv : (if b then a.eval y else a.eval z) = v) (h : K (a.put o.dst v) w) : wpOpIn Fence.wide n Try.prog ops Q i K a w :=
  step_run hi hw (by rw [ho]; intro c h; cases h) (by simp [Oper.about, ho]) (by cases b <;> simp_all [execOp, asBool]) h
theorem step_conv {x : Operand} {X : List UInt8} (hi : ops[i]? = some o) (hw : Region.wanted o (yielded ops a.tmps) = true) (ho : o.op = .convert 22 9 x) (hx : IsB w (a.eval x) X) (h : K (a.put o.dst (.string (str X))) w) : wpOpIn Fence.wide n Try.prog ops Q i K a w :=
  step_run hi hw (by rw [ho]; intro c h; cases h) (by simp [Oper.about, ho]) (by simp [execOp, ho, hx.conv]) h
theorem step_bin {op : BinOp} {t u : TypeId} {x y : Operand} {vx vy v : Value} (hi : ops[i]? = some o) (hw : Region.wanted o (yielded ops a.tmps) = true) (ho : o.op = .binOp op t x y u) (hx : a.eval x = vx) (hy : a.eval y = vy)
    (hg : (eqGuard op t x y vx vy).run Try.prog w = .ok () w) (hr : (binOp op t vx vy).run Try.prog w = .ok v w) (h : K (a.put o.dst v) w) : wpOpIn Fence.wide n Try.prog ops Q i K a w :=
  step_run hi hw (by rw [ho]; intro c h; cases h) (by simp [Oper.about, ho]) (by simp [execOp, ho, hx, hy, hg, hr]) h

theorem step_append {s x : Operand} {X : List UInt8} (hX : X.length ≤ 1000000) (hi : ops[i]? = some o) (hw : Region.wanted o (yielded ops a.tmps) = true) (ho : o.op = .call { callee := .builtin .append, args := #[s, x], argTypes := #[22, 22] })
    (hs : a.eval s = .slice none 0 0) (hx : IsB w (a.eval x) X) (h : ∀ v w', IsB w' v X → Grew w w' → K (a.put o.dst v) w') : wpOpIn Fence.wide n Try.prog ops Q i K a w := by
  obtain ⟨i0, hi0, hz0, hz1, hz2⟩ := info_parts info5
  obtain ⟨A, L, c, hv, hL, hA⟩ := hx
  obtain ⟨v', w', hrun, h1, h2⟩ := run_append_has (P := Try.prog) (w := w) w.heap.size 22 o.type 5 i0 Try.underlying22 hi0 hz0 hz1 hz2 (.slice none 0 0) 0 [] (World.ownsRow_nil _ _ _ _) w.heap.size A L c X hL hA (by omega) (Nat.le_refl _)
  refine step_run hi hw (by rw [ho]; intro c h; cases h) (by simp [Oper.about, ho, resolve, Target.leads, Sem.run_pure]) (v := v') (w' := w') ?_ (h v' w' (IsB.own h1) ?_)
  · unfold execOp
    simp only [ho, resolve, invoke, builtin, Sem.run_bind, Sem.run_pure, Result.andThen_ok, List.map_toArray, List.map_cons, List.map_nil, hs, hv, hrun]
  · exact (Below.refl _ _).grown h2 (Nat.le_refl _) (fun k e => by cases e)

/-- A call that gives back a new slice. -/
theorem step_gives {f : FuncId} {xs : Array Operand} {ts : Array TypeId} {vs : Array Value} {X : List UInt8} (hi : ops[i]? = some o) (hw : Region.wanted o (yielded ops a.tmps) = true)
    (ho : o.op = .call { callee := .value (.func f), args := xs, argTypes := ts }) (eg : ∀ args w, (callFunc f args).run Try.prog w = .ok (.enter f args) w) (hxs : xs.map a.eval = vs) (hc : Calls Try.prog f vs w (Gives w X))
    (h : ∀ v w', IsB w' v X → Grew w w' → K (a.put o.dst v) w') : wpOpIn Fence.wide n Try.prog ops Q i K a w := by
  refine step_call hi hw ho trivial (fun h => by cases h) eg ?_
  rw [hxs]
  refine (callsIn_wide.2 hc).mono ?_
  rintro e w' ⟨g, L, c, rfl, hown, hb⟩
  exact ⟨_, rfl, h _ _ (IsB.own hown) hb⟩
theorem step_wakes {ts : Array TypeId} (hi : ops[i]? = some o) (hw : Region.wanted o (yielded ops a.tmps) = true) (ho : o.op = .call { callee := .value (.func 6), args := #[], argTypes := ts })
    (h : ∀ w', Grew w w' → K (a.put o.dst (.bool true)) w') : wpOpIn Fence.wide n Try.prog ops Q i K a w := by
  refine step_call hi hw ho trivial (fun h => by cases h) (enters_of Try.func6 (by kernel_rfl) rfl) ?_
  rw [show Array.map a.eval #[] = #[] by simp]
  refine (callsIn_wide.2 (wakes_any w)).mono ?_
  rintro e w' ⟨rfl, hb⟩
  exact ⟨_, rfl, h _ hb⟩
end

theorem run_add (w : World) (x y : List UInt8) (h : x.length + y.length ≤ 1000000000) : (binOp .add 9 (.string (str x)) (.string (str y))).run Try.prog w = .ok (.string (str (x ++ y))) w := by
  have h1 := str_size x
  have h2 := str_size y
  simp [go_sem, str_append]
  omega
theorem run_eq (w : World) (x y : List UInt8) : (binOp .eql 9 (.string (str x)) (.string (str y))).run Try.prog w = .ok (.bool (x == y)) w := by
  simp only [binOp_string_eql, Sem.run_pure, str_toList]
theorem run_neq (w : World) (x y : List UInt8) : (binOp .neq 9 (.string (str x)) (.string (str y))).run Try.prog w = .ok (.bool (x != y)) w := by
  simp [go_sem, str_toList, bne]
theorem guard_str (op : BinOp) (t : TypeId) (w : World) (x y : Operand) (s u : ByteArray) : (eqGuard op t x y (.string s) (.string u)).run Try.prog w = .ok () w := by
  cases op <;> simp [eqGuard]
theorem guard_int (op : BinOp) (t : TypeId) (w : World) (x y : Operand) (k k' : IntKind) (s u : Int) : (eqGuard op t x y (.int k s) (.int k' u)).run Try.prog w = .ok () w := by
  cases op <;> simp [eqGuard]
theorem guard_bool (op : BinOp) (t : TypeId) (w : World) (x y : Operand) (s u : Bool) : (eqGuard op t x y (.bool s) (.bool u)).run Try.prog w = .ok () w := by
  cases op <;> simp [eqGuard]
theorem run_eqb (w : World) (x y : Bool) : (binOp .eql 4 (.bool x) (.bool y)).run Try.prog w = .ok (.bool (x == y)) w := by
  simp [go_sem]
theorem run_equ (w : World) (x y : Int) : (binOp .eql 23 (.int .u64 x) (.int .u64 y)).run Try.prog w = .ok (.bool (x == y)) w := by
  simp [go_sem]
theorem run_eqe (w : World) (x y : Int) : (binOp .eql 38 (.int .i64 x) (.int .i64 y)).run Try.prog w = .ok (.bool (x == y)) w := by
  simp [go_sem]
end Go.Proofs.Ytmphgahkeoaplaa
