/- A call in an open statement. Steps of open statements: a field's place, a test for nil, a part of a tuple, an allocation. -/
import Derived.Test.YtdiihaeelcbjbaaGreatDoorMBase
-- StepC
namespace Go.Proofs.YtdiihaeelcbjbaaGreatDoor
open Go.RowKit

section
variable {n : Nat} {Q : Exit → Act → World → Prop} {ops : Array Oper} {i : Nat} {o : Oper} {a : Act} {w : World} {K : Act → World → Prop}
theorem step_callD {f : FuncId} {xs : Array Operand} {ts : Array TypeId} {vs : Array Value} (hi : ops[i]? = some o) (hw : Region.wanted o (yielded ops a.tmps) = true)
    (ho : o.op = .call { callee := .value (.func f), args := xs, argTypes := ts }) (eg : ∀ args w, (callFunc f args).run Tryz.prog w = .ok (.enter f args) w) (hxs : xs.map a.eval = vs) (hc : Calls Tryz.prog f vs w fun e w' => ∃ v, e = .returned v ∧ K (a.put o.dst v) w') : wpOpIn Fence.wide n Tryz.prog ops Q i K a w := by
  refine step_call hi hw ho trivial (fun h => by cases h) eg ?_
  rw [hxs]
  exact callsIn_wide.2 hc
end
end Go.Proofs.YtdiihaeelcbjbaaGreatDoor

-- StepF
namespace Go.Proofs.YtdiihaeelcbjbaaGreatDoor
open Go.RowKit

section
variable {n : Nat} {ops : Array Oper} {i : Nat} {o : Oper} {a : Act} {w : World} {K : Act → World → Prop} {Q : Exit → Act → World → Prop}
theorem step_fieldF {t : TypeId} {x : Operand} {j : Nat} {vx v : Value} (hi : ops[i]? = some o) (hw : Region.wanted o (yielded ops a.tmps) = true) (ho : o.op = .fieldAddr t x j) (hx : a.eval x = vx) (hr : (Instr.fieldAt t vx j).run Tryz.prog w = .ok v w) (h : K (a.put o.dst v) w) : wpOpIn Fence.wide n Tryz.prog ops Q i K a w :=
  step_run hi hw (by rw [ho]; intro c h; cases h) (by simp [Oper.about, ho]) (by simp [execOp, ho, hx, hr]) h
theorem step_nilCheckF {x : Operand} {p : Addr} (hi : ops[i]? = some o) (hw : Region.wanted o (yielded ops a.tmps) = true) (ho : o.op = .nilCheck x) (hx : a.eval x = .pointer (some p)) (_ : True) (h : K (a.put o.dst (.pointer (some p))) w) : wpOpIn Fence.wide n Tryz.prog ops Q i K a w :=
  step_run hi hw (by rw [ho]; intro c h; cases h) (by simp [Oper.about, ho]) (by simp [execOp, ho, hx]) h
theorem step_extractF {x : Operand} {j : Nat} {vs : Array Value} {v : Value} (hi : ops[i]? = some o) (hw : Region.wanted o (yielded ops a.tmps) = true) (ho : o.op = .extract x j) (hx : a.eval x = .tuple vs) (hv : vs[j]? = some v) (h : K (a.put o.dst v) w) : wpOpIn Fence.wide n Tryz.prog ops Q i K a w :=
  step_run hi hw (by rw [ho]; intro c h; cases h) (by simp [Oper.about, ho]) (by simp [execOp, ho, hx, Instr.extract, hv]) h
end
/-- An edge that binds. -/
theorem edge_ofF {o : Oper} {L : Nat → Bool} (hpre : ∀ e ∈ o.after, Region.binds .any e = true → L e.on = true) (j : Nat) (h : hasEdge o j = true) : L j = true := by
  unfold hasEdge at h
  rw [List.any_eq_true] at h
  obtain ⟨e, he, h1⟩ := h
  have h2 : e.on = j ∧ Region.binds .any e = true := by simpa using h1
  rw [← h2.1]
  exact hpre e (by simpa using he) h2.2
theorem beq_noF {L : Nat → Bool} {i j : Nat} (h : (j == i) = false) : (L j || j == i) = L j := by rw [h, Bool.or_false]
/-- Whether operation j waits for i, over others. -/
def reachB (ops : List Oper) : Nat → Nat → Nat → Bool
  | 0, _, _ => false
  | n + 1, j, i => match ops[j]? with
    | none => false
    | some o => o.after.toList.any fun e => Region.binds .any e && (e.on == i || reachB ops n e.on i)
theorem reach_ofF {ops : List Oper} {L : Nat → Bool} (hcl : ∀ j o' e, ops.toArray[j]? = some o' → L j = true → e ∈ o'.after → Region.binds .any e = true → L e.on = true) (n j i : Nat) (h : reachB ops n j i = true) (hj : L j = true) : L i = true := by
  induction n generalizing j with
  | zero => cases h
  | succ n ih =>
    unfold reachB at h
    cases ho : ops[j]? with
    | none => rw [ho] at h; cases h
    | some o =>
      rw [ho] at h
      simp only [List.any_eq_true, Bool.and_eq_true, Bool.or_eq_true, beq_iff_eq] at h
      obtain ⟨e, he, hb, h⟩ := h
      have h1 := hcl j o e (by simpa using ho) hj (by simpa using he) hb
      rcases h with h | h
      · rw [← h]; exact h1
      · exact ih _ h h1
theorem not_yetF {ops : List Oper} {L : Nat → Bool} (hcl : ∀ j o' e, ops.toArray[j]? = some o' → L j = true → e ∈ o'.after → Region.binds .any e = true → L e.on = true) (n : Nat) {i j : Nat} (h : reachB ops n j i = true) (hi : L i = false) : L j = false := by
  cases hj : L j with
  | false => rfl
  | true =>
    have := reach_ofF hcl n j i h hj
    rw [hi] at this; cases this
end Go.Proofs.YtdiihaeelcbjbaaGreatDoor
