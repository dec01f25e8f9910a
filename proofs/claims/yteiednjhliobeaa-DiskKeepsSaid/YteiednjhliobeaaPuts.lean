/- A frame behind a region that drew its order, put together again; more steps of such regions. -/
import Derived.Test.YteiednjhliobeaaBase
namespace Go.Proofs.Yteiednjhliobeaa
open Go.RowKit

/-- Slots that are filled, one after another. -/
def puts (l : List (Nat × Value)) (a : Act) : Act := l.foldl (fun x p => x.put (some p.1) p.2) a
theorem puts_size : ∀ (l : List (Nat × Value)) (a : Act), (puts l a).tmps.size = a.tmps.size
  | [], _ => rfl
  | p :: l, a => (puts_size l (a.put (some p.1) p.2)).trans size_put
theorem puts_defers : ∀ (l : List (Nat × Value)) (a : Act), (puts l a).defers = a.defers
  | [], _ => rfl
  | p :: l, a => (puts_defers l (a.put (some p.1) p.2)).trans defers_put
theorem puts_old : ∀ (l : List (Nat × Value)) (a : Act) (s : Nat), s ∉ l.map (·.1) → (puts l a).tmps.getD s undef = a.tmps.getD s undef
  | [], _, _, _ => rfl
  | p :: l, a, s, h => by
    simp only [List.map_cons, List.mem_cons, not_or] at h
    exact (puts_old l (a.put (some p.1) p.2) s h.2).trans (getD_put_ne h.1)
theorem puts_new (v : Nat → Value) : ∀ (l : List (Nat × Value)) (a : Act) (s : Nat), (∀ p ∈ l, v p.1 = p.2) → (∀ p ∈ l, p.1 < a.tmps.size) → s ∈ l.map (·.1) → (puts l a).tmps.getD s undef = v s
  | [], _, _, _, _, h => by simp at h
  | p :: l, a, s, hv, hz, h => by
    by_cases hs : s ∈ l.map (·.1)
    · exact puts_new v l (a.put (some p.1) p.2) s (fun q hq => hv q (by simp [hq])) (fun q hq => by rw [size_put]; exact hz q (by simp [hq])) hs
    · have e : s = p.1 := by simpa [hs] using h
      subst e
      refine (puts_old l _ _ hs).trans ?_
      rw [getD_put_same (hz p (by simp))]
      exact (hv p (by simp)).symm
/-- Every slot that the operations fill is on the list. -/
def coversB (ops : List Oper) (l : List (Nat × Value)) : Bool := ops.all fun o => match o.dst with | some d => l.any (fun p => p.1 == d) | none => true
def fitsB (N : Nat) (l : List (Nat × Value)) : Bool := l.all fun p => decide (p.1 < N)
theorem Frm.puts {ops : List Oper} {a a' : Act} (h : Frm ops a a') (l : List (Nat × Value)) (hl : ∀ p ∈ l, a'.tmps.getD p.1 undef = p.2) (hc : coversB ops l = true) (hz : fitsB a.tmps.size l = true) : a' = puts l a := by
  have hz' : ∀ p ∈ l, p.1 < a.tmps.size := fun p hp => by
    have := List.all_eq_true.1 hz p hp
    simpa using this
  have ht : a'.tmps = (Go.Proofs.Yteiednjhliobeaa.puts l a).tmps := by
    apply Array.ext
    · rw [puts_size, h.size]
    · intro i h1 h2
      have e : ∀ (x : Array Value) (hx : i < x.size), x.getD i undef = x[i] := fun x hx => by simp [Array.getD, hx]
      rw [← e _ h1, ← e _ h2]
      by_cases hs : i ∈ l.map (·.1)
      · exact (puts_new (fun s => a'.tmps.getD s undef) l a i hl hz' hs).symm
      · rw [puts_old l a i hs]
        refine h.old i fun o ho e => hs ?_
        have := List.all_eq_true.1 hc o ho
        rw [e] at this
        simp only [List.any_eq_true, beq_iff_eq] at this
        obtain ⟨p, hp, rfl⟩ := this
        exact List.mem_map_of_mem hp
  have hd : a'.defers = (Go.Proofs.Yteiednjhliobeaa.puts l a).defers := by rw [puts_defers, h.defers]
  cases a'; cases hq : Go.Proofs.Yteiednjhliobeaa.puts l a; simp_all

theorem run_addi (t : TypeId) (w : World) (x y : Int) (h1 : -9223372036854775808 ≤ x + y) (h2 : x + y ≤ 9223372036854775807) : (binOp .add t (.int .i64 x) (.int .i64 y)).run Try.prog w = .ok (.int .i64 (x + y)) w := by
  simp [go_sem, IntKind.wrap_i64]; omega
theorem run_not (w : World) (b : Bool) : (Op.unary .not (.bool b)).run Try.prog w = .ok (.bool (!b)) w := by
  simp [go_sem]
section
variable {n : Nat} {Q : Exit → Act → World → Prop} {ops : Array Oper} {i : Nat} {o : Oper} {a : Act} {w : World} {K : Act → World → Prop}
theorem step_un {op : UnOp} {t : TypeId} {x : Operand} {vx v : Value} (hi : ops[i]? = some o) (hw : Region.wanted o (yielded ops a.tmps) = true) (ho : o.op = .unOp op t x) (hx : a.eval x = vx) (hr : (Op.unary op vx).run Try.prog w = .ok v w) (h : K (a.put o.dst v) w) : wpOpIn Fence.wide n Try.prog ops Q i K a w :=
  step_run hi hw (by rw [ho]; intro c h; cases h) (by simp [Oper.about, ho]) (by simp [execOp, ho, hx, hr]) h
theorem step_cv {t u : TypeId} {x : Operand} {vx v : Value} (hi : ops[i]? = some o) (hw : Region.wanted o (yielded ops a.tmps) = true) (ho : o.op = .convert t u x) (hx : a.eval x = vx) (hr : (convert t u vx).run Try.prog w = .ok v w) (h : K (a.put o.dst v) w) : wpOpIn Fence.wide n Try.prog ops Q i K a w :=
  step_run hi hw (by rw [ho]; intro c h; cases h) (by simp [Oper.about, ho]) (by simp [execOp, ho, hx, hr]) h
theorem step_load {t : TypeId} {x : Operand} {vx v : Value} (hi : ops[i]? = some o) (hw : Region.wanted o (yielded ops a.tmps) = true) (ho : o.op = .load t x) (hx : a.eval x = vx) (hr : (Instr.loadAt t vx).run Try.prog w = .ok v w) (h : K (a.put o.dst v) w) : wpOpIn Fence.wide n Try.prog ops Q i K a w :=
  step_run hi hw (by rw [ho]; intro c h; cases h) (by simp [Oper.about, ho]) (by simp [execOp, ho, hx, hr]) h
theorem step_index {t : TypeId} {x y : Operand} {vx vy v : Value} (hi : ops[i]? = some o) (hw : Region.wanted o (yielded ops a.tmps) = true) (ho : o.op = .indexAddr t x y) (hx : a.eval x = vx) (hy : a.eval y = vy) (hr : (Instr.indexAt t vx vy).run Try.prog w = .ok v w) (h : K (a.put o.dst v) w) : wpOpIn Fence.wide n Try.prog ops Q i K a w :=
  step_run hi hw (by rw [ho]; intro c h; cases h) (by simp [Oper.about, ho]) (by simp [execOp, ho, hx, hy, hr]) h
theorem step_upto {t : TypeId} {x y : Operand} {vx vy v : Value} (hi : ops[i]? = some o) (hw : Region.wanted o (yielded ops a.tmps) = true) (ho : o.op = .slice t x none (some y) none) (hx : a.eval x = vx) (hy : a.eval y = vy) (hr : (Instr.sliceAt t vx none (some vy) none).run Try.prog w = .ok v w) (h : K (a.put o.dst v) w) : wpOpIn Fence.wide n Try.prog ops Q i K a w :=
  step_run hi hw (by rw [ho]; intro c h; cases h) (by simp [Oper.about, ho]) (by simp [execOp, ho, hx, hy, hr]) h
theorem step_from {t : TypeId} {x y : Operand} {vx vy v : Value} (hi : ops[i]? = some o) (hw : Region.wanted o (yielded ops a.tmps) = true) (ho : o.op = .slice t x (some y) none none) (hx : a.eval x = vx) (hy : a.eval y = vy) (hr : (Instr.sliceAt t vx (some vy) none none).run Try.prog w = .ok v w) (h : K (a.put o.dst v) w) : wpOpIn Fence.wide n Try.prog ops Q i K a w :=
  step_run hi hw (by rw [ho]; intro c h; cases h) (by simp [Oper.about, ho]) (by simp [execOp, ho, hx, hy, hr]) h
theorem step_between {t : TypeId} {x y z : Operand} {vx vy vz v : Value} (hi : ops[i]? = some o) (hw : Region.wanted o (yielded ops a.tmps) = true) (ho : o.op = .slice t x (some y) (some z) none) (hx : a.eval x = vx) (hy : a.eval y = vy) (hz : a.eval z = vz) (hr : (Instr.sliceAt t vx (some vy) (some vz) none).run Try.prog w = .ok v w) (h : K (a.put o.dst v) w) : wpOpIn Fence.wide n Try.prog ops Q i K a w :=
  step_run hi hw (by rw [ho]; intro c h; cases h) (by simp [Oper.about, ho]) (by simp [execOp, ho, hx, hy, hz, hr]) h
theorem step_len {t e : TypeId} (ht : Try.prog.underlying t = some (.slice e)) {x : Operand} {A : Option Addr} {L c : Nat} (hi : ops[i]? = some o) (hw : Region.wanted o (yielded ops a.tmps) = true) (ho : o.op = .call { callee := .builtin .len, args := #[x], argTypes := #[t] }) (hx : a.eval x = .slice A L c) (h : K (a.put o.dst (.int .i64 (L : Int))) w) : wpOpIn Fence.wide n Try.prog ops Q i K a w := by
  refine step_run hi hw (by rw [ho]; intro c h; cases h) (by simp [Oper.about, ho, resolve, Target.leads, Sem.run_pure]) (v := .int .i64 (L : Int)) (w' := w) ?_ h
  have hl : (Builtin.len_ #[t] o.type #[.slice A L c]).run Try.prog w = .ok (.int .i64 (L : Int)) w := by
    simp [Builtin.len_, run_underlying ht]; rfl
  unfold execOp
  simp only [ho, resolve, invoke, builtin, Sem.run_bind, Sem.run_pure, Result.andThen_ok, List.map_toArray, List.map_cons, List.map_nil, hx, hl]
end
theorem own_below {w w' : World} {base n : Nat} {e : TypeId} {v : Value} {vs : List Value} (h : w.ownsRow base e 1 v n vs) (hb : Below w.heap.size w w') : w'.ownsRow base e 1 v n vs := by
  refine ⟨h.1, ?_⟩
  rcases h.2 with h2 | ⟨g, cap, cur, a, b, r, s⟩
  · exact .inl h2
  · exact .inr ⟨g, cap, cur, a, b, (hb.block g (Array.getElem?_eq_some_iff.1 r).1).trans r, s⟩

theorem own_cap {w : World} {base n c : Nat} {e : TypeId} {A : Option Addr} {xs : List Value} (h : w.ownsRow base e 1 (.slice A n c) n xs) : n ≤ c := by
  rcases h.2 with ⟨h1, h0⟩ | ⟨g, cap, cur, hv, _, _, hc, _⟩
  · omega
  · cases hv; exact hc

theorem own_apart {w : World} {b1 b2 n1 n2 : Nat} {e1 e2 : TypeId} {v1 v2 : Value} {xs1 xs2 : List Value} (h1 : w.ownsRow b1 e1 1 v1 n1 xs1) (h2 : w.ownsRow b2 e2 1 v2 n2 xs2) (he : e1 ≠ e2) : v1.ownBlock = none ∨ v1.ownBlock ≠ v2.ownBlock := by
  rcases h1.2 with ⟨rfl, _⟩ | ⟨g1, c1, cur1, rfl, _, k1, _⟩
  · exact .inl rfl
  · refine .inr ?_
    rcases h2.2 with ⟨rfl, _⟩ | ⟨g2, c2, cur2, rfl, _, k2, _⟩
    · simp [Value.ownBlock]
    · intro h
      simp only [Value.ownBlock, Option.some.injEq] at h
      rw [h, k2] at k1
      simp only [Option.some.injEq, Obj.cells.injEq] at k1
      exact he k1.2.1.symm

theorem own_form {w : World} {base n : Nat} {e : TypeId} {v : Value} {xs : List Value} (h : w.ownsRow base e 1 v n xs) : ∃ A c, v = .slice A n c := by
  rcases h.2 with ⟨rfl, h0⟩ | ⟨g, cap, cur, rfl, _⟩
  · exact ⟨none, 0, by rw [h0]⟩
  · exact ⟨_, _, rfl⟩
/-- s[:N]. -/
theorem run_upto (w : World) (A : Option Addr) (L c N : Nat) (h : N ≤ c) (hc : N ≤ 1000000) : (Instr.sliceAt 27 (.slice A L c) none (some (.int .i64 (N : Int))) none).run Try.prog w = .ok (.slice A N c) w := by
  have h1 : (0 : Int) ≤ N := by omega
  have h2 : (N : Int) ≤ c := by omega
  simp [go_sem, h1, h2]
end Go.Proofs.Yteiednjhliobeaa
