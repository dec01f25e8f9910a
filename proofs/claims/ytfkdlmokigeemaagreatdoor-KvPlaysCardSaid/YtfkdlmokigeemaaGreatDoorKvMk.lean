/- Worlds that grew and in which new blocks may be marked: a literal's bytes, converted. -/
import Derived.Test.YtfkdlmokigeemaaGreatDoorMKvK
import Derived.Test.YtfkdlmokigeemaaGreatDoorRgPiv
import Derived.Laws.StructEq
namespace Go.Proofs.YtfkdlmokigeemaaGreatDoor
open Go.RowKit

/-- v is a slice of the bytes X, with room for them. -/
def IsBk (w : World) (v : Value) (X : List UInt8) : Prop := ∃ A L c, v = .slice A L c ∧ L = X.length ∧ L ≤ c ∧ HasA w w.heap.size A X
theorem IsBk.grew {w w' : World} {v : Value} {X : List UInt8} (h : IsBk w v X) (hb : Below w.heap.size w w') : IsBk w' v X := by
  obtain ⟨A, L, c, e, h1, h2, h3⟩ := h
  exact ⟨A, L, c, e, h1, h2, h3.below' hb⟩
theorem IsBk.isB {w : World} {v : Value} {X : List UInt8} (h : IsBk w v X) : IsB w v X := by
  obtain ⟨A, L, c, e, h1, _, h3⟩ := h
  exact ⟨A, L, c, e, h1, h3⟩
/-- Worlds that grew; blocks from N on may be marked. -/
structure Mk (N : Nat) (x y : World) : Prop where
  os : y.os = x.os
  tape : y.tape = x.tape
  output : y.output = x.output
  size : x.heap.size ≤ y.heap.size
  old : ∀ k, k < N → y.heap[k]? = x.heap[k]?
  cell : ∀ q : Addr, q.block < x.heap.size → y.cell? q = x.cell? q
  blk : ∀ (k : Nat) (C : Array Value) (e : TypeId) (fr : Nat × Nat), x.heap[k]? = some (.cells C e fr) → ∃ fr', y.heap[k]? = some (.cells C e fr')
theorem Mk.refl {N : Nat} (x : World) : Mk N x x := ⟨rfl, rfl, rfl, Nat.le_refl _, fun _ _ => rfl, fun _ _ => rfl, fun _ _ _ fr h => ⟨fr, h⟩⟩
theorem Mk.trans {N : Nat} {x y z : World} (h : Mk N x y) (k : Mk N y z) : Mk N x z :=
  ⟨k.os.trans h.os, k.tape.trans h.tape, k.output.trans h.output, Nat.le_trans h.size k.size, fun i hi => (k.old i hi).trans (h.old i hi), fun q hq => (k.cell q (Nat.lt_of_lt_of_le hq h.size)).trans (h.cell q hq), fun i C e fr hi => by
    obtain ⟨fr', h'⟩ := h.blk i C e fr hi
    exact k.blk i C e fr' h'⟩
theorem Mk.grew {N : Nat} {x y : World} (h : Below x.heap.size x y) (hN : N ≤ x.heap.size) : Mk N x y :=
  ⟨h.os, h.tape, h.output, h.size, fun k hk => h.block k (Nat.lt_of_lt_of_le hk hN), fun _q hq => h.cell hq, fun k _ _ fr hk => ⟨fr, (h.block k (Array.getElem?_eq_some_iff.1 hk).1).trans hk⟩⟩
theorem Mk.und {N : Nat} {w w' : World} (h : Mk N w.drew w') (hN : w.heap.size = N) : Below w.heap.size w w' := ⟨h.os, h.tape, h.output, h.size, fun k hk => h.old k (by omega)⟩
theorem Mk.le {N : Nat} {w w' : World} (h : Mk N w.drew w') (hN : w.heap.size = N) : N ≤ w'.heap.size := by have : w.heap.size ≤ w'.heap.size := h.size; omega
theorem HasA.mk {N : Nat} {w w' : World} {A : Option Addr} {bs : List UInt8} (h : HasA w w.heap.size A bs) (hm : Mk N w w') : HasA w' w'.heap.size A bs := fun hn => by
  obtain ⟨b, o, e, hb, hc⟩ := h hn
  exact ⟨b, o, e, Nat.lt_of_lt_of_le hb hm.size, fun j hj => (hm.cell ⟨b, o + j, none⟩ hb).trans (hc j hj)⟩
theorem IsB.mk {N : Nat} {w w' : World} {v : Value} {X : List UInt8} (h : IsB w v X) (hm : Mk N w w') : IsB w' v X := by
  obtain ⟨A, L, c, e, h1, h2⟩ := h
  exact ⟨A, L, c, e, h1, h2.mk hm⟩
theorem IsBk.mk {N : Nat} {w w' : World} {v : Value} {X : List UInt8} (h : IsBk w v X) (hm : Mk N w w') : IsBk w' v X := by
  obtain ⟨A, L, c, e, h1, h2, h3⟩ := h
  exact ⟨A, L, c, e, h1, h2, h3.mk hm⟩
/-- The bytes of a literal, ahead of their conversion. -/
def LitB (N : Nat) (w : World) (v : Value) : Prop := ∃ g, v = .slice (some ⟨g, 0, none⟩) 1 1 ∧ N ≤ g ∧ ∃ fr, w.heap[g]? = some (.cells #[.int .u8 120] 5 fr)
theorem LitB.mk {N : Nat} {w w' : World} {v : Value} (h : LitB N w v) (hm : Mk N w w') : LitB N w' v := by
  obtain ⟨g, e, h1, fr, h2⟩ := h
  exact ⟨g, e, h1, hm.blk _ _ _ fr h2⟩
theorem LitB.new {N : Nat} {w : World} (h : N ≤ w.heap.size) : LitB N (w.alloc (.cells #[.int .u8 120] 5)) (.slice (some ⟨w.heap.size, 0, none⟩) 1 1) := ⟨_, rfl, h, _, World.alloc_heap_new w _⟩
theorem Mk.freeze {N : Nat} (w : World) (q : Addr) (n : Nat) (hN : N ≤ q.block) : Mk N w (w.freeze q n) := by
  unfold World.freeze
  split
  · exact Mk.refl w
  · refine ⟨rfl, rfl, rfl, by simp, fun k hk => ?_, fun r hr => ?_, fun k C e fr hk => ?_⟩
    · simp only [Array.getElem?_modify]
      rw [if_neg (by omega)]
    · unfold World.cell?
      simp only [Array.getElem?_modify]
      by_cases h : q.block = r.block
      · rw [if_pos h]
        cases hh : w.heap[r.block]? with
        | none => rfl
        | some o =>
          cases o with
          | cells c e fr => obtain ⟨lo, hi⟩ := fr; rfl
          | _ => rfl
      · rw [if_neg h]
    · simp only [Array.getElem?_modify]
      by_cases h : q.block = k
      · rw [if_pos h, hk]
        obtain ⟨lo, hi⟩ := fr
        exact ⟨_, rfl⟩
      · rw [if_neg h]
        exact ⟨fr, hk⟩
theorem run_cvB (w : World) (g : Nat) (fr : Nat × Nat) (h : w.heap[g]? = some (.cells #[.int .u8 120] 5 fr)) :
    ∃ w', (convert 38 38 (.slice (some ⟨g, 0, none⟩) 1 1)).run Tryz.prog w = .ok (.slice (some ⟨g, 0, none⟩) 1 1) w' ∧ (∀ N, N ≤ g → Mk N w w') ∧ IsBk w' (.slice (some ⟨g, 0, none⟩) 1 1) [120] := by
  have hsh : w.shape? g = some (5, 1) := by
    unfold World.shape?
    rw [h]
    rfl
  have hrun : (convert 38 38 (.slice (some ⟨g, 0, none⟩) 1 1)).run Tryz.prog w = .ok (.slice (some ⟨g, 0, none⟩) 1 1) (w.freeze ⟨g, 1, none⟩ 1) := by
    simp [convert, run_underlying Tryz.underlying38, run_underlying Tryz.underlying5, markStringish, hsh]
  have hm : ∀ N, N ≤ g → Mk N w (w.freeze ⟨g, 1, none⟩ 1) := fun N hN => Mk.freeze w ⟨g, 1, none⟩ 1 hN
  have hlt := (Array.getElem?_eq_some_iff.1 h).1
  refine ⟨_, hrun, hm, some ⟨g, 0, none⟩, 1, 1, rfl, rfl, Nat.le_refl _, fun _ => ⟨g, 0, rfl, Nat.lt_of_lt_of_le hlt (hm 0 (Nat.zero_le _)).size, fun j hj => ?_⟩⟩
  obtain rfl : j = 0 := by simpa using hj
  rw [(hm 0 (Nat.zero_le _)).cell ⟨g, 0 + 0, none⟩ hlt]
  simp only [World.cell?, h]
  rfl
theorem run_bs1 (w : World) (x : Int) : (Instr.buildSlice 38 1 #[(0, .int .u8 x)]).run Tryz.prog w = .ok (.slice (some ⟨w.heap.size, 0, none⟩) 1 1) (w.alloc (.cells #[.int .u8 x] 5)) := by
  simp [go_sem, Instr.buildSlice]
section
variable {n : Nat} {Q : Exit → Act → World → Prop} {ops : Array Oper} {i : Nat} {o : Oper} {a : Act} {w : World} {K : Act → World → Prop}
theorem step_bs1 {x : Int} (hi : ops[i]? = some o) (hw : Region.wanted o (yielded ops a.tmps) = true) (ho : o.op = .buildSlice 38 1 #[(0, .const (.int .u8 x))]) (h : K (a.put o.dst (.slice (some ⟨w.heap.size, 0, none⟩) 1 1)) (w.alloc (.cells #[.int .u8 x] 5))) : wpOpIn Fence.wide n Tryz.prog ops Q i K a w :=
  step_run hi hw (by rw [ho]; intro c h; cases h) (by simp [Oper.about, ho]) (by
    have hb := run_bs1 w x
    simp [execOp, ho, Act.eval, hb]) h
theorem step_cvW {t u : TypeId} {x : Operand} {vx v : Value} {w' : World} (hi : ops[i]? = some o) (hw : Region.wanted o (yielded ops a.tmps) = true) (ho : o.op = .convert t u x) (hx : a.eval x = vx) (hr : (convert t u vx).run Tryz.prog w = .ok v w') (h : K (a.put o.dst v) w') : wpOpIn Fence.wide n Tryz.prog ops Q i K a w :=
  step_run hi hw (by rw [ho]; intro c h; cases h) (by simp [Oper.about, ho]) (by simp [execOp, ho, hx, hr]) h
end
theorem guard_rep (op : BinOp) (w : World) (x y : Operand) (r s : Nat × ByteArray) : (eqGuard op 29 x y (ReplyV r) (ReplyV s)).run Tryz.prog w = .ok () w := by
  have h : Tryz.prog.eqGuardType Tryz.prog.depth 29 = false := by kernel_rfl
  cases op <;> simp [eqGuard, ReplyV, h]
theorem run_neRep (w : World) (r : Nat × ByteArray) : (binOp .neq 29 (ReplyV r) (ReplyV r)).run Tryz.prog w = .ok (.bool false) w := by
  simp [go_sem, ReplyV]
theorem run_neiK (t : TypeId) (w : World) (x : Int) : (binOp .neq t (.int .i64 x) (.int .i64 x)).run Tryz.prog w = .ok (.bool false) w := by
  simp [go_sem]
theorem run_nesK (t : TypeId) (w : World) (x : ByteArray) : (binOp .neq t (.string x) (.string x)).run Tryz.prog w = .ok (.bool false) w := by
  simp [go_sem]
/-- Behind the command: the states as they are since, new blocks from M on. -/
structure PlI {T : World → Prop} (K : KvK T) (w0 : World) (n : Nat) (R : Nat → Nat) (l : Nat → List PV) (P : Nat → Prop) (M : Nat) (W : World) : Prop where
  ex : ∃ W1, W1.heap.size = M ∧ KW K w0 n R l P W1 ∧ Mk M W1 W
theorem PlI.kw {T : World → Prop} {K : KvK T} {w0 W : World} {n : Nat} {R : Nat → Nat} {l : Nat → List PV} {P : Nat → Prop} {M : Nat} (h : PlI K w0 n R l P M W) : KW K w0 n R l P W := by
  obtain ⟨W1, h1, h2, h3⟩ := h.ex
  exact h2.grew ⟨h3.os, h3.tape, h3.output, h3.size, fun k hk => h3.old k (by omega)⟩
theorem PlI.le {T : World → Prop} {K : KvK T} {w0 W : World} {n : Nat} {R : Nat → Nat} {l : Nat → List PV} {P : Nat → Prop} {M : Nat} (h : PlI K w0 n R l P M W) : M ≤ W.heap.size := by
  obtain ⟨W1, h1, h2, h3⟩ := h.ex
  have := h3.size
  omega
theorem PlI.mark {T : World → Prop} {K : KvK T} {w0 W W' : World} {n : Nat} {R : Nat → Nat} {l : Nat → List PV} {P : Nat → Prop} {M : Nat} (h : PlI K w0 n R l P M W) (hm : Mk M W W') : PlI K w0 n R l P M W' := by
  obtain ⟨W1, h1, h2, h3⟩ := h.ex
  exact ⟨W1, h1, h2, h3.trans hm⟩
end Go.Proofs.YtfkdlmokigeemaaGreatDoor
