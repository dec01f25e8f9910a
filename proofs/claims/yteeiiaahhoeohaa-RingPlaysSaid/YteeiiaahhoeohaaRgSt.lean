/- The state of the law that a ring plays as a table does: its steps. -/
import Derived.Test.YteeiiaahhoeohaaRgHolds
namespace Go.Proofs.Yteeiiaahhoeohaa
open Go.RowKit

/-- An act as it lies: what to do, the slot, the text. -/
structure ActR where
  d : Nat
  k : Nat
  v : ByteArray
def ActR.ok (a : ActR) : Prop := a.d < 256 ∧ a.k < 18446744073709551616 ∧ a.v.size ≤ maxLen
/-- Acts that lie in a row. -/
def InActsR (w : World) (A : Option Addr) (l : List ActR) : Prop := l ≠ [] → ∃ b o, A = some ⟨b, o, none⟩ ∧ b < w.heap.size ∧ ∀ j (h : j < l.length), w.cell? ⟨b, o + j * 3, none⟩ = some (.int .u8 (l[j].d : Int)) ∧ w.cell? ⟨b, o + j * 3 + 1, none⟩ = some (.int .u64 (l[j].k : Int)) ∧ w.cell? ⟨b, o + j * 3 + 2, none⟩ = some (.string l[j].v) ∧ l[j].ok
/-- What nil, as a ring of texts, answers. -/
structure NilS : Prop where
  get : ∀ (w : World) (k : Nat), k < 18446744073709551616 → Calls Try.prog 6 #[.pointer none, .int .u64 (k : Int)] w fun e W' => e = .returned (.tuple #[.string ⟨#[]⟩, .bool false]) ∧ Below w.heap.size w W'
  set : ∀ (w : World) (k : Nat) (v : ByteArray), k < 18446744073709551616 → Calls Try.prog 7 #[.pointer none, .int .u64 (k : Int), .string v] w fun e W' => e = .returned (.int .i64 2) ∧ Below w.heap.size w W'
  rel : ∀ (w : World) (k : Nat), k < 18446744073709551616 → Calls Try.prog 8 #[.pointer none, .int .u64 (k : Int)] w fun e W' => e = .returned (.int .i64 2) ∧ Below w.heap.size w W'
  base : ∀ (w : World), Calls Try.prog 9 #[.pointer none] w fun e W' => e = .returned (.int .u64 0) ∧ Below w.heap.size w W'
  last : ∀ (w : World), Calls Try.prog 10 #[.pointer none] w fun e W' => e = .returned (.int .u64 0) ∧ Below w.heap.size w W'

/-- The ring is what the table has in the window; beyond it the table has nothing. -/
structure Fits (s : RS ByteArray) (N b : Nat) (T : Nat → Option ByteArray) : Prop where
  hn : s.n = N
  hb : s.b = b
  t : ∀ j, s.t j = if b < j ∧ j ≤ b + N then T j else none
  up : ∀ j, b + N < j → T j = none
structure PlS (K : RingS) (w : World) (R tb N b m : Nat) (W : World) : Prop where
  ex : ∃ s n T, LiveM K w R s tb n T W ∧ n ≤ m ∧ Fits s N b T
/-- The table has the slot; the ring not yet. -/
structure PlP (K : RingS) (w : World) (R tb N b m k : Nat) (v : ByteArray) (W : World) : Prop where
  ex : ∃ s n T, LiveM K w R s tb n (fun j => if j = k then some v else T j) W ∧ n ≤ m ∧ Fits s N b T
section
variable {K : RingS} {w W W' : World} {R tb N b m k : Nat} {v : ByteArray}
theorem PlS.below (h : PlS K w R tb N b m W) : Below w.heap.size w W := by obtain ⟨s, n, T, h, _⟩ := h.ex; exact h.below
theorem PlP.below (h : PlP K w R tb N b m k v W) : Below w.heap.size w W := by obtain ⟨s, n, T, h, _⟩ := h.ex; exact h.below
theorem PlS.more (h : PlS K w R tb N b m W) {m' : Nat} (hm : m ≤ m') : PlS K w R tb N b m' W := by
  obtain ⟨s, n, T, h, hn, hf⟩ := h.ex
  exact ⟨s, n, T, h, Nat.le_trans hn hm, hf⟩
theorem PlS.of_new (h : LiveR K w R (RS.new ByteArray N) W) : PlS K w R W.heap.size N 0 0 (W.alloc (.map #[] 0)) :=
  ⟨_, 0, fun _ => none, LiveM.of_new h, Nat.le_refl _, rfl, rfl, fun j => by show none = _; split <;> rfl, fun _ _ => rfl⟩
theorem PlS.base (hB : BaseS K) (h : PlS K w R tb N b m W) : Calls Try.prog 9 #[.pointer (some ⟨R, 0, none⟩)] W fun e W' => e = .returned (.int .u64 (b : Int)) ∧ PlS K w R tb N b m W' := by
  obtain ⟨s, n, T, h, hn, hf⟩ := h.ex
  exact (h.base hB).mono fun _ _ ⟨he, h'⟩ => ⟨by rw [he, hf.hb], s, n, T, h', hn, hf⟩
theorem PlS.holds (hA : AllS K) (h : PlS K w R tb N b m W) (h1 : 1 ≤ N) (h2 : N ≤ 50) (h3 : b ≤ 1152921504606846976) : Calls Try.prog 12 #[.pointer (some ⟨R, 0, none⟩), .map (some tb), .int .u64 (b : Int), .int .i64 (N : Int)] W fun e W' => e = .returned (.bool true) ∧ PlS K w R tb N b m W' := by
  obtain ⟨s, n, T, hl, hn, hf⟩ := h.ex
  obtain ⟨rfl, rfl, ht, hu⟩ := hf
  exact (holds_any K hA w W R s tb n T hl h1 h2 h3 ht).mono fun _ _ ⟨he, h'⟩ => ⟨he, s, n, T, h', hn, rfl, rfl, ht, hu⟩
theorem PlS.set1 (h : PlS K w R tb N b m W) (v : ByteArray) (hk : k ≤ b) (hk64 : k < 18446744073709551616) : Calls Try.prog 7 #[.pointer (some ⟨R, 0, none⟩), .int .u64 (k : Int), .string v] W fun e W' => e = .returned (.int .i64 31) ∧ PlS K w R tb N b m W' := by
  obtain ⟨s, n, T, h, hn, hf⟩ := h.ex
  have e : s.set k v = (s, 31) := by unfold RS.set; rw [if_pos (by rw [hf.hb]; exact hk)]
  exact (h.set k v hk64).mono fun _ _ ⟨he, h'⟩ => by rw [e] at he h'; exact ⟨he, s, n, T, h', hn, hf⟩
theorem PlS.set2 (h : PlS K w R tb N b m W) (v : ByteArray) (hk : b + N < k) (hk64 : k < 18446744073709551616) : Calls Try.prog 7 #[.pointer (some ⟨R, 0, none⟩), .int .u64 (k : Int), .string v] W fun e W' => e = .returned (.int .i64 30) ∧ PlS K w R tb N b m W' := by
  obtain ⟨s, n, T, h, hn, hf⟩ := h.ex
  have e : s.set k v = (s, 30) := by unfold RS.set; rw [if_neg (by rw [hf.hb]; omega), if_pos (by rw [hf.hb, hf.hn]; exact hk)]
  exact (h.set k v hk64).mono fun _ _ ⟨he, h'⟩ => by rw [e] at he h'; exact ⟨he, s, n, T, h', hn, hf⟩
theorem PlP.set (h : PlP K w R tb N b m k v W) (hk1 : b < k) (hk2 : k ≤ b + N) (hk64 : k < 18446744073709551616) : Calls Try.prog 7 #[.pointer (some ⟨R, 0, none⟩), .int .u64 (k : Int), .string v] W fun e W' => e = .returned (.int .i64 0) ∧ PlS K w R tb N b m W' := by
  obtain ⟨s, n, T, h, hn, hf⟩ := h.ex
  have e : s.set k v = ({ s with t := fun j => if j = k then some v else s.t j }, 0) := by unfold RS.set; rw [if_neg (by rw [hf.hb]; omega), if_neg (by rw [hf.hb, hf.hn]; omega)]
  refine (h.set k v hk64).mono fun _ _ ⟨he, h'⟩ => ?_
  rw [e] at he h'
  refine ⟨he, _, n, _, h', hn, hf.hn, hf.hb, fun j => ?_, fun j hj => ?_⟩
  · show (if j = k then some v else s.t j) = _
    by_cases hjk : j = k
    · simp only [hjk, if_true]; rw [if_pos ⟨hk1, hk2⟩]
    · simp only [hjk, if_false]; exact hf.t j
  · show (if j = k then some v else T j) = none
    rw [if_neg (by omega)]
    exact hf.up j hj
theorem PlS.rel1 (h : PlS K w R tb N b m W) (hk : k < b) (hk64 : k < 18446744073709551616) : Calls Try.prog 8 #[.pointer (some ⟨R, 0, none⟩), .int .u64 (k : Int)] W fun e W' => e = .returned (.int .i64 31) ∧ PlS K w R tb N b m W' := by
  obtain ⟨s, n, T, h, hn, hf⟩ := h.ex
  have e : s.rel k = (s, 31) := by unfold RS.rel; rw [if_pos (by rw [hf.hb]; exact hk)]
  exact (h.rel k hk64).mono fun _ _ ⟨he, h'⟩ => by rw [e] at he h'; exact ⟨he, s, n, T, h', hn, hf⟩
theorem PlS.rel0 (h : PlS K w R tb N b m W) (hk : b ≤ k) (hk64 : k < 18446744073709551616) : Calls Try.prog 8 #[.pointer (some ⟨R, 0, none⟩), .int .u64 (k : Int)] W fun e W' => e = .returned (.int .i64 0) ∧ PlS K w R tb N k m W' := by
  obtain ⟨s, n, T, h, hn, hf⟩ := h.ex
  have e : s.rel k = ({ s with b := k, t := fun j => if j ≤ k then none else s.t j }, 0) := by unfold RS.rel; rw [if_neg (by rw [hf.hb]; omega)]
  refine (h.rel k hk64).mono fun _ _ ⟨he, h'⟩ => ?_
  rw [e] at he h'
  refine ⟨he, _, n, T, h', hn, hf.hn, rfl, fun j => ?_, fun j hj => hf.up j (by omega)⟩
  show (if j ≤ k then none else s.t j) = _
  by_cases hjk : j ≤ k
  · rw [if_pos hjk, if_neg (by omega)]
  · rw [if_neg hjk, hf.t]
    by_cases hj2 : j ≤ b + N
    · rw [if_pos (by omega), if_pos (by omega)]
    · rw [if_neg (by omega), hf.up j (by omega)]
      split <;> rfl
/-- Get, where the table's slot is told. -/
theorem PlS.get (h : PlS K w R tb N b m W) (hk64 : k < 18446744073709551616) : ∃ o : Option ByteArray, ∃ x : Option ByteArray, x = (if b < k ∧ k ≤ b + N then o else none) ∧ (b + N < k → o = none) ∧
    Calls Try.prog 6 #[.pointer (some ⟨R, 0, none⟩), .int .u64 (k : Int)] W fun e W' => e = .returned (.tuple #[(x.map fun v => .string v).getD (.string ⟨#[]⟩), .bool x.isSome]) ∧ PlS K w R tb N b m W' ∧ ∃ n T, Tb W' tb n T ∧ T k = o := by
  obtain ⟨s, n, T, h, hn, hf⟩ := h.ex
  exact ⟨T k, s.t k, hf.t k, hf.up k, (h.get k hk64).mono fun _ _ ⟨he, h'⟩ => ⟨he, ⟨s, n, T, h', hn, hf⟩, n, T, h'.tab, rfl⟩⟩
end
section
variable (K : RingS) {w : World} {R tb N b m : Nat} {ops : Array Oper} {rest : List Oper} {o : Oper} {a : Act} {Q : Exit → Act → World → Prop}
/-- The law's store into its table. -/
theorem wpList_plays_put (w0 W : World) (h : PlS K w0 R tb N b m W) (hm : m < maxLen) (hg : o.guard = none) (p x v : Operand) (hop : o.op = Op.mapUpdate 34 p x v) (k : Nat) (hk : k < 18446744073709551616) (tx : ByteArray) (htx : tx.size ≤ maxLen)
    (hp : a.eval p = .map (some tb)) (hx : a.eval x = .int .u64 (k : Int)) (hv : a.eval v = .string tx)
    (hK : ∀ W', PlP K w0 R tb N b (m + 1) k tx W' → wpList Try.prog ops Q rest (a.put o.dst undef) W') : wpList Try.prog ops Q (o :: rest) a W := by
  obtain ⟨s, n, T, h, hn, hf⟩ := h.ex
  exact wpList_tab_put W hg p x v hop tb n T h.tab (by omega) k hk tx htx hp hx hv fun W' h1 h2 => hK W' ⟨s, n + 1, T, h.put h1 h2, by omega, hf⟩
end
end Go.Proofs.Yteeiiaahhoeohaa
