/- Rows of spans that are owned: appended to, read, their last end set. -/
import Derived.Test.YtnpkaljmncehhaaVoK
import Derived.Maps.AppendAt
namespace Go.Proofs.Ytnpkaljmncehhaa
open Go.RowKit

/-- Spans. -/
def cellsS2 (l : List (Nat × Nat)) : List Value := l.flatMap fun p => [.int .u64 (p.1 : Int), .int .u64 (p.2 : Int)]
theorem cellsS2_len : ∀ (l : List (Nat × Nat)), (cellsS2 l).length = l.length * 2
  | [] => rfl
  | a :: l => by
    have := cellsS2_len l
    unfold cellsS2 at this ⊢
    rw [List.flatMap_cons, List.length_append, this, List.length_cons]
    simp
    omega
theorem cellsS2_one (l : List (Nat × Nat)) : ∀ u ∈ cellsS2 l, u.oneCell' = true := by
  intro u hu
  obtain ⟨a, _, ha⟩ := List.mem_flatMap.1 hu
  simp at ha
  rcases ha with rfl | rfl <;> rfl
theorem cellsS2_get {l : List (Nat × Nat)} {j : Nat} (h : j < l.length) : (cellsS2 l)[j * 2]? = some (.int .u64 (l[j].1 : Int)) ∧ (cellsS2 l)[j * 2 + 1]? = some (.int .u64 (l[j].2 : Int)) := by
  induction l generalizing j with
  | nil => simp at h
  | cons a l ih =>
    cases j with
    | zero => exact ⟨rfl, rfl⟩
    | succ j =>
      have := ih (j := j) (by simpa using h)
      rw [show (j + 1) * 2 = j * 2 + 2 by omega]
      exact this
def OwnS2 (base : Nat) (w : World) (v : Value) (l : List (Nat × Nat)) : Prop := w.ownsRow base 42 2 v l.length (cellsS2 l)
theorem OwnS2.form {base : Nat} {w : World} {v : Value} {l : List (Nat × Nat)} (h : OwnS2 base w v l) : ∃ A c, v = .slice A l.length c := by
  rcases h.2 with ⟨rfl, h0⟩ | ⟨g, cap, cur, rfl, _⟩
  · exact ⟨none, 0, by rw [h0]⟩
  · exact ⟨_, _, rfl⟩
theorem OwnS2.has {base : Nat} {w : World} {A : Option Addr} {n c : Nat} {l : List (Nat × Nat)} (h : OwnS2 base w (.slice A n c) l) : HasSp w A l := fun hl => by
  have hl' : 0 < l.length := List.length_pos_iff.2 hl
  rcases h.2 with ⟨e, h0⟩ | ⟨g, cap, cur, e, _, hg, hn, _⟩
  · omega
  · cases e
    refine ⟨g, 0, rfl, (Array.getElem?_eq_some_iff.1 hg).1, fun j hj => ?_⟩
    have c0 := World.ownsRow.cells h (g := g) rfl (j * 2) _ (cellsS2_get hj).1
    have c1 := World.ownsRow.cells h (g := g) rfl (j * 2 + 1) _ (cellsS2_get hj).2
    rw [addr_add] at c0 c1
    exact ⟨c0, by rw [Nat.add_assoc]; exact c1⟩
theorem OwnS2.below {base : Nat} {w w' : World} {v : Value} {l : List (Nat × Nat)} (h : OwnS2 base w v l) (hb : Below w.heap.size w w') : OwnS2 base w' v l := by
  refine World.ownsRow.kept h (grownBy_of_below (r := none) hb) ?_
  cases v.ownBlock with
  | none => exact .inl rfl
  | some x => exact .inr (by simp)
theorem cellsS2_append (l m : List (Nat × Nat)) : cellsS2 (l ++ m) = cellsS2 l ++ cellsS2 m := by simp [cellsS2]
/-- The last span's end is set. -/
theorem OwnS2.setLast {base : Nat} {w : World} {g c : Nat} {l : List (Nat × Nat)} {p : Nat × Nat} {m n : Nat} (hn : n = l.length) (h : OwnS2 base w (.slice (some ⟨g, 0, none⟩) m c) (l ++ [p])) (x : Nat) : OwnS2 base (w.setCell ⟨g, n * 2 + 1, none⟩ (.int .u64 (x : Int))) (.slice (some ⟨g, 0, none⟩) m c) (l ++ [(p.1, x)]) ∧ base ≤ g ∧ ∃ cur, w.heap[g]? = some (.cells cur 42 (0, 0)) := by
  subst hn
  rcases h.2 with ⟨e, h0⟩ | ⟨g', cap, cur, e, hb, hg, hnc, hcap, hsz, htake⟩
  · cases e
  · cases e
    have hlen : (l ++ [p]).length = l.length + 1 := by simp
    refine ⟨⟨by rw [cellsS2_len], .inr ⟨g, c, cur.setIfInBounds (l.length * 2 + 1) (.int .u64 (x : Int)), by simp, hb, blk_set hg _ _, by simpa using hnc, hcap, by simpa using hsz, ?_⟩⟩, hb, cur, hg⟩
    have e2 : (l ++ [(p.1, x)]).length = (l ++ [p]).length := by simp
    rw [e2, Array.toList_setIfInBounds, List.take_set, htake, cellsS2_append, cellsS2_append]
    rw [List.set_append_right _ _ (by rw [cellsS2_len]; omega), cellsS2_len]
    congr 1
    rw [show l.length * 2 + 1 - l.length * 2 = 1 by omega]
    rfl
theorem infoS2 : (Try.prog.info? 42).map (fun i => (i.zero, i.size, i.bytes)) = some (some (.agg #[.int .u64 0, .int .u64 0]), 2, 16) := by kernel_rfl
theorem infoS2_parts : ∃ i, Try.prog.info? 42 = some i ∧ i.zero = some (.agg #[.int .u64 0, .int .u64 0]) ∧ i.size = 2 ∧ i.bytes = 16 := by
  have h := infoS2
  cases hi : Try.prog.info? 42 with
  | none => rw [hi] at h; cases h
  | some i => rw [hi] at h; simp at h; exact ⟨i, rfl, h.1, h.2.1, h.2.2⟩
theorem wpList_append_S2 {ops : Array Oper} {rest : List Oper} {o : Oper} {a : Act} {w : World} {Q : Exit → Act → World → Prop} (hgd : o.guard = none) (s x : Operand)
    (ho : o.op = .call { callee := .builtin .append, args := #[s, x], argTypes := #[50, 50] }) (base : Nat) (v : Value) (l : List (Nat × Nat)) (hs : a.eval s = v) (hown : OwnS2 base w v l)
    (p c : Nat) (y : Nat × Nat) (hx : a.eval x = .slice (some ⟨p, 0, none⟩) 1 c) (h0 : w.cell? ⟨p, 0, none⟩ = some (.int .u64 (y.1 : Int))) (h1 : w.cell? ⟨p, 1, none⟩ = some (.int .u64 (y.2 : Int))) (hlen : l.length + 1 ≤ 1000000) (hbase : base ≤ w.heap.size)
    (h : ∀ v' w', OwnS2 base w' v' (l ++ [y]) → w.grownBy w' v.ownBlock → wpList Try.prog ops Q rest (a.put o.dst v') w') : wpList Try.prog ops Q (o :: rest) a w := by
  obtain ⟨i, hi, hz, hsz, hby⟩ := infoS2_parts
  refine wpList_append_own_at w hgd s x 50 ho base 42 i _ 2 16 Try.underlying50 hi hz hsz hby rfl (by omega) v l.length (cellsS2 l) hs hown ⟨p, 0, none⟩ 1 c (cellsS2 [y]) hx rfl (fun j u hj => ?_) (cellsS2_one [y]) (by simp only [maxLen]; omega) (by omega) hbase ?_
  · rw [addr_add, Nat.zero_add]
    match j, hj with
    | 0, hj => cases hj; exact h0
    | 1, hj => cases hj; exact h1
    | j + 2, hj => simp [cellsS2] at hj
  · intro v' w' h1 h2 _ _
    refine h v' w' ?_ h2
    unfold OwnS2
    rw [cellsS2_append, List.length_append]
    exact h1
theorem OwnS2.lt {b : Nat} {w : World} {v : Value} {l : List (Nat × Nat)} (h : OwnS2 b w v l) : ∀ k, v.ownBlock = some k → b ≤ k := fun k e => by
  rcases h.2 with ⟨rfl, _⟩ | ⟨g, cap, cur, rfl, hb, hg, _⟩
  · cases e
  · cases e; exact hb
end Go.Proofs.Ytnpkaljmncehhaa
