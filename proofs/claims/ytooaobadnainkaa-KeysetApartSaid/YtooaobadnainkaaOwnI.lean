/- Rows of numbers that a call owns; an append of one number to them. -/
import Derived.Test.YtooaobadnainkaaMBaseO
import Derived.Maps.AppendAt
namespace Go.Proofs.Ytooaobadnainkaa
open Go.RowKit

/-- Numbers that lie in a row. -/
def HasI (w : World) (A : Option Addr) (ws : List Nat) : Prop := ws ≠ [] → ∃ b o, A = some ⟨b, o, none⟩ ∧ b < w.heap.size ∧ ∀ j (h : j < ws.length), w.cell? ⟨b, o + j, none⟩ = some (.int .i64 (ws[j] : Int))
theorem HasI.below {w W : World} {A : Option Addr} {ws : List Nat} (h : HasI w A ws) (hb : Below w.heap.size w W) : HasI W A ws := fun hl => by
  obtain ⟨b, o, e, h1, h2⟩ := h hl
  exact ⟨b, o, e, Nat.lt_of_lt_of_le h1 hb.size, fun j hj => (hb.cell (p := ⟨b, o + j, none⟩) h1).trans (h2 j hj)⟩
theorem infoI : (Try.prog.info? 3).map (fun i => (i.zero, i.size, i.bytes)) = some (some (.int .i64 0), 1, 8) := by kernel_rfl
theorem infoI_parts : ∃ i, Try.prog.info? 3 = some i ∧ i.zero = some (.int .i64 0) ∧ i.size = 1 ∧ i.bytes = 8 := by
  have h := infoI
  cases hi : Try.prog.info? 3 with
  | none => rw [hi] at h; cases h
  | some i => rw [hi] at h; simp at h; exact ⟨i, rfl, h.1, h.2.1, h.2.2⟩
def cellsI (l : List Nat) : List Value := l.map fun (n : Nat) => Value.int .i64 (n : Int)
theorem cellsI_one (l : List Nat) : ∀ u ∈ cellsI l, u.oneCell' = true := by
  intro u hu
  obtain ⟨p, _, rfl⟩ := List.mem_map.1 hu
  rfl
/-- Numbers that a call owns. -/
def OwnI (base : Nat) (w : World) (v : Value) (l : List Nat) : Prop := w.ownsRow base 3 1 v l.length (cellsI l)
theorem OwnI.form {base : Nat} {w : World} {v : Value} {l : List Nat} (h : OwnI base w v l) : ∃ A c, v = .slice A l.length c ∧ l.length ≤ c := by
  rcases h.2 with ⟨rfl, h0⟩ | ⟨g, cap, cur, rfl, _, _, hn, _⟩
  · exact ⟨none, 0, by rw [h0], by omega⟩
  · exact ⟨_, _, rfl, hn⟩
theorem OwnI.below {base : Nat} {w w' : World} {v : Value} {l : List Nat} (h : OwnI base w v l) (hb : Below w.heap.size w w') : OwnI base w' v l := by
  refine World.ownsRow.kept h (grownBy_of_below (r := none) hb) ?_
  cases v.ownBlock with
  | none => exact .inl rfl
  | some x => exact .inr (by simp)
theorem OwnI.has {base : Nat} {w : World} {A : Option Addr} {n c : Nat} {l : List Nat} (h : OwnI base w (.slice A n c) l) : HasI w A l := fun hl => by
  have hl' : 0 < l.length := List.length_pos_iff.2 hl
  rcases h.2 with ⟨e, h0⟩ | ⟨g, cap, cur, e, _, hg, hn, _⟩
  · omega
  · cases e
    refine ⟨g, 0, rfl, (Array.getElem?_eq_some_iff.1 hg).1, fun j hj => ?_⟩
    have c0 := World.ownsRow.cells h (g := g) rfl j (.int .i64 (l[j] : Int)) (by simp [cellsI, hj])
    rw [addr_add] at c0
    exact c0
theorem OwnI.mono {b b' : Nat} {w : World} {v : Value} {l : List Nat} (h : OwnI b w v l) (hb : b' ≤ b) : OwnI b' w v l := by
  refine ⟨h.1, ?_⟩
  rcases h.2 with h2 | ⟨g, cap, cur, e, h1, h2⟩
  · exact .inl h2
  · exact .inr ⟨g, cap, cur, e, Nat.le_trans hb h1, h2⟩
theorem OwnI.ge {base : Nat} {w : World} {v : Value} {l : List Nat} (h : OwnI base w v l) (k : Nat) (hk : v.ownBlock = some k) : base ≤ k := by
  rcases h.2 with ⟨rfl, _⟩ | ⟨g, cap, cur, rfl, hg, _⟩
  · cases hk
  · have : g = k := by simpa [Value.ownBlock] using hk
    omega
theorem OwnI.nil (base : Nat) (w : World) : OwnI base w (.slice none 0 0) [] := World.ownsRow_nil _ _ _ _
/-- An append of one number to numbers that the call owns. -/
theorem wpList_append_I {ops : Array Oper} {rest : List Oper} {o : Oper} {a : Act} {w : World} {Q : Exit → Act → World → Prop} (hgd : o.guard = none) (s x : Operand)
    (ho : o.op = .call { callee := .builtin .append, args := #[s, x], argTypes := #[25, 25] }) (base : Nat) (v : Value) (l : List Nat) (hs : a.eval s = v) (hown : OwnI base w v l)
    (b : Nat) (c : Nat) (t : Nat) (hx : a.eval x = .slice (some ⟨b, 0, none⟩) 1 c) (hA : w.cell? ⟨b, 0, none⟩ = some (.int .i64 (t : Int))) (hlen : l.length + 1 ≤ 1000000) (hbase : base ≤ w.heap.size)
    (h : ∀ v' w', OwnI base w' v' (l ++ [t]) → w.grownBy w' v.ownBlock → wpList Try.prog ops Q rest (a.put o.dst v') w') : wpList Try.prog ops Q (o :: rest) a w := by
  obtain ⟨i, hi, hz, hsz, hby⟩ := infoI_parts
  refine wpList_append_own_at w hgd s x 25 ho base 3 i _ 1 8 Try.underlying25 hi hz hsz hby rfl (by omega) v l.length (cellsI l) hs hown ⟨b, 0, none⟩ 1 c (cellsI [t]) hx rfl (fun j u hj => ?_) (cellsI_one [t]) (by simp only [maxLen]; omega) (by omega) hbase ?_
  · have hjl : j < 1 := (List.getElem?_eq_some_iff.1 hj).1
    obtain rfl : j = 0 := by omega
    rw [addr_add]
    have : u = .int .i64 (t : Int) := by simpa [cellsI] using hj.symm
    rw [this]
    exact hA
  · intro v' w' h1 h2 _ _
    refine h v' w' ?_ h2
    unfold OwnI
    rw [show cellsI (l ++ [t]) = cellsI l ++ cellsI [t] by simp [cellsI], List.length_append]
    exact h1
end Go.Proofs.Ytooaobadnainkaa
