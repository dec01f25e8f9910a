/- What an act leaves of a disk. -/
import Derived.Test.YteiednjhliobeaaDkGreat
namespace Go.Proofs.Yteiednjhliobeaa
open Go.RowKit

/-- What was synced is a beginning of what there is. -/
def Sure (sure : List UInt8) (s : DS) : Prop := sure.length ≤ s.y ∧ s.A.take sure.length = sure
theorem Sure.len {sure : List UInt8} {s : DS} (h : Sure sure s) : sure.length ≤ s.A.length := by
  have := congrArg List.length h.2
  rw [List.length_take] at this
  omega
theorem take_app (A x : List UInt8) {n : Nat} (h : n ≤ A.length) : (A ++ x).take n = A.take n := by
  rw [List.take_append_of_le_length h]
theorem Sure.app {sure : List UInt8} {s : DS} (h : Sure sure s) (x : List UInt8) : Sure sure (s.app x).1 := by
  have hl := h.len
  unfold DS.app
  split
  · exact h
  · split
    · exact ⟨h.1, by rw [take_app _ _ hl]; exact h.2⟩
    · split
      · exact ⟨h.1, by rw [take_app _ _ hl]; exact h.2⟩
      · exact ⟨h.1, by rw [take_app _ _ hl]; exact h.2⟩
theorem take_more (A : List UInt8) {m n : Nat} (h : m ≤ n) : (A.take n).take m = A.take m := by
  rw [List.take_take, Nat.min_eq_left h]
theorem Sure.act {sure : List UInt8} {s : DS} (h : Sure sure s) (hy : s.y ≤ s.A.length) (a : ActD) (h5 : a.d % 7 ≠ 5) : Sure sure (s.act a).1 := by
  unfold DS.act
  split
  · exact h.app a.x
  split
  · unfold DS.sync; split
    · exact h
    · exact ⟨Nat.le_trans h.1 hy, h.2⟩
  split
  · unfold DS.cut; split
    · exact h
    · split
      · exact h
      · rename_i hn
        refine ⟨h.1, ?_⟩
        have := h.1
        show (s.A.take a.n.toNat).take sure.length = sure
        rw [take_more _ (by omega)]; exact h.2
  split
  · unfold DS.fuse; split <;> exact h
  split
  · unfold DS.crash; split
    · exact h
    · refine ⟨h.1, ?_⟩
      have := h.1
      show (if _ then _ else _ : List UInt8).take sure.length = sure
      split
      · rw [take_more _ (by omega)]; exact h.2
      · exact h.2
  · exact h
theorem act_dead {s : DS} (hd : s.dead = true) (a : ActD) (h5 : a.d % 7 ≠ 5) : (s.act a).1.A = s.A := by
  unfold DS.act DS.app DS.sync DS.cut DS.fuse DS.crash DS.restart
  simp [hd, h5]
  repeat' split
  all_goals rfl
theorem act_len (s : DS) (a : ActD) (h5 : a.d % 7 ≠ 5) : (s.act a).1.A.length ≤ s.A.length + a.x.length := by
  unfold DS.act DS.app DS.sync DS.cut DS.fuse DS.crash DS.restart
  repeat' split
  all_goals first
    | contradiction
    | (simp; done)
    | (simp; omega)
theorem act_sync {s : DS} (a : ActD) (h1 : a.d % 7 = 1) (he : (s.act a).2 = 0) : (s.act a).1.y = (s.act a).1.A.length := by
  unfold DS.act DS.sync at he ⊢
  simp [h1] at he ⊢
  split at he
  · cases he
  · rename_i h; simp [h]
theorem act_app {s : DS} (a : ActD) (h0 : a.d % 7 = 0) : ((s.act a).2 = 20 ∧ (s.act a).1.A = s.A) ∨ ((s.act a).2 = 0 ∧ (s.act a).1.A = s.A ++ a.x) ∨ ((s.act a).2 = 21 ∧ (∃ f, f < a.x.length ∧ (s.act a).1.A = s.A ++ a.x.take f) ∧ (s.act a).1.dead = true) := by
  unfold DS.act DS.app
  simp only [h0, if_true]
  split
  · exact .inl ⟨rfl, rfl⟩
  · split
    · exact .inr (.inl ⟨rfl, rfl⟩)
    · split
      · rename_i f _ hf
        exact .inr (.inr ⟨rfl, ⟨f, hf, rfl⟩, rfl⟩)
      · exact .inr (.inl ⟨rfl, rfl⟩)
end Go.Proofs.Yteiednjhliobeaa
