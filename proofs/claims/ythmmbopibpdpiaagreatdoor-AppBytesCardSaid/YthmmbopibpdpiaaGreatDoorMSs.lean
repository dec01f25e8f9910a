/- Plain mathematics: signed numbers folded, texts as bytes. Plain mathematics of tables of sessions: what a command is, what is kept, the bytes. -/
import Derived.Test.YthmmbopibpdpiaaGreatDoorMMath
-- FoldMath
namespace Go.Proofs.YthmmbopibpdpiaaGreatDoor

/-- A signed number as a number. -/
def foldN (m : Int) : Nat := if 0 ≤ m then (2 * m).toNat else (-2 * m - 1).toNat
/-- And back. -/
def unfoldN (u : Nat) : Int := if u % 2 = 1 then -((u / 2 : Nat) : Int) - 1 else ((u / 2 : Nat) : Int)
theorem unfold_fold (m : Int) : unfoldN (foldN m) = m := by
  unfold unfoldN foldN
  split <;> split <;> omega
theorem foldN_lt {m : Int} (h1 : -9223372036854775808 ≤ m) (h2 : m ≤ 9223372036854775807) : foldN m < 18446744073709551616 := by
  unfold foldN; split <;> omega
theorem fold_unfold {u : Nat} : foldN (unfoldN u) = u := by
  unfold foldN unfoldN
  split
  · rw [if_neg (by omega)]
    omega
  · rw [if_pos (by omega)]
    omega
/-- A text's bytes. -/
def txt (s : ByteArray) : List UInt8 := vb s.size ++ s.data.toList
theorem txt_len {s : ByteArray} (h : s.size ≤ 1000000) : (txt s).length ≤ 1000010 := by
  have := vb_len10 (n := s.size) (by omega)
  have h2 : s.data.toList.length = s.size := Array.length_toList
  simp only [txt, List.length_append]
  omega
theorem txt_le {s : ByteArray} (h : s.size ≤ 1000000) : (txt s).length ≤ s.size + 10 := by
  have := vb_len10 (n := s.size) (by omega)
  have h2 : s.data.toList.length = s.size := Array.length_toList
  simp only [txt, List.length_append]
  omega
end Go.Proofs.YthmmbopibpdpiaaGreatDoor

-- SsMath
namespace Go.Proofs.YthmmbopibpdpiaaGreatDoor

/-- A client's greatest number and its reply. -/
structure SE where
  cl : Nat
  sq : Nat
  cd : Nat
  tx : ByteArray
def lookS (l : List SE) (c : Nat) : Option SE := l.find? fun e => decide (e.cl = c)
/-- What is told: the reply, and what a command is. -/
def tellS (l : List SE) (c s : Nat) : (Nat × ByteArray) × Nat := match lookS l c with
  | none => ((0, ⟨#[]⟩), 0)
  | some e => if e.sq < s then ((0, ⟨#[]⟩), 0) else if e.sq = s then ((e.cd, e.tx), 1) else ((3, ⟨#[]⟩), 2)
def keepS (l : List SE) (c s cd : Nat) (tx : ByteArray) : List SE :=
  if c ≠ 0 ∧ (tellS l c s).2 = 0 then l.filter (fun e => decide (e.cl < c)) ++ ⟨c, s, cd, tx⟩ :: l.filter (fun e => decide (c < e.cl)) else l
def oneS (e : SE) : List UInt8 := vb e.cl ++ vb e.sq ++ vb e.cd ++ txt e.tx
def bytesSS (l : List SE) : List UInt8 := vb l.length ++ l.flatMap oneS
/-- Tables within the limits of a walk, with texts of at most b bytes. -/
structure LimB (b : Nat) (l : List SE) : Prop where
  len : l.length ≤ 5000
  each : ∀ e ∈ l, e.cl < 4294967296 ∧ e.sq < 4294967296 ∧ e.cd < 256 ∧ e.tx.size ≤ b
abbrev LimS (l : List SE) : Prop := LimB 1000 l
theorem LimS.nil : LimS [] := ⟨by decide, fun e he => by cases he⟩
theorem find_filter_lt {l : List SE} {j : Nat} (p : Nat → Bool) (hp : p j = true) : (l.filter fun e => p e.cl).find? (fun e => decide (e.cl = j)) = lookS l j := by
  unfold lookS
  rw [List.find?_filter]
  congr 1
  funext e
  by_cases h : e.cl = j
  · simp [h, hp]
  · simp [h]
theorem lookS_keep (l : List SE) (c s cd : Nat) (tx : ByteArray) (j : Nat) : lookS (keepS l c s cd tx) j = if c ≠ 0 ∧ (tellS l c s).2 = 0 ∧ j = c then some ⟨c, s, cd, tx⟩ else lookS l j := by
  by_cases hk : c ≠ 0 ∧ (tellS l c s).2 = 0
  · have e : keepS l c s cd tx = l.filter (fun e => decide (e.cl < c)) ++ ⟨c, s, cd, tx⟩ :: l.filter (fun e => decide (c < e.cl)) := if_pos hk
    rw [e]
    conv => lhs; unfold lookS
    rw [List.find?_append, List.find?_cons]
    by_cases hj : j = c
    · subst hj
      have h1 : (l.filter fun e => decide (e.cl < j)).find? (fun e => decide (e.cl = j)) = none := by
        rw [List.find?_eq_none]
        intro x hx
        have := (List.mem_filter.1 hx).2
        simp at this ⊢
        omega
      rw [h1, if_pos ⟨hk.1, hk.2, rfl⟩]
      simp
    · rw [if_neg (fun h => hj h.2.2)]
      have hcj : decide (c = j) = false := by simp; exact fun e => hj e.symm
      simp only [hcj]
      rcases Nat.lt_or_gt_of_ne hj with hlt | hgt
      · rw [find_filter_lt (fun x => decide (x < c)) (by simpa using hlt)]
        cases hl : lookS l j with
        | some x => rfl
        | none =>
          rw [Option.none_or, List.find?_eq_none]
          intro x hx
          have := (List.mem_filter.1 hx).2
          simp at this ⊢
          omega
      · have h1 : (l.filter fun e => decide (e.cl < c)).find? (fun e => decide (e.cl = j)) = none := by
          rw [List.find?_eq_none]
          intro x hx
          have := (List.mem_filter.1 hx).2
          simp at this ⊢
          omega
        rw [h1, Option.none_or]
        exact find_filter_lt (fun x => decide (c < x)) (by simpa using hgt)
  · rw [show keepS l c s cd tx = l from if_neg hk, if_neg (fun h => hk ⟨h.1, h.2.1⟩)]
theorem filter_two (c : Nat) : ∀ l : List SE, (l.filter fun e => decide (e.cl < c)).length + (l.filter fun e => decide (c < e.cl)).length ≤ l.length
  | [] => by simp
  | e :: l => by
    have ih := filter_two c l
    rw [List.filter_cons, List.filter_cons, List.length_cons]
    by_cases h1 : e.cl < c
    · have h2 : ¬ c < e.cl := by omega
      rw [if_pos (by simpa using h1), if_neg (by simpa using h2), List.length_cons]
      omega
    · rw [if_neg (by simpa using h1)]
      by_cases h2 : c < e.cl
      · rw [if_pos (by simpa using h2), List.length_cons]
        omega
      · rw [if_neg (by simpa using h2)]
        omega
theorem keepS_len (l : List SE) (c s cd : Nat) (tx : ByteArray) : (keepS l c s cd tx).length ≤ l.length + 1 := by
  unfold keepS
  split
  · rw [List.length_append, List.length_cons]
    have h := filter_two c l
    omega
  · omega
theorem LimS.keep {l : List SE} (h : LimS l) (hl : l.length ≤ 4999) {c s cd : Nat} {tx : ByteArray} (hc : c < 4294967296) (hs : s < 4294967296) (hd : cd < 256) (ht : tx.size ≤ 1000) : LimS (keepS l c s cd tx) := by
  refine ⟨by have := keepS_len l c s cd tx; omega, fun e he => ?_⟩
  unfold keepS at he
  split at he
  · rcases List.mem_append.1 he with h1 | h1
    · exact h.each e (List.mem_filter.1 h1).1
    · rcases List.mem_cons.1 h1 with rfl | h1
      · exact ⟨hc, hs, hd, ht⟩
      · exact h.each e (List.mem_filter.1 h1).1
  · exact h.each e he
/-- What was kept last of a client stands, or a greater number does. -/
theorem lookS_rises {l : List SE} {c top cd : Nat} {tx : ByteArray} (h : lookS l c = some ⟨c, top, cd, tx⟩) (hc : c ≠ 0) (j s cd' : Nat) (tx' : ByteArray) :
    lookS (keepS l j s cd' tx') c = if j = c ∧ top < s then some ⟨c, s, cd', tx'⟩ else some ⟨c, top, cd, tx⟩ := by
  rw [lookS_keep]
  by_cases hj : j = c
  · subst hj
    have ht : (tellS l j s).2 = 0 ↔ top < s := by
      unfold tellS
      rw [h]
      dsimp only
      split
      · rename_i h1; exact ⟨fun _ => h1, fun _ => rfl⟩
      · rename_i h1
        split
        · exact ⟨fun e => (by cases e), fun e => absurd e h1⟩
        · exact ⟨fun e => (by cases e), fun e => absurd e h1⟩
    by_cases hlt : top < s
    · rw [if_pos ⟨hc, ht.2 hlt, rfl⟩, if_pos ⟨rfl, hlt⟩]
    · rw [if_neg (fun e => hlt (ht.1 e.2.1)), if_neg (fun e => hlt e.2), h]
  · rw [if_neg (fun e => hj e.2.2.symm), if_neg (fun e => hj e.1), h]
theorem tellS_again {l : List SE} {c top cd : Nat} {tx : ByteArray} (h : lookS l c = some ⟨c, top, cd, tx⟩) : tellS l c top = ((cd, tx), 1) := by
  unfold tellS
  rw [h]
  simp
theorem tellS_old {l : List SE} {c top cd s : Nat} {tx : ByteArray} (h : lookS l c = some ⟨c, top, cd, tx⟩) (hs : s < top) : tellS l c s = ((3, ⟨#[]⟩), 2) := by
  unfold tellS
  rw [h]
  dsimp only
  rw [if_neg (by omega), if_neg (by omega)]
end Go.Proofs.YthmmbopibpdpiaaGreatDoor
