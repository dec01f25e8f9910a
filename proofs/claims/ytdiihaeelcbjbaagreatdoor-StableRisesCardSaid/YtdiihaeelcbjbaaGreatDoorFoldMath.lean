/- Plain mathematics: signed numbers folded, texts as bytes. -/
import Derived.Test.YtdiihaeelcbjbaaGreatDoorMMath
namespace Go.Proofs.YtdiihaeelcbjbaaGreatDoor

/-- A signed number as a number. -/
def foldN (m : Int) : Nat := if 0 ≤ m then (2 * m).toNat else (-2 * m - 1).toNat
/-- And back. -/
def unfoldN (u : Nat) : Int := if u % 2 = 1 then -((u / 2 : Nat) : Int) - 1 else ((u / 2 : Nat) : Int)
theorem unfold_fold (m : Int) : unfoldN (foldN m) = m := by
  unfold unfoldN foldN
  split <;> split <;> omega
theorem foldN_lt {m : Int} (h1 : -9223372036854775808 ≤ m) (h2 : m ≤ 9223372036854775807) : foldN m < 18446744073709551616 := by
  unfold foldN; split <;> omega
theorem fold_unfold {u : Nat} : foldN (unfoldN u) = u := by
  unfold foldN unfoldN
  split
  · rw [if_neg (by omega)]
    omega
  · rw [if_pos (by omega)]
    omega
/-- A text's bytes. -/
def txt (s : ByteArray) : List UInt8 := vb s.size ++ s.data.toList
theorem txt_len {s : ByteArray} (h : s.size ≤ 1000000) : (txt s).length ≤ 1000010 := by
  have := vb_len10 (n := s.size) (by omega)
  have h2 : s.data.toList.length = s.size := Array.length_toList
  simp only [txt, List.length_append]
  omega
theorem txt_le {s : ByteArray} (h : s.size ≤ 1000000) : (txt s).length ≤ s.size + 10 := by
  have := vb_len10 (n := s.size) (by omega)
  have h2 : s.data.toList.length = s.size := Array.length_toList
  simp only [txt, List.length_append]
  omega
end Go.Proofs.YtdiihaeelcbjbaaGreatDoor
