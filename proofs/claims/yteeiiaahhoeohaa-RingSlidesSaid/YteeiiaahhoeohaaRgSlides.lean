/- The walks of wakes and of the law that a window slides for ever, over a ring of the program. -/
import Derived.Test.YteeiiaahhoeohaaRgSpec
import Derived.Deep.DeepCutAuto
import Derived.IntWalk
namespace Go.Proofs.Yteeiiaahhoeohaa
open Go.RowKit

abbrev sA : ByteArray := ⟨#[97]⟩
abbrev sC : ByteArray := ⟨#[99]⟩
abbrev sX : ByteArray := ⟨#[120]⟩
def g1 : RS ByteArray := ((RS.new ByteArray 2).set 1 sA).1
def g4 : RS ByteArray := (g1.rel 1).1
def g5 : RS ByteArray := (g4.set 3 sC).1
theorem g5_last {m : Nat} (h : g5.lastIs m) : m = 3 := RS.last_at h (by show (some sC : Option ByteArray) ≠ none; simp) (fun j hj => by
  show (if j = 3 then some sC else if j ≤ 1 then none else if j = 1 then some sA else none) = none
  rw [if_neg (by omega), if_neg (by omega), if_neg (by omega)])

set_option maxRecDepth 100000 in
set_option maxHeartbeats 4000000 in
theorem wakes7 (K : RingS) (hB : BaseS K) (w : World) : Calls Try.prog 11 #[] w fun e W' => e = .returned (.bool true) ∧ Below w.heap.size w W' := by
  have KB := Lib.hid hB
  clear hB
  go_enter Try.func11, Try.ntmps11
  go_wp2_with fail
  refine (LiveR.new K w 2 (by omega) (by omega)).mono ?_
  rintro e W1 ⟨R, rfl, hl1⟩
  have L1 := Lib.hid hl1
  clear hl1
  go_wp2_with fail
  refine (L1.out.set 1 sA (by omega)).mono ?_
  rintro e W2 ⟨he, hl2⟩
  obtain rfl : e = .returned (.int .i64 0) := he
  have hl2' : LiveR K w R g1 W2 := hl2
  have L2 := Lib.hid hl2'
  clear hl2 hl2' L1
  go_wp2_with fail
  refine (L2.out.set 3 sC (by omega)).mono ?_
  rintro e W3 ⟨he, hl3⟩
  obtain rfl : e = .returned (.int .i64 30) := he
  have hl3' : LiveR K w R g1 W3 := hl3
  have L3 := Lib.hid hl3'
  clear hl3 hl3' L2
  go_wp2_with fail
  refine (L3.out.set 0 sX (by omega)).mono ?_
  rintro e W4 ⟨he, hl4⟩
  obtain rfl : e = .returned (.int .i64 31) := he
  have hl4' : LiveR K w R g1 W4 := hl4
  have L4 := Lib.hid hl4'
  clear hl4 hl4' L3
  go_wp2_with fail
  refine (L4.out.rel 1 (by omega)).mono ?_
  rintro e W5 ⟨he, hl5⟩
  obtain rfl : e = .returned (.int .i64 0) := he
  have hl5' : LiveR K w R g4 W5 := hl5
  have L5 := Lib.hid hl5'
  clear hl5 hl5' L4
  go_wp2_with fail
  refine (L5.out.set 3 sC (by omega)).mono ?_
  rintro e W6 ⟨he, hl6⟩
  obtain rfl : e = .returned (.int .i64 0) := he
  have hl6' : LiveR K w R g5 W6 := hl6
  have L6 := Lib.hid hl6'
  clear hl6 hl6' L5
  go_wp2_with fail
  refine (L6.out.get 1 (by omega)).mono ?_
  rintro e W7 ⟨he, hl7⟩
  obtain rfl : e = .returned (.tuple #[.string ⟨#[]⟩, .bool false]) := he
  have L7 := Lib.hid hl7
  clear hl7 L6
  go_wp2_with fail
  refine (L7.out.get 3 (by omega)).mono ?_
  rintro e W8 ⟨he, hl8⟩
  obtain rfl : e = .returned (.tuple #[.string sC, .bool true]) := he
  have L8 := Lib.hid hl8
  clear hl8 L7
  go_wp2_with fail
  refine L8.out.last.mono ?_
  rintro e W9 ⟨m, hm, rfl, hl9⟩
  obtain rfl := g5_last hm
  have L9 := Lib.hid hl9
  clear hl9 L8 hm
  go_wp2_with fail
  refine (LiveR.base KB.out L9.out).mono ?_
  rintro e W10 ⟨he, hl10⟩
  obtain rfl : e = .returned (.int .u64 1) := he
  have B10 := Lib.hid hl10.below
  clear hl10 L9
  go_wp2
  go_ret
  exact ⟨rfl, B10.out⟩

/-- The window behind base b, set up to nx: each slot has seven times its number. -/
def WS (n b nx : Nat) : RS Nat := ⟨n, b, fun j => if b < j ∧ j < nx then some (j * 7) else none⟩
theorem WS_new (n b : Nat) : (RS.new Nat n).rel b = (WS n b (b + 1), 0) := by
  unfold RS.rel RS.new WS
  rw [if_neg (by simp)]
  congr 2
  funext j
  by_cases h : j ≤ b
  · rw [if_pos h, if_neg (by omega)]
  · rw [if_neg h, if_neg (by omega)]
theorem WS_set (n b nx : Nat) (h1 : b < nx) (h2 : nx ≤ b + n) : (WS n b nx).set nx (nx * 7) = (WS n b (nx + 1), 0) := by
  unfold RS.set WS
  simp only
  rw [if_neg (by omega), if_neg (by omega)]
  congr 2
  funext j
  by_cases h : j = nx
  · subst h; rw [if_pos rfl, if_pos (by omega)]
  · rw [if_neg h]
    by_cases h' : b < j ∧ j < nx
    · rw [if_pos h', if_pos (by omega)]
    · rw [if_neg h', if_neg (by omega)]
theorem WS_full (n b nx v : Nat) (h : b + n < nx) : (WS n b nx).set nx v = (WS n b nx, 30) := by
  unfold RS.set WS
  simp only
  rw [if_neg (by omega), if_pos h]
theorem WS_last (n b m : Nat) (h1 : 1 ≤ n) (h : (WS n b (b + n + 1)).lastIs m) : m = b + n := RS.last_at h (by simp only [WS]; rw [if_pos (by omega)]; simp) (fun j hj => by simp only [WS]; rw [if_neg (by omega)])
theorem WS_rel (n b nx k : Nat) (h1 : b ≤ k) : (WS n b nx).rel k = (WS n k nx, 0) := by
  unfold RS.rel WS
  simp only
  rw [if_neg (by omega)]
  congr 2
  funext j
  by_cases h : j ≤ k
  · rw [if_pos h, if_neg (by omega)]
  · rw [if_neg h]
    by_cases h' : b < j ∧ j < nx
    · rw [if_pos h', if_pos (by omega)]
    · rw [if_neg h', if_neg (by omega)]
theorem WS_out (n b nx v : Nat) : (WS n b nx).set b v = (WS n b nx, 31) := by
  unfold RS.set WS
  simp only
  rw [if_pos (Nat.le_refl _)]
end Go.Proofs.Yteeiiaahhoeohaa
