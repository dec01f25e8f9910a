/- The walk of wakes, over a disk of the program. -/
import Derived.Test.YteiednjhliobeaaDkGreat
import Derived.Lib.SlBytesConst
namespace Go.Proofs.Yteiednjhliobeaa
open Go.RowKit

theorem LiveD.appNew {P : DiskK} {w W0 W : World} {R : Nat} {s : DS} (h : LiveD P w R s W0) (hb : Below W0.heap.size W0 W) (A : Option Addr) (L c : Nat) (x : List UInt8) (hL : L = x.length) (hLc : L ≤ c) (hl : s.A.length + x.length ≤ 1000000000) (hA : HasA W W.heap.size A x) (hnew : ∀ b o, A = some ⟨b, o, none⟩ → W0.heap.size ≤ b) :
    Calls Try.prog 11 #[.pointer (some ⟨R, 0, none⟩), .slice A L c] W (TurnsD P w R (s.app x)) := by
  obtain ⟨F, h1, h2⟩ := h.ex
  have h1' := P.keep h1 (Only.of_grew (F := fun _ => False) hb) (fun _ _ => id)
  exact (P.app A L c x h1' hL hLc hl hA (fun b o _ e hf => absurd (P.lt h1 b hf) (Nat.not_lt.2 (hnew b o e)))).mono fun _ _ ht => (h.grew hb).turns h2 ht
theorem hasA_const (w : World) (bs : List UInt8) (fr : Nat × Nat) : HasA (w.alloc (.cells (bs.map enc).toArray 5 fr)) (w.alloc (.cells (bs.map enc).toArray 5 fr)).heap.size (some ⟨w.heap.size, 0, none⟩) bs := fun _ =>
  ⟨w.heap.size, 0, rfl, by simp, fun i hi => by
    rw [World.cell?_alloc_mark]; simp [hi]⟩

set_option maxHeartbeats 4000000 in
theorem wakes5 (P : DiskK) (w : World) : Calls Try.prog 5 #[] w fun e W' => e = .returned (.bool true) ∧ Below w.heap.size w W' := by
  have kc := fun (w : World) (C : Array Value) (n c : Nat) => Lib.run_convert_bytes_const (P := Try.prog) w 27 5 C n c Try.underlying27 Try.underlying5
  go_enter Try.func5, Try.ntmps5
  go_wp2_with fail
  refine (LiveD.new P w).mono ?_
  rintro e W1 ⟨R, rfl, hl1⟩
  have L1 := Lib.hid hl1
  clear hl1
  go_wp2_with fail
  refine (L1.out.appNew (W := W1.alloc (.cells #[.int .u8 97, .int .u8 98] 5 (2, 3))) ((Below.refl _ _).alloc (Nat.le_refl _) _) _ 2 2 [97, 98] rfl (Nat.le_refl _) (by decide) (hasA_const W1 [97, 98] _) (fun b o e => by cases e; exact Nat.le_refl _)).mono ?_
  rintro e W2 ⟨he, hl2⟩
  obtain rfl : e = .returned (.int .i64 0) := he
  have L2 := Lib.hid hl2
  clear hl2 L1
  go_wp2_with fail
  refine L2.out.sync.mono ?_
  rintro e W3 ⟨he, hl3⟩
  obtain rfl : e = .returned (.int .i64 0) := he
  have L3 := Lib.hid hl3
  clear hl3 L2
  go_wp2_with fail
  refine (L3.out.appNew (W := W3.alloc (.cells #[.int .u8 99, .int .u8 100] 5 (2, 3))) ((Below.refl _ _).alloc (Nat.le_refl _) _) _ 2 2 [99, 100] rfl (Nat.le_refl _) (by decide) (hasA_const W3 [99, 100] _) (fun b o e => by cases e; exact Nat.le_refl _)).mono ?_
  rintro e W4 ⟨he, hl4⟩
  obtain rfl : e = .returned (.int .i64 0) := he
  have L4 := Lib.hid hl4
  clear hl4 L3 kc
  go_wp2_with fail
  refine (L4.out.crash 1 ⟨by omega, by omega⟩).mono ?_
  rintro e W5 ⟨he, hl5⟩
  obtain rfl : e = .returned (.int .i64 0) := he
  have hl5' : LiveD P w R ⟨[97, 98, 99], 2, true, none⟩ W5 := hl5
  have L5 := Lib.hid hl5'
  clear hl5 hl5' L4
  go_wp2_with fail
  refine L5.out.bytes.mono ?_
  rintro e W6 ⟨v, L, rfl, ho, hl6, -⟩
  obtain ⟨A, c, rfl⟩ := own_form ho
  have L6 := Lib.hid hl6
  have hconv := run_conv (P := Try.prog) (w := W6) (HasA.of_own ho) c Try.underlying27 Try.underlying5 Try.underlying9 (n := L) (own_len ho)
  have hs : str [97, 98, 99] = ⟨#[97, 98, 99]⟩ := rfl
  rw [hs] at hconv
  clear hl6 L5 ho hs
  go_wp2_with fail
  refine L6.out.synced.mono ?_
  rintro e W7 ⟨he, hl7, -⟩
  obtain rfl : e = .returned (.int .i64 2) := he
  have L7 := Lib.hid hl7
  clear hl7 L6 hconv
  go_wp2_with fail
  refine L7.out.isdead.mono ?_
  rintro e W8 ⟨he, hl8, -⟩
  obtain rfl : e = .returned (.bool true) := he
  have L8 := Lib.hid hl8
  clear hl8 L7
  go_wp2_with fail
  refine L8.out.sync.mono ?_
  rintro e W9 ⟨he, hl9⟩
  obtain rfl : e = .returned (.int .i64 20) := he
  have B9 := Lib.hid hl9.below
  clear hl9 L8
  go_wp2
  go_ret
  exact ⟨rfl, B9.out⟩
end Go.Proofs.Yteiednjhliobeaa
