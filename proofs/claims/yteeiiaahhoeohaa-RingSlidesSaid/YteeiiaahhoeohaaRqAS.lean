/- The contracts of a ring's calls, of elements string: own, at, Base, Last, Get, New. -/
import Derived.Test.YteeiiaahhoeohaaRqC
namespace Go.Proofs.Yteeiiaahhoeohaa
open Go.RowKit

/-- How a ring of string lies. -/
abbrev RQS (w : World) (R G m : Nat) (cs : Array Value) (s : RS ByteArray) : Prop := RgQ (fun v : ByteArray => .string v) (.string ⟨#[]⟩) 49 53 w R G m cs s

set_option maxHeartbeats 1000000 in
theorem own_S (v : ByteArray) (w : World) : Calls Try.prog 19 #[.string v] w fun e w' => e = .returned (.string v) ∧ w' = w := by
  obtain ⟨z0, f0⟩ := assert_other (P := Try.prog) (t := 9) (asserted := 39) Try.underlying39 (by intro ws e; cases e) (by decide) (by kernel_rfl) (.string v) 20 w
  obtain ⟨z1, f1⟩ := assert_other (P := Try.prog) (t := 9) (asserted := 57) Try.underlying57 (by intro ws e; cases e) (by decide) (by kernel_rfl) (.string v) 20 w
  obtain ⟨z2, f2⟩ := assert_other (P := Try.prog) (t := 9) (asserted := 70) Try.underlying70 (by intro ws e; cases e) (by decide) (by kernel_rfl) (.string v) 20 w
  obtain ⟨z3, f3⟩ := assert_other (P := Try.prog) (t := 9) (asserted := 75) Try.underlying75 (by intro ws e; cases e) (by decide) (by kernel_rfl) (.string v) 20 w
  obtain ⟨z4, f4⟩ := assert_other (P := Try.prog) (t := 9) (asserted := 77) Try.underlying77 (by intro ws e; cases e) (by decide) (by kernel_rfl) (.string v) 20 w
  obtain ⟨z5, f5⟩ := assert_other (P := Try.prog) (t := 9) (asserted := 80) Try.underlying80 (by intro ws e; cases e) (by decide) (by kernel_rfl) (.string v) 20 w
  obtain ⟨z6, f6⟩ := assert_other (P := Try.prog) (t := 9) (asserted := 82) Try.underlying82 (by intro ws e; cases e) (by decide) (by kernel_rfl) (.string v) 20 w
  go_enter Try.func19, Try.ntmps19
  go_wp2
  go_ret
  exact ⟨rfl, rfl⟩

set_option maxHeartbeats 1000000 in
theorem atB_S {w : World} {R G n : Nat} {bv mv : Value} (hblk : w.heap[R]? = some (.cells #[bv, mv, .slice (some ⟨G, 0, none⟩) n n] 49 (0, 0))) (n1 : 1 ≤ n) (n2 : n ≤ 4096) (k : Nat) (hk : k < 18446744073709551616) : Calls Try.prog 18 #[.pointer (some ⟨R, 0, none⟩), .int .u64 (k : Int)] w fun e w' => e = .returned (.pointer (some ⟨G, k % n * 2, none⟩)) ∧ w' = w.drew := by
  have b2 := blk_cell hblk 2
  simp at b2
  obtain ⟨q, hq⟩ : ∃ q, q = k % n := ⟨_, rfl⟩
  have hqn : q < n := by rw [hq]; exact Nat.mod_lt _ n1
  rw [← hq]
  have hqi : (k : Int) % (n : Int) = (q : Int) := by rw [hq]; omega
  have n0 : (n : Int) ≠ 0 := by omega
  have hqni : (q : Int) < (n : Int) := by omega
  have hw : (n : Int) < 18446744073709551616 := by omega
  clear hq hblk
  go_enter Try.func18, Try.ntmps18
  go_wp2
  go_region
  go_wp2
  go_ret
  exact ⟨rfl, rfl⟩
theorem at_S {w : World} {R G m : Nat} {cs : Array Value} {s : RS ByteArray} (h : RQS w R G m cs s) (k : Nat) (hk : k < 18446744073709551616) : Calls Try.prog 18 #[.pointer (some ⟨R, 0, none⟩), .int .u64 (k : Int)] w fun e w' => e = .returned (.pointer (some ⟨G, k % s.n * 2, none⟩)) ∧ w' = w.drew :=
  atB_S h.blk h.n1 h.n2 k hk

set_option maxHeartbeats 1000000 in
theorem base_S {w : World} {R G m : Nat} {cs : Array Value} {s : RS ByteArray} (h : RQS w R G m cs s) : Calls Try.prog 9 #[.pointer (some ⟨R, 0, none⟩)] w fun e w' => e = .returned (.int .u64 (s.b : Int)) ∧ w' = w := by
  have b0 := blk_cell h.blk 0
  simp at b0
  clear h
  go_enter Try.func9, Try.ntmps9
  go_wp2
  go_ret
  exact ⟨rfl, rfl⟩
set_option maxHeartbeats 1000000 in
theorem last_S {w : World} {R G m : Nat} {cs : Array Value} {s : RS ByteArray} (h : RQS w R G m cs s) : Calls Try.prog 10 #[.pointer (some ⟨R, 0, none⟩)] w fun e w' => e = .returned (.int .u64 (m : Int)) ∧ w' = w := by
  have b0 := blk_cell h.blk 1
  simp at b0
  clear h
  go_enter Try.func10, Try.ntmps10
  go_wp2
  go_ret
  exact ⟨rfl, rfl⟩

set_option maxHeartbeats 2000000 in
theorem get_S {w : World} {R G m : Nat} {cs : Array Value} {s : RS ByteArray} (h : RQS w R G m cs s) (k : Nat) (hk : k < 18446744073709551616) : Calls Try.prog 6 #[.pointer (some ⟨R, 0, none⟩), .int .u64 (k : Int)] w fun e w' => e = .returned (.tuple #[((s.t k).map fun v => .string v).getD (.string ⟨#[]⟩), .bool (s.t k).isSome]) ∧ Below w.heap.size w w' := by
  obtain ⟨b, hb⟩ : ∃ b, b = s.b := ⟨_, rfl⟩
  have b0 := blk_cell h.blk 0
  have b1 := blk_cell h.blk 1
  simp at b0 b1
  rw [← hb] at b0
  have H := Lib.hid h
  have HB := Lib.hid hb
  clear hb h
  go_enter Try.func6, Try.ntmps6
  by_cases h1 : b < k ∧ k ≤ m
  · obtain ⟨h1, h2⟩ := h1
    have h1i : ¬ (k : Int) ≤ (b : Int) := by omega
    have h2i : ¬ (m : Int) < (k : Int) := by omega
    have hc := H.out.cell k (by rw [← HB.out]; exact h1) (by have := H.out.le; omega) hk
    obtain ⟨hc0, hc1⟩ := hc
    have c0 := (blk_cell (w := w.drew) H.out.row (k % s.n * 2)).trans hc0
    have c1 := (blk_cell (w := w.drew) H.out.row (k % s.n * 2 + 1)).trans hc1
    obtain ⟨q, hq⟩ : ∃ q, q = k % s.n * 2 := ⟨_, rfl⟩
    have HA := Lib.hid (at_S H.out k hk)
    rw [← hq] at HA c0 c1
    clear hc0 hc1 hq
    cases ht : s.t k with
    | none =>
      rw [ht] at c0 c1
      simp at c0 c1
      clear ht
      go_wp2_with fail
      refine HA.out.mono ?_
      rintro e w' ⟨rfl, rfl⟩
      go_wp2
      exact bodyPost_ret (v := .tuple #[.string ⟨#[]⟩, .bool false]) (by simp [results, Try.results6, go_sem]) rfl ⟨rfl, (Below.refl _ w).drew⟩
    | some v =>
      rw [ht] at c0 c1
      simp at c0 c1
      clear ht
      go_wp2_with fail
      refine HA.out.mono ?_
      rintro e w' ⟨rfl, rfl⟩
      go_wp2_with fail
      refine (own_S v _).mono ?_
      rintro e w' ⟨rfl, rfl⟩
      go_wp2
      exact bodyPost_ret (v := .tuple #[.string v, .bool true]) (by simp [results, Try.results6, go_sem]) rfl ⟨rfl, (Below.refl _ w).drew⟩
  · have ht : s.t k = none := H.out.none_ (by rw [← HB.out]; omega)
    rw [ht]
    clear ht
    by_cases h2 : (k : Int) ≤ (b : Int)
    · clear h1
      go_wp2
      exact bodyPost_ret (v := .tuple #[.string ⟨#[]⟩, .bool false]) (by simp [results, Try.results6, go_sem]) rfl ⟨rfl, Below.refl _ w⟩
    · have h3 : (m : Int) < (k : Int) := by omega
      clear h1
      go_wp2
      exact bodyPost_ret (v := .tuple #[.string ⟨#[]⟩, .bool false]) (by simp [results, Try.results6, go_sem]) rfl ⟨rfl, Below.refl _ w⟩
end Go.Proofs.Yteeiiaahhoeohaa
