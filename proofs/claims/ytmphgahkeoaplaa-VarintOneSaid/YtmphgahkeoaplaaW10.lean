/- The walk of the law VarintOne. -/
import Derived.Test.YtmphgahkeoaplaaR5
import Derived.Test.YtmphgahkeoaplaaR7
namespace Go.Proofs.Ytmphgahkeoaplaa
open Go.RowKit

theorem vb_beq (n m : Nat) (hn : n < 18446744073709551616) (hm : m < 18446744073709551616) : ((vb n == vb m) == ((n : Int) == (m : Int))) = true := by
  by_cases h : n = m
  · subst h; simp
  · have h1 : vb n ≠ vb m := fun e => h (vb_inj hn hm e)
    have h2 : ((n : Int) == (m : Int)) = false := by simp; omega
    simp [h1, h2]

/-- What the reader says at the end, having read a number. -/
theorem one_cases (B : List UInt8) : (∃ x, rdU B = .ok x [] ∧ B = vb x ∧ x < 18446744073709551616) ∨ (∃ x b rest, rdU B = .ok x (b :: rest)) ∨ rdU B = .short ∨ ∃ rest, rdU B = .form rest := by
  cases h : rdU B with
  | ok x rest =>
    cases rest with
    | nil => exact .inl ⟨x, rfl, by have := rdU_ok h; simpa using this⟩
    | cons b rest => exact .inr (.inl ⟨x, b, rest, rfl⟩)
  | short => exact .inr (.inr (.inl rfl))
  | form rest => exact .inr (.inr (.inr ⟨rest, rfl⟩))

set_option maxRecDepth 100000 in
set_option maxHeartbeats 2000000 in
theorem One_any (A : Option Addr) (L c : Nat) (B : List UInt8) (hL : L = B.length) (hLm : L ≤ maxLen) (n m : Nat) (hn : n < 18446744073709551616) (hm : m < 18446744073709551616) (w : World) (hA : HasA w w.heap.size A B) :
    Calls Try.prog 5 #[.slice A L c, .int .u64 (n : Int), .int .u64 (m : Int)] w fun e W' => e = .returned (.bool true) ∧ Below w.heap.size w W' := by
  unfold maxLen at hLm
  have HL := Lib.hid hL
  clear hL
  by_cases hlong : 20 < L
  · have hl : (20 : Int) < L := by omega
    go_enter Try.func5, Try.ntmps5
    go_wp2_with (go_at_call 6; refine (wakes_any _).mono ?_; rintro e W' ⟨rfl, hb⟩)
    go_ret
    exact ⟨rfl, hb⟩
  · have hl : ¬ (20 : Int) < L := by omega
    go_enter Try.func5, Try.ntmps5
    go_wp2_with fail
    refine (New_any A L c 0 B HL.out (by have := HL.out; omega) w hA).mono ?_
    rintro e W1 ⟨R, rfl, hr1, hR1, hb1⟩
    have B1 := Lib.hid hb1
    have HR1 := Lib.hid hr1
    have HA1 := Lib.hid (hA.below hb1)
    clear hb1 hr1 hA
    rcases one_cases B with ⟨x, hr, hB, hx⟩ | ⟨x, b, rest, hr⟩ | hr | ⟨rest, hr⟩
    · have HRD := Lib.hid hr
      have HB := Lib.hid hB
      clear hr hB
      go_wp2_with fail
      refine (UintR_ok W1 R 0 B x [] HR1.out HRD.out).mono ?_
      rintro e W2 ⟨rfl, hr2, hg2⟩
      have HR2 := Lib.hid hr2
      have B2 := Lib.hid (below_grown B1.out B1.out.size hR1 hg2)
      have HA2 := Lib.hid (HA1.out.keep (w' := W2) fun p hp => World.cell?_of_block (hg2.block p.block (Nat.lt_of_lt_of_le hp B1.out.size) (fun e => by cases e; omega)))
      clear hr2 hg2
      go_wp2
      refine one_region5 R x A L c B hx HB.out _ W2 _ rfl rfl rfl rfl HR2.out ⟨A, L, c, rfl, HL.out, HA2.out.more B2.out.size⟩ ?_
      intro a' w' hs hd k1 k2 k27 hg
      have BB := Lib.hid (B2.out.trans (Below.mono hg B2.out.size))
      clear hg
      go_wp2
      refine wp_cond_false k27 ?_
      go_wp2
      refine one_region7 n m hn hm (vb_beq n m hn hm) a' w' _ hs (k1.trans rfl) (k2.trans rfl) ?_
      intro a'' w'' hd' h6 hg'
      go_wp2
      refine bodyPost_ret (results_tmp rfl _ _ _) (hd'.trans hd) ⟨by rw [h6], BB.out.trans (Below.mono hg' BB.out.size)⟩
    · have HRD := Lib.hid hr
      clear hr
      go_wp2_with fail
      refine (UintR_ok W1 R 0 B x (b :: rest) HR1.out HRD.out).mono ?_
      rintro e W2 ⟨rfl, hr2, hg2⟩
      have HFD : Hid (Fd R 11 (b :: rest) W2) := ⟨_, hr2, .inr ⟨rfl, rfl, by simp⟩⟩
      have B2 := Lib.hid (below_grown B1.out B1.out.size hR1 hg2)
      clear hr2 hg2
      go_wp2
      refine one_region5b R 11 (b :: rest) rfl _ W2 _ rfl rfl HFD.out ?_
      intro a' w' hs hd k1 k2 k27 hg
      have BB := Lib.hid (below_grown B2.out B2.out.size hR1 hg)
      clear hg
      go_wp2
      refine wp_cond_false k27 ?_
      go_wp2
      refine one_region7 n m hn hm (vb_beq n m hn hm) a' w' _ hs (k1.trans rfl) (k2.trans rfl) ?_
      intro a'' w'' hd' h6 hg'
      go_wp2
      refine bodyPost_ret (results_tmp rfl _ _ _) (hd'.trans hd) ⟨by rw [h6], BB.out.trans (Below.mono hg' BB.out.size)⟩
    · have HRD := Lib.hid hr
      clear hr
      go_wp2_with fail
      refine (UintR_short W1 R 0 B HR1.out HRD.out).mono ?_
      rintro e W2 ⟨rfl, hr2, hg2⟩
      have HFD : Hid (Fd R 10 [] W2) := ⟨_, hr2, .inl ⟨rfl, rfl⟩⟩
      have B2 := Lib.hid (below_grown B1.out B1.out.size hR1 hg2)
      clear hr2 hg2
      go_wp2
      refine one_region5b R 10 [] rfl _ W2 _ rfl rfl HFD.out ?_
      intro a' w' hs hd k1 k2 k27 hg
      have BB := Lib.hid (below_grown B2.out B2.out.size hR1 hg)
      clear hg
      go_wp2
      refine wp_cond_false k27 ?_
      go_wp2
      refine one_region7 n m hn hm (vb_beq n m hn hm) a' w' _ hs (k1.trans rfl) (k2.trans rfl) ?_
      intro a'' w'' hd' h6 hg'
      go_wp2
      refine bodyPost_ret (results_tmp rfl _ _ _) (hd'.trans hd) ⟨by rw [h6], BB.out.trans (Below.mono hg' BB.out.size)⟩
    · have HRD := Lib.hid hr
      clear hr
      go_wp2_with fail
      refine (UintR_form W1 R 0 B rest HR1.out HRD.out).mono ?_
      rintro e W2 ⟨rfl, hr2, hg2⟩
      have HFD : Hid (Fd R 11 rest W2) := ⟨_, hr2, .inl ⟨rfl, rfl⟩⟩
      have B2 := Lib.hid (below_grown B1.out B1.out.size hR1 hg2)
      clear hr2 hg2
      go_wp2
      refine one_region5b R 11 rest rfl _ W2 _ rfl rfl HFD.out ?_
      intro a' w' hs hd k1 k2 k27 hg
      have BB := Lib.hid (below_grown B2.out B2.out.size hR1 hg)
      clear hg
      go_wp2
      refine wp_cond_false k27 ?_
      go_wp2
      refine one_region7 n m hn hm (vb_beq n m hn hm) a' w' _ hs (k1.trans rfl) (k2.trans rfl) ?_
      intro a'' w'' hd' h6 hg'
      go_wp2
      refine bodyPost_ret (results_tmp rfl _ _ _) (hd'.trans hd) ⟨by rw [h6], BB.out.trans (Below.mono hg' BB.out.size)⟩
end Go.Proofs.Ytmphgahkeoaplaa
