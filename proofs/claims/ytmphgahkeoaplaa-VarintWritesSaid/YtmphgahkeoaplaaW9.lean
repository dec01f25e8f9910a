/- The walk of the law VarintWrites. -/
import Derived.Test.YtmphgahkeoaplaaR4
namespace Go.Proofs.Ytmphgahkeoaplaa
open Go.RowKit

set_option maxRecDepth 100000 in
set_option maxHeartbeats 2000000 in
theorem Writes_any (A : Option Addr) (L c : Nat) (B : List UInt8) (hL : L = B.length) (hLm : L ≤ maxLen) (n : Nat) (hn : n < 18446744073709551616) (m : Int) (h1 : -9223372036854775808 ≤ m) (h2 : m ≤ 9223372036854775807) (s : ByteArray) (hs : s.size ≤ maxLen) (w : World) (hA : HasA w w.heap.size A B) :
    Calls Try.prog 3 #[.slice A L c, .int .u64 (n : Int), .int .i64 m, .string s] w fun e W' => e = .returned (.bool true) ∧ Below w.heap.size w W' := by
  unfold maxLen at hs hLm
  have HL := Lib.hid hL
  clear hL
  by_cases hlong : 1000 < L
  · have hl : (1000 : Int) < L := by omega
    go_enter Try.func3, Try.ntmps3
    go_wp2_with (go_at_call 6; refine (wakes_any _).mono ?_; rintro e W' ⟨rfl, hb⟩)
    go_ret
    exact ⟨rfl, hb⟩
  · have hl : ¬ (1000 : Int) < L := by omega
    by_cases hlong2 : 1000 < s.size
    · have hl2 : (1000 : Int) < s.size := by omega
      go_enter Try.func3, Try.ntmps3
      go_wp2_with (go_at_call 6; refine (wakes_any _).mono ?_; rintro e W' ⟨rfl, hb⟩)
      go_ret
      exact ⟨rfl, hb⟩
    · have hl2 : ¬ (1000 : Int) < s.size := by omega
      have hcv := run_conv (P := Try.prog) hA c Try.underlying22 Try.underlying5 Try.underlying9 HL.out
      have hv1 := vb_len10 hn
      have hv2 := vb_len10 (foldN_lt h1 h2)
      have hv3 := vb_len10 (n := s.size) (by omega)
      have V1 := Lib.hid hv1
      have V2 := Lib.hid hv2
      have V3 := Lib.hid hv3
      clear hv1 hv2 hv3
      go_enter Try.func3, Try.ntmps3
      go_wp2
      refine writes_region A L c B n m s hn h1 h2 (by have := HL.out; omega) (by omega) V1.out V2.out V3.out (by simp) _ w _ rfl rfl rfl rfl rfl rfl ⟨A, L, c, rfl, HL.out, hA⟩ ?_
      intro a' w' hd h8 hg
      go_wp2
      refine bodyPost_ret (results_tmp rfl _ _ _) hd ⟨?_, hg⟩
      rw [h8]
end Go.Proofs.Ytmphgahkeoaplaa
