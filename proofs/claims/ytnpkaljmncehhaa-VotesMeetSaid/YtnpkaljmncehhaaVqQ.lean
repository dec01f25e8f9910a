/- Seven numbers are sorted. -/
import Derived.Test.YtnpkaljmncehhaaVqO
import Derived.LoopTactic
namespace Go.Proofs.Ytnpkaljmncehhaa
open Go.RowKit Go.Sort

set_option maxRecDepth 100000 in
set_option maxHeartbeats 4000000 in
theorem len_any (w : World) : Calls Try.prog 59 #[.int .u64 7] w fun e W' => e = .returned (.int .i64 3) ∧ W' = w := by
  go_enter Try.func59, Try.ntmps59
  go_wp2
  go_ret
  exact ⟨by kernel_rfl, rfl⟩
theorem len7_any (w : World) : Calls Try.prog 47 #[.int .u64 7] w fun e W' => e = .returned (.int .i64 3) ∧ W' = w := by
  go_enter Try.func47, Try.ntmps47
  go_wp2_with fail
  refine (len_any w).mono ?_
  rintro e W1 ⟨rfl, rfl⟩
  go_wp2
  go_ret
  exact ⟨rfl, rfl⟩
set_option maxRecDepth 100000 in
set_option maxHeartbeats 4000000 in
theorem pdq7_any (b lim : Nat) (d : Array Int) (w W0 : World) (hs : SR w b 0 7 [] [] d W0) :
    Calls Try.prog 46 #[.slice (some ⟨b, 0, none⟩) 7 7, .int .i64 0, .int .i64 7, .int .i64 (lim : Int)] W0 fun e W => e = .returned (.tuple #[]) ∧ SR w b 0 7 [] [] (insertionSort ltInt d 0 7) W := by
  have HC := Lib.hid (ins_n 7 0 7 hs (by omega) (by omega) (by omega))
  clear hs
  go_enter Try.func46, Try.ntmps46
  go_wp2
  go_loopw [1, 2, 3, 8, 9] (fun s1 s2 s3 s8 s9 wr => s1 = .int .i64 0 ∧ s2 = .int .i64 7 ∧ s3 = .int .i64 (lim : Int) ∧ s8 = .bool true ∧ s9 = .bool true ∧ wr = W0) (fun _ _ _ _ _ _ => 0)
  case atStart => exact ⟨rfl, rfl, rfl, rfl, rfl, rfl⟩
  case round =>
    obtain ⟨rfl, rfl, rfl, rfl, rfl, rfl⟩ := hrel
    go_wp2_with (go_at_call 49; refine HC.out.mono ?_; rintro e1 W1 ⟨rfl, hs1⟩)
    exact bodyPost_ret (results_none rfl _ _ _) rfl ⟨rfl, hs1⟩
/-- Seven numbers in order. -/
structure Sort7 (d d' : Array Int) : Prop where
  size : d'.size = 7
  perm : d'.toList.Perm d.toList
  le : ∀ i j, i ≤ j → j < 7 → d'[i]! ≤ d'[j]!
theorem sort7_any (b : Nat) (d : Array Int) (w : World) (hd : d.size = 7) (hb : w.heap[b]? = some (.cells (rowZ [] d []) 77 (0, 0))) :
    Calls Try.prog 38 #[.slice (some ⟨b, 0, none⟩) 7 7] w fun e W => e = .returned (.tuple #[]) ∧ ∃ d', Sort7 d d' ∧ W.heap[b]? = some (.cells (rowZ [] d' []) 77 (0, 0)) ∧ w.grownBy W (some b) := by
  have hs : SR w b 0 7 [] [] d w := ⟨hd, rfl, hb, ⟨rfl, rfl, rfl, Nat.le_refl _, fun _ _ _ => rfl⟩⟩
  have HC := Lib.hid (pdq7_any b 3 d w w hs)
  have HP := Lib.hid (insertionSort_holds swo_ltInt d 0 7 (by omega) (by omega))
  have HD := Lib.hid hd
  clear hs hb hd
  go_enter Try.func38, Try.ntmps38
  go_wp2_with fail
  refine (len7_any w).mono ?_
  rintro e W1 ⟨rfl, rfl⟩
  go_wp2_with fail
  refine HC.out.mono ?_
  rintro e W2 ⟨rfl, h2⟩
  have H2 := Lib.hid h2
  clear h2
  go_wp2
  go_end0
  refine ⟨rfl, _, ?_, H2.out.row, H2.out.grown⟩
  obtain ⟨⟨h1, _, h2⟩, h3⟩ := HP.out
  have hd := HD.out
  generalize insertionSort ltInt d 0 7 = d' at h1 h2 h3 ⊢
  have hd' : d'.size = 7 := by rw [h1, hd]
  refine ⟨hd', ?_, fun i j hij hj => ?_⟩
  · have e1 : d.extract 0 7 = d := by rw [← hd]; exact Array.extract_size
    have e2 : d'.extract 0 7 = d' := by rw [← hd']; exact Array.extract_size
    rw [e1, e2] at h2
    exact h2
  · rcases Nat.lt_or_ge i j with h | h
    · have := h3 i j (Nat.zero_le _) h hj
      have := of_decide_eq_false this
      omega
    · obtain rfl : i = j := by omega
      exact Int.le_refl _
end Go.Proofs.Ytnpkaljmncehhaa
