/- The heap sort of a row of numbers; a row turned round. -/
import Derived.Test.YtelbgjnaceffeaaSoA
import Derived.Deep.CutBlock
import Derived.Handy
namespace Go.Proofs.Ytelbgjnaceffeaa
open Go.RowKit Go.Sort

/-! The heap's loops, a step at a time. -/
section
variable (lt : Int → Int → Bool)
/-- The child that is looked at. -/
def kid (hi f r : Nat) (d : Array Int) : Nat := if 2 * r + 2 < hi ∧ lt d[f + (2 * r + 1)]! d[f + (2 * r + 2)]! = true then 2 * r + 2 else 2 * r + 1
theorem sift_end {hi f r : Nat} {d : Array Int} (h : hi ≤ 2 * r + 1) : siftDown lt hi f r d = d := by
  rw [siftDown, dif_pos h]
theorem sift_next {hi f r : Nat} {d : Array Int} (h : 2 * r + 1 < hi) : siftDown lt hi f r d = if lt d[f + r]! d[f + kid lt hi f r d]! = true then siftDown lt hi f (kid lt hi f r d) (swp d (f + r) (f + kid lt hi f r d)) else d := by
  have e : f + (2 * r + 1) + 1 = f + (2 * r + 2) := by omega
  conv => lhs; rw [siftDown, dif_neg (by omega), e]
  unfold kid
  by_cases hc : 2 * r + 2 < hi ∧ lt d[f + (2 * r + 1)]! d[f + (2 * r + 2)]! = true
  · have h1 : (decide (2 * r + 1 + 1 < hi) && lt d[f + (2 * r + 1)]! d[f + (2 * r + 2)]!) = true := by
      rw [hc.2, Bool.and_true]
      exact decide_eq_true hc.1
    rw [if_pos h1, if_pos hc]
    cases hl : lt d[f + r]! d[f + (2 * r + 2)]! with
    | true =>
      rw [if_neg (by simp), if_pos rfl]
      exact dif_pos hc.1
    | false =>
      rw [if_pos (by simp), if_neg (by simp)]
  · have h1 : ¬ (decide (2 * r + 1 + 1 < hi) && lt d[f + (2 * r + 1)]! d[f + (2 * r + 2)]!) = true := fun h2 => hc (by
      rw [Bool.and_eq_true, decide_eq_true_eq] at h2
      exact h2)
    rw [if_neg h1, if_neg hc]
    cases hl : lt d[f + r]! d[f + (2 * r + 1)]! with
    | true => rw [if_neg (by simp), if_pos rfl]
    | false => rw [if_pos (by simp), if_neg (by simp)]
theorem kid_lt {hi f r : Nat} {d : Array Int} (h : 2 * r + 1 < hi) : kid lt hi f r d < hi ∧ r < kid lt hi f r d := by
  unfold kid
  split
  · rename_i hc; exact ⟨hc.1, by omega⟩
  · exact ⟨h, by omega⟩
end
theorem wrap_int64 {x : Int} (h0 : -9223372036854775808 ≤ x) (h1 : x ≤ 9223372036854775807) : IntKind.i64.wrap x = x := by
  simp [IntKind.wrap, IntKind.bits, IntKind.signed]
  omega
set_option maxRecDepth 100000 in
set_option maxHeartbeats 4000000 in
theorem sift_n {w W0 : World} {b off n : Nat} {pre rest : List Value} {d : Array Int} (cap lo hi f : Nat) (hs : SR w b off n pre rest d W0) (hf : f + hi ≤ n) (hlo : lo ≤ n) (hsz : n < 1152921504606846976) :
    Calls Try.prog 54 #[.slice (some ⟨b, off, none⟩) n cap, .int .i64 (lo : Int), .int .i64 (hi : Int), .int .i64 (f : Int)] W0 fun x W => x = .returned (.tuple #[]) ∧ SR w b off n pre rest (siftDown ltInt hi f lo d) W := by
  have HS := Lib.hid hs
  clear hs
  go_enter Try.func54, Try.ntmps54
  go_wp2
  go_loopw [8] (fun vr wr => ∃ (r : Nat) (dk : Array Int), vr = .int .i64 (r : Int) ∧ r ≤ n ∧ Hid (SR w b off n pre rest dk wr ∧ siftDown ltInt hi f r dk = siftDown ltInt hi f lo d)) (fun vr _ => hi - (intOf vr).toNat)
  case atStart => exact ⟨lo, d, rfl, hlo, Lib.hid ⟨HS.out, rfl⟩⟩
  case round =>
    obtain ⟨r, dk, rfl, hrn, HI⟩ := hrel
    by_cases hlt : 2 * r + 1 < hi
    · have hlz : ¬ (hi : Int) ≤ 2 * (r : Int) + 1 := by omega
      obtain ⟨G, hG⟩ : ∃ G : Nat → Int, ∀ t, G t = dk[t]! := ⟨fun t => dk[t]!, fun _ => rfl⟩
      have hcw : ∀ t, t < n → wr.cell? ⟨b, off + t, none⟩ = some (.int .u32 (G t)) := fun t ht => by rw [hG]; exact HI.out.1.cell ht
      have hfw : ∀ t, t < n → wr.frozen? ⟨b, off + t, none⟩ = false := fun t _ => HI.out.1.frozen t
      have HG := Lib.hid hG
      obtain ⟨c, hc⟩ : ∃ c, c = kid ltInt hi f r dk := ⟨_, rfl⟩
      obtain ⟨hk1, hk2⟩ := kid_lt ltInt (f := f) (d := dk) hlt
      rw [← hc] at hk1 hk2
      have HC := Lib.hid hc
      clear hG hc
      obtain ⟨tb, htb⟩ : ∃ t, t = (decide (2 * r + 2 < hi) && ltInt (G (f + 2 * r + 1)) (G (f + 2 * r + 2))) := ⟨_, rfl⟩
      have hcb : (c : Int) = if tb then 2 * (r : Int) + 1 + 1 else 2 * (r : Int) + 1 := by
        have e1 : f + 2 * r + 1 = f + (2 * r + 1) := by omega
        have e2 : f + 2 * r + 2 = f + (2 * r + 2) := by omega
        rw [e1, e2, HG.out, HG.out] at htb
        rw [HC.out, kid]
        by_cases h2 : 2 * r + 2 < hi ∧ ltInt dk[f + (2 * r + 1)]! dk[f + (2 * r + 2)]! = true
        · rw [if_pos h2, htb, decide_eq_true h2.1, h2.2]
          simp; omega
        · have : tb = false := by
            cases htt : tb with
            | false => rfl
            | true =>
              rw [htt] at htb
              have := htb.symm
              rw [Bool.and_eq_true, decide_eq_true_eq] at this
              exact absurd this h2
          rw [if_neg h2, this]
          simp
      have HT := Lib.hid (And.intro htb hcb)
      clear htb hcb
      go_upto_region 3 with (fail)
      go_cut [36] (fun s36 wx => s36 = .bool tb ∧ Hid (SR w b off n pre rest dk wx))
      case first =>
        by_cases h2 : 2 * r + 2 < hi
        · have h2z : 2 * (r : Int) + 1 + 1 < (hi : Int) := by omega
          go_quiet (first | (go_at_call 49; refine Calls.quiet_of_same (less_n _ _ _)))
          go_wp2
          go_meet
          exact ⟨by rw [HT.out.1, decide_eq_true h2, Bool.true_and], Lib.hid (HI.out.1.drewN _)⟩
        · have h2z : ¬ 2 * (r : Int) + 1 + 1 < (hi : Int) := by omega
          go_quiet (first | (go_at_call 49; refine Calls.quiet_of_same (less_n _ _ _)))
          go_wp2
          go_meet
          exact ⟨by rw [HT.out.1, decide_eq_false h2, Bool.false_and], Lib.hid (HI.out.1.drewN _)⟩
      case rest =>
        obtain ⟨rfl, H3⟩ := hcut
        clear hcw hfw
        have hcw : ∀ t, t < n → wc.cell? ⟨b, off + t, none⟩ = some (.int .u32 (G t)) := fun t ht => by rw [HG.out]; exact H3.out.cell ht
        have hfw : ∀ t, t < n → wc.frozen? ⟨b, off + t, none⟩ = false := fun t _ => H3.out.frozen t
        go_upto_if 36 with (fail)
        go_cut [9] (fun s9 wx => s9 = .int .i64 (c : Int) ∧ wc = wx)
        case first =>
          cases tb with
          | true =>
            go_wp2
            go_meet
            exact ⟨by rw [HT.out.2]; rfl, rfl⟩
          | false =>
            go_wp2
            go_meet
            exact ⟨by rw [HT.out.2]; rfl, rfl⟩
        case rest =>
          obtain ⟨rfl, rfl⟩ := hcut
          have hi1 : f + r < n := by omega
          have hi2 : f + c < n := by omega
          go_upto_region 5 with (fail)
          cases hl : ltInt (G (f + r)) (G (f + c)) with
          | true =>
            go_quiet (first | (go_at_call 49; refine Calls.quiet_of_same (less_n _ _ _)))
            go_wp2
            go_region
            all_goals go_wp2
            go_roundw
            case rel =>
              have e : siftDown ltInt hi f r dk = siftDown ltInt hi f c (swp dk (f + r) (f + c)) := by
                rw [sift_next ltInt hlt, ← HC.out, if_pos (by rw [← HG.out, ← HG.out]; exact hl)]
              refine ⟨c, swp dk (f + r) (f + c), rfl, by omega, Lib.hid ⟨?_, by rw [← e]; exact HI.out.2⟩⟩
              rw [HG.out, HG.out]
              exact H3.out.swap (by omega) (by omega) (nq + 1)
            case measure => simp [intOf]; omega
          | false =>
            have e : siftDown ltInt hi f r dk = dk := by
              rw [sift_next ltInt hlt, ← HC.out, if_neg (by rw [← HG.out, ← HG.out, hl]; simp)]
            have HE := Lib.hid e
            clear e
            go_quiet (first | (go_at_call 49; refine Calls.quiet_of_same (less_n _ _ _)))
            go_wp2
            go_returns
            exact ⟨rfl, by rw [← HI.out.2, HE.out]; exact H3.out.drewN _⟩
    · have hlz : (hi : Int) ≤ 2 * (r : Int) + 1 := by omega
      go_wp2
      go_end0
      exact ⟨rfl, by rw [← HI.out.2, sift_end ltInt (by omega)]; exact HI.out.1⟩
set_option maxRecDepth 100000 in
set_option maxHeartbeats 4000000 in
theorem heap_n {w W0 : World} {b off n : Nat} {pre rest : List Value} {d : Array Int} (cap a e : Nat) (hs : SR w b off n pre rest d W0) (hae : a < e) (he : e ≤ n) (hsz : n < 1152921504606846976) :
    Calls Try.prog 44 #[.slice (some ⟨b, off, none⟩) n cap, .int .i64 (a : Int), .int .i64 (e : Int)] W0 fun x W => x = .returned (.tuple #[]) ∧ SR w b off n pre rest (heapSort ltInt d a e) W := by
  obtain ⟨h, hh⟩ : ∃ h, h = e - a := ⟨_, rfl⟩
  have he' : (e : Int) - (a : Int) = (h : Int) := by omega
  have hh1 : 1 ≤ h := by omega
  have hhn : a + h ≤ n := by omega
  have HH := Lib.hid hh
  have HS := Lib.hid hs
  clear hs hh hae he
  go_enter Try.func44, Try.ntmps44
  go_wp2
  go_loopw [9] (fun vi wr => ∃ (k : Nat) (dk : Array Int), vi = .int .i64 ((k : Int) - 1) ∧ k ≤ h ∧ Hid (SR w b off n pre rest dk wr ∧ heapBuild ltInt h a k dk = heapBuild ltInt h a ((h - 1) / 2 + 1) d)) (fun vi _ => (intOf vi + 1).toNat)
  case atStart => exact ⟨(h - 1) / 2 + 1, d, by congr 1; omega, by omega, Lib.hid ⟨HS.out, rfl⟩⟩
  case round =>
    obtain ⟨k, dk, rfl, hkh, HI⟩ := hrel
    cases k with
    | succ k =>
      rw [show ((k + 1 : Nat) : Int) - 1 = (k : Int) by omega]
      have HC := Lib.hid (sift_n cap k h a HI.out.1 hhn (by omega) hsz)
      go_wp2_with (go_at_call 54; refine HC.out.mono ?_; rintro e1 W1 ⟨rfl, hs1⟩)
      go_roundw
      case rel => exact ⟨k, _, rfl, by omega, Lib.hid ⟨hs1, by rw [← HI.out.2]; rfl⟩⟩
      case measure => simp [intOf]
    | zero =>
      rw [show ((0 : Nat) : Int) - 1 = -1 by omega]
      have HB := Lib.hid HI.out.2
      obtain ⟨d1, hd1⟩ : ∃ x, x = heapBuild ltInt h a ((h - 1) / 2 + 1) d := ⟨_, rfl⟩
      have h1 : dk = d1 := by rw [hd1, ← HI.out.2]; rfl
      have HD1 := Lib.hid (And.intro hd1 (h1 ▸ HI.out.1))
      clear hd1 h1 HB hkh
      go_wp2
      go_loopw [10] (fun vi wr2 => ∃ (k : Nat) (dk : Array Int), vi = .int .i64 ((k : Int) - 1) ∧ k ≤ h ∧ Hid (SR w b off n pre rest dk wr2 ∧ heapPop ltInt a k dk = heapPop ltInt a h d1)) (fun vi _ => (intOf vi + 1).toNat)
      case atStart => exact ⟨h, d1, rfl, Nat.le_refl _, Lib.hid ⟨HD1.out.2, rfl⟩⟩
      case round =>
        obtain ⟨k, dj, rfl, hkh, HJ⟩ := hrel
        cases k with
        | succ k =>
          rw [show ((k + 1 : Nat) : Int) - 1 = (k : Int) by omega]
          obtain ⟨G, hG⟩ : ∃ G : Nat → Int, ∀ t, G t = dj[t]! := ⟨fun t => dj[t]!, fun _ => rfl⟩
          have hcw : ∀ t, t < n → wr.cell? ⟨b, off + t, none⟩ = some (.int .u32 (G t)) := fun t ht => by rw [hG]; exact HJ.out.1.cell ht
          have hfw : ∀ t, t < n → wr.frozen? ⟨b, off + t, none⟩ = false := fun t _ => HJ.out.1.frozen t
          have HG := Lib.hid hG
          clear hG
          rcases Nat.eq_zero_or_pos k with hk0 | hk0
          · subst hk0
            obtain ⟨W2, hW2⟩ : ∃ W2, W2 = ((wr.setCell ⟨b, off + a, none⟩ (.int .u32 (G a))).setCell ⟨b, off + a, none⟩ (.int .u32 (G a))).drew := ⟨_, rfl⟩
            have hs2 : SR w b off n pre rest (swp dj a (a + 0)) W2 := by
              rw [hW2, HG.out]
              exact HJ.out.1.swap (by omega) (by omega) 1
            have HC := Lib.hid (sift_n cap 0 0 a hs2 (by omega) (by omega) hsz)
            clear hs2
            go_wp2
            go_region
            rw [← hW2]
            clear hW2 hcw hfw
            go_wp2_with (go_at_call 54; refine HC.out.mono ?_; rintro e1 W3 ⟨rfl, hs3⟩)
            go_roundw
            case rel => exact ⟨0, _, rfl, by omega, Lib.hid ⟨hs3, by rw [← HJ.out.2]; rfl⟩⟩
            case measure => simp [intOf]
          · obtain ⟨W2, hW2⟩ : ∃ W2, W2 = ((wr.setCell ⟨b, off + a, none⟩ (.int .u32 (G (a + k)))).setCell ⟨b, off + (a + k), none⟩ (.int .u32 (G a))).drew := ⟨_, rfl⟩
            have hs2 : SR w b off n pre rest (swp dj a (a + k)) W2 := by
              rw [hW2, HG.out, HG.out]
              exact HJ.out.1.swap (by omega) (by omega) 1
            have HC := Lib.hid (sift_n cap 0 k a hs2 (by omega) (by omega) hsz)
            clear hs2
            go_wp2
            go_region
            rw [← hW2]
            clear hW2 hcw hfw
            go_wp2_with (go_at_call 54; refine HC.out.mono ?_; rintro e1 W3 ⟨rfl, hs3⟩)
            go_roundw
            case rel => exact ⟨k, _, rfl, by omega, Lib.hid ⟨hs3, by rw [← HJ.out.2]; rfl⟩⟩
            case measure => simp [intOf]
        | zero =>
          rw [show ((0 : Nat) : Int) - 1 = -1 by omega]
          go_wp2
          go_end0
          refine ⟨rfl, ?_⟩
          unfold heapSort
          rw [← HH.out, ← HD1.out.1, ← HJ.out.2]
          exact HJ.out.1
end Go.Proofs.Ytelbgjnaceffeaa
