/- The walk of holds: a ring tells just what a table has. -/
import Derived.Test.YteeiiaahhoeohaaRgTab
import Derived.Deep.CutBlock
namespace Go.Proofs.Yteeiiaahhoeohaa
open Go.RowKit

theorem own_at {w : World} {base n c j : Nat} {e : TypeId} {A : Option Addr} {xs : List Value} {u : Value} (h : w.ownsRow base e 1 (.slice A n c) n xs) (hj : xs[j]? = some u) : ∃ g, A = some ⟨g, 0, none⟩ ∧ w.cell? ⟨g, j, none⟩ = some u := by
  rcases h.2 with ⟨_, h0⟩ | ⟨g, cap, cur, e1, _, hg, _, _, _, hx⟩
  · have := h.1
    have h2 := (List.getElem?_eq_some_iff.1 hj).1
    omega
  · injection e1 with e1 _ _
    refine ⟨g, e1, ?_⟩
    rw [blk_cell hg j]
    rw [← hx, Nat.mul_one] at hj
    have h2 := (List.getElem?_eq_some_iff.1 hj).1
    rw [List.getElem?_take_of_lt (by simp at h2; omega)] at hj
    simpa using hj

set_option maxRecDepth 100000 in
set_option maxHeartbeats 8000000 in
theorem holds_any (K : RingS) (hAl : AllS K) (w W : World) (R : Nat) (s : RS ByteArray) (tb n : Nat) (T : Nat → Option ByteArray) (h : LiveM K w R s tb n T W) (hn1 : 1 ≤ s.n) (hn : s.n ≤ 50) (hb : s.b ≤ 1152921504606846976) (hT : ∀ k, s.t k = if s.b < k ∧ k ≤ s.b + s.n then T k else none) :
    Calls Try.prog 12 #[.pointer (some ⟨R, 0, none⟩), .map (some tb), .int .u64 (s.b : Int), .int .i64 (s.n : Int)] W fun e W' => e = .returned (.bool true) ∧ LiveM K w R s tb n T W' := by
  have hls := LS_listed hT (by omega)
  have hlen := LS_len (T := T) (b := s.b) s.n
  have HM := Lib.hid h
  have HA := Lib.hid hAl
  have HT := Lib.hid hT
  have HLS := Lib.hid (And.intro hls hlen)
  obtain ⟨N, hN⟩ : ∃ N, N = s.n := ⟨_, rfl⟩
  obtain ⟨b, hB⟩ : ∃ b, b = s.b := ⟨_, rfl⟩
  obtain ⟨p, hp⟩ : ∃ p, p = (LS T s.b s.n).length := ⟨_, rfl⟩
  rw [← hN, ← hB]
  rw [← hN] at hn1 hn hlen
  rw [← hB] at hb
  rw [hN, ← hp] at hlen
  rw [← hN] at hlen
  have HE := Lib.hid (And.intro hN (And.intro hB hp))
  have hbi : (b : Int) ≤ 1152921504606846976 := by omega
  have hNi : (N : Int) ≤ 50 := by omega
  have hpi : (p : Int) ≤ N := by omega
  clear h hAl hT hls hN hB hp
  go_enter Try.func12, Try.ntmps12
  go_wp2_with fail
  refine (told_any K HA.out w W R s HM.out.live _ HLS.out.1 (by have := HLS.out.2; have := HE.out.1; omega) 1000 (by omega) (by omega)).mono ?_
  rintro e W1 ⟨A, c, A', c', rfl, o1, o2, hb1⟩
  have hmin : min 1000 (LS T s.b s.n).length = p := by rw [← HE.out.2.2]; omega
  rw [hmin] at o1 o2 ⊢
  rw [HE.out.2.2, List.take_length] at o1 o2
  rw [← HE.out.2.2] at o1 o2
  have O1 := Lib.hid o1
  have O2 := Lib.hid o2
  have M1 := Lib.hid (HM.out.grew hb1)
  have B1 := Lib.hid hb1
  clear o1 o2 hb1 hmin
  go_wp2
  go_loopw [11, 12, 13] (fun v11 v12 v13 wr => ∃ j : Nat, j ≤ N ∧ v11 = .int .i64 ((LS T b j).length : Int) ∧ v12 = .int .u64 (LL T b j : Int) ∧ v13 = .int .u64 ((b + 1 + j : Nat) : Int) ∧ Hid (Below W1.heap.size W1 wr)) (fun _ _ v13 _ => b + 1 + N - (intOf v13).toNat)
  case atStart => exact ⟨0, Nat.zero_le _, rfl, rfl, by congr 1, Lib.hid (Below.refl _ _)⟩
  case round =>
    obtain ⟨j, hj, rfl, rfl, rfl, HB⟩ := hrel
    have tab := Lib.hid ((M1.out.grew HB.out).tab)
    by_cases hlt : j < N
    · have hle : ((b + 1 + j : Nat) : Int) ≤ (b : Int) + (N : Int) := by omega
      have hki : ((b + 1 + j : Nat) : Int) ≤ 1152921504606847100 := by omega
      have hnx : ((b + 1 + j : Nat) : Int) + 1 = ((b + 1 + (j + 1) : Nat) : Int) := by omega
      have hk : b + 1 + j < 18446744073709551616 := by omega
      obtain ⟨k, hke⟩ : ∃ k, k = b + 1 + j := ⟨_, rfl⟩
      rw [← hke] at hle hki hnx hk ⊢
      rcases hTk : T (b + 1 + j) with _ | x
      · have hS := LS_none hTk
        have hL := LL_none hTk
        have hTk' : T k = none := by rw [hke]; exact hTk
        have HTK := Lib.hid hTk'
        have HSL := Lib.hid (And.intro hS (And.intro hL (And.intro hke hnx)))
        clear hTk hTk' hS hL hke hnx
        go_wp2_with (at_lookup; refine wpList_tab_look _ rfl _ _ rfl tb n T tab.out k hk rfl rfl ?_; rw [HTK.out]; intro sx _)
        go_wp2
        exact ⟨⟨j + 1, by omega, by rw [HSL.out.1], by rw [HSL.out.2.1], by rw [HSL.out.2.2.2], HB⟩, by have := HSL.out.2.2.1; simp only [intOf]; omega⟩
      · have hS := LS_some hTk
        have hL := LL_some hTk
        obtain ⟨r, hr⟩ := LS_pre (T := T) (b := b) (j := j + 1) (N - (j + 1))
        rw [show j + 1 + (N - (j + 1)) = N by omega, hS, List.append_assoc] at hr
        obtain ⟨q, hq⟩ : ∃ q, q = (LS T b j).length := ⟨_, rfl⟩
        have hpe : p = (LS T b N).length := by rw [HE.out.2.2, HE.out.1, HE.out.2.1]
        have hpq : (q : Int) < p := by rw [hpe, hr, hq]; simp <;> omega
        have hqi : (q : Int) ≤ 50 := by omega
        have ht : (LS T s.b s.n)[q]? = some (k, x) := by rw [← HE.out.1, ← HE.out.2.1, hr, hq, hke]; simp
        obtain ⟨g1, e1, c1⟩ := own_at (own_below O1.out HB.out) (j := q) (u := .int .u64 (k : Int)) (by rw [List.getElem?_map, ht]; rfl)
        obtain ⟨g2, e2, c2⟩ := own_at (own_below O2.out HB.out) (j := q) (u := .string x) (by rw [List.getElem?_map, ht]; rfl)
        subst e1 e2
        have hTk' : T k = some x := by rw [hke]; exact hTk
        have hS1 : ((LS T b (j + 1)).length : Int) = (q : Int) + 1 := by rw [hS, hq]; simp
        have hL1 : (LL T b (j + 1) : Int) = (k : Int) := by rw [hL, hke]
        have HTK := Lib.hid hTk'
        have HSL := Lib.hid (And.intro hS1 (And.intro hL1 (And.intro hke hnx)))
        rw [← hq]
        clear hTk hTk' hS hL hke hnx hS1 hL1 hr hpe ht hq
        go_wp2_with (at_lookup; refine wpList_tab_look _ rfl _ _ rfl tb n T tab.out k hk rfl rfl ?_; rw [HTK.out]; intro sx hsx; rw [hsx x rfl])
        go_wp2
        exact ⟨⟨j + 1, by omega, by rw [HSL.out.1], by rw [HSL.out.2.1], by rw [HSL.out.2.2.2], HB⟩, by have := HSL.out.2.2.1; simp only [intOf]; omega⟩
    · have hnle : ¬ ((b + 1 + j : Nat) : Int) ≤ (b : Int) + (N : Int) := by omega
      obtain rfl : j = N := by omega
      have hq : (LS T b j).length = p := by rw [HE.out.2.2, ← HE.out.1, ← HE.out.2.1]
      obtain ⟨lst, hlst⟩ : ∃ x, x = LL T b j := ⟨_, rfl⟩
      obtain ⟨k, hke⟩ : ∃ k, k = b + 1 + j := ⟨_, rfl⟩
      rw [← hlst, hq, ← hke]
      rw [← hke] at hnle
      have HL := Lib.hid hlst
      have M2 := Lib.hid (M1.out.grew HB.out)
      clear hlst hlt hq hke tab
      go_wp2_with fail
      refine (told_any K HA.out w wr R s M2.out.live _ HLS.out.1 (by have := HLS.out.2; have := HE.out.1; omega) 2 (by omega) (by omega)).mono ?_
      rintro e W3 ⟨A2, c2, A3, c3, rfl, _, _, hb3⟩
      rw [← HE.out.2.2]
      obtain ⟨d, hd⟩ : ∃ d, d = min 2 p := ⟨_, rfl⟩
      rw [← hd]
      have M3 := Lib.hid (M2.out.grew hb3)
      have B3 := Lib.hid hb3
      have HD := Lib.hid hd
      clear hb3 hd
      go_wp2_with fail
      refine M3.out.last.mono ?_
      rintro e W4 ⟨m, hm, rfl, hl4⟩
      obtain rfl : m = lst := by rw [LL_last HT.out hm, HL.out, ← HE.out.1, ← HE.out.2.1]
      have H4 := Lib.hid hl4
      clear hl4
      have hdi : ((d : Int) == min 2 (p : Int)) = true := by
        have := HD.out
        rw [beq_iff_eq]
        omega
      go_wp2
      go_ret
      exact ⟨rfl, H4.out⟩
end Go.Proofs.Yteeiiaahhoeohaa
