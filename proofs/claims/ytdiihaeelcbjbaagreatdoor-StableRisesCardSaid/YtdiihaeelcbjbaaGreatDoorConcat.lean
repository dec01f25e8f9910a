/- The library's Grow of nothing, Concat of some slices of bytes. -/
import Derived.Test.YtdiihaeelcbjbaaGreatDoorMBase
import Derived.Lib.AppendZerosOnto
namespace Go.Proofs.YtdiihaeelcbjbaaGreatDoor
open Go.RowKit

set_option maxRecDepth 100000 in
set_option maxHeartbeats 1000000 in
theorem Grow_nilB (n : Nat) (h1 : 1 ≤ n) (h2 : n ≤ 20000000) (w : World) :
    Calls Tryz.prog 131 #[.slice none 0 0, .int .i64 (n : Int)] w fun e w' => ∃ g c, e = .returned (.slice (some ⟨g, 0, none⟩) 0 c) ∧ w'.ownsRow w.heap.size 5 1 (.slice (some ⟨g, 0, none⟩) 0 c) 0 (([] : List UInt8).map enc) ∧ Below w.heap.size w w' := by
  obtain ⟨i0, hi, hz0, hz1, hz2⟩ := info_parts info5
  have hold : (Builtin.firstCells i0.size 0 (.slice none 0 0)).run Tryz.prog w.drew = .ok ([] : List Value).toArray w.drew := by
    rw [hz1]; simp [Builtin.firstCells]
  have hrz := fun ty => Lib.run_append_grow_zeros (P := Tryz.prog) w 39 3 ty 5 i0 (.int .u8 0) .i64 .i64 Tryz.underlying39 Tryz.underlying3 hi hz0 none 0 0 [] hold n (by omega) (by omega) (by omega) (by omega) (by rw [hz2]; omega) (by rw [hz2, Builtin.nextslicecap, if_pos (by omega)]; omega)
  rw [Nat.zero_add] at hrz
  have hGn : n ≤ grownCap w n 0 5 := grownCap_ge w _ _ _
  have hGm : grownCap w n 0 5 ≤ maxLen := grownCap_le_maxLen w n 0 5 (by unfold maxLen; omega)
  obtain ⟨G, hG⟩ : ∃ G, G = grownCap w n 0 5 := ⟨_, rfl⟩
  rw [← hG] at hrz hGn hGm
  have hm : maxLen = 9223372036854775807 := rfl
  rw [hm] at hGm
  have hGi : (G : Int) ≤ 9223372036854775807 := by omega
  have hGn' : (n : Int) ≤ G := by omega
  have hn1 : (1 : Int) ≤ n := by omega
  have hn2 : (n : Int) ≤ 20000000 := by omega
  clear hG hold
  go_enter Tryz.func131, Tryz.ntmps131
  go_wp2_with (at_builtin; refine Lib.wpList_append_run _ rfl _ _ _ _ rfl _ _ rfl rfl _ _ (hrz _) ?_)
  go_ret
  refine ⟨w.heap.size, G, rfl, ⟨rfl, .inr ⟨w.heap.size, G, _, rfl, Nat.le_refl _, World.alloc_heap_new w _, Nat.zero_le _, by rw [hm]; omega, ?_, by simp⟩⟩, ((Below.refl _ _).alloc (Nat.le_refl _) _).drew⟩
  simp [Builtin.zeroCells]
  omega

theorem flat_take_succ (Xs : List (List UInt8)) (k : Nat) (h : k < Xs.length) : (Xs.take (k + 1)).flatten = (Xs.take k).flatten ++ Xs[k] := by
  rw [List.take_succ_eq_append_getElem h, List.flatten_append, List.flatten_cons, List.flatten_nil, List.append_nil]
theorem flat_take_le (Xs : List (List UInt8)) (k : Nat) : (Xs.take k).flatten.length ≤ Xs.flatten.length := by
  have h := congrArg (fun l => (List.flatten l).length) (List.take_append_drop k Xs)
  simp only [List.flatten_append, List.length_append] at h
  omega

/-- What the second loop keeps. -/
def CK (w : World) (Xs : List (List UInt8)) (k : Nat) (v : Value) (W : World) : Prop :=
  W.ownsRow w.heap.size 5 1 v (Xs.take k).flatten.length ((Xs.take k).flatten.map enc) ∧ Below w.heap.size w W

set_option maxRecDepth 100000 in
set_option maxHeartbeats 2000000 in
theorem Concat_anyB (p N c : Nat) (Xs : List (List UInt8)) (hN : N = Xs.length) (hN2 : N ≤ 100) (hc : N ≤ c) (h1 : 1 ≤ Xs.flatten.length) (h2 : Xs.flatten.length ≤ 20000000) (w : World) (hp : p < w.heap.size)
    (hcell : ∀ i (h : i < Xs.length), ∃ A L c, w.cell? ⟨p, i, none⟩ = some (.slice A L c) ∧ L = Xs[i].length ∧ HasA w w.heap.size A Xs[i]) :
    Calls Tryz.prog 121 #[.slice (some ⟨p, 0, none⟩) N c] w fun e w' => ∃ g L c, e = .returned (.slice (some ⟨g, 0, none⟩) L c) ∧ w'.ownsRow w.heap.size 5 1 (.slice (some ⟨g, 0, none⟩) L c) L (Xs.flatten.map enc) ∧ Below w.heap.size w w' := by
  obtain ⟨i0, hi, hz0, hz1, hz2⟩ := info_parts info5
  have HN := Lib.hid hN
  have HC := Lib.hid hcell
  have H1 := Lib.hid h1
  have H2 := Lib.hid h2
  have hNi : (N : Int) ≤ 100 := by omega
  have hci : (N : Int) ≤ c := by omega
  clear hN hcell h1 h2
  go_enter Tryz.func121, Tryz.ntmps121
  go_wp2
  go_loopw [3, 11] (fun s i wr => ∃ k m : Nat, k ≤ N ∧ i = .int .i64 k ∧ s = .int .i64 m ∧ Hid (m = (Xs.take k).flatten.length) ∧ Hid (w = wr)) (fun _ i _ => N - (intOf i).toNat)
  case atStart =>
    exact ⟨0, 0, Nat.zero_le _, rfl, rfl, by simp [Hid], rfl⟩
  case round =>
    obtain ⟨k, m, hk, rfl, rfl, hm, hw⟩ := hrel
    obtain rfl := hw.out
    by_cases hlt : k < N
    · have hki : (k : Int) < N := by omega
      have hkx : k < Xs.length := by rw [← HN.out]; exact hlt
      obtain ⟨A, L, cc, hx, hL, -⟩ := HC.out k hkx
      have hs := flat_take_succ Xs k hkx
      have hs' : m + L = (Xs.take (k + 1)).flatten.length := by rw [hs, List.length_append, ← hL, hm.out]
      have hle : m + L ≤ 20000000 := by have := flat_take_le Xs (k + 1); have := H2.out; omega
      have HS := Lib.hid hs'
      clear hs hs' hL
      have hlei : (m : Int) + L ≤ 20000000 := by omega
      go_wp2
      refine ⟨⟨k + 1, m + L, by omega, by congr 1, by congr 1, HS.out, trivial⟩, by simp only [intOf]; omega⟩
    · obtain rfl : k = N := by omega
      have hT : m = Xs.flatten.length := by rw [hm.out, List.take_of_length_le (by rw [HN.out]; exact Nat.le_refl _)]
      have HT := Lib.hid hT
      have hm1 : 1 ≤ m := by rw [hT]; exact H1.out
      have hm2 : m ≤ 20000000 := by rw [hT]; exact H2.out
      clear hT
      go_wp2_with fail
      refine (Grow_nilB m hm1 hm2 w).mono ?_
      rintro e W1 ⟨g, cg, rfl, hown, hB⟩
      have HO := Lib.hid hown
      have B0 := Lib.hid hB
      clear hown hB
      go_wp2
      go_loopw [6, 27] (fun v i wr => ∃ j : Nat, j ≤ k ∧ i = .int .i64 j ∧ Hid (CK w Xs j v wr)) (fun _ i _ => k - (intOf i).toNat)
      case atStart =>
        exact ⟨0, Nat.zero_le _, rfl, HO.out, B0.out⟩
      case round =>
        obtain ⟨j, hj, rfl, hck⟩ := hrel
        by_cases hlt2 : j < k
        · have hji : (j : Int) < k := by omega
          have hjx : j < Xs.length := by rw [← HN.out]; exact hlt2
          obtain ⟨A, L, cc, hx, hL, hA⟩ := HC.out j hjx
          have hx' : wr.cell? ⟨p, j, none⟩ = some (.slice A L cc) := (hck.out.2.cell (p := ⟨p, j, none⟩) hp).trans hx
          have HA := Lib.hid (hA.below hck.out.2)
          have HL := Lib.hid hL
          have hle : (Xs.take j).flatten.length + L ≤ 20000000 := by
            have h := flat_take_le Xs (j + 1)
            rw [flat_take_succ Xs j hjx, List.length_append, ← hL] at h
            have := H2.out; omega
          have HLE := Lib.hid hle
          clear hx hL hA hle
          go_wp2_with (at_builtin; refine wpList_append_has rfl (.tmp 31) (.tmp 32) 39 rfl w.heap.size 5 i0 Tryz.underlying39 hi hz0 hz1 hz2 _ (Xs.take j).flatten.length (Xs.take j).flatten rfl hck.out.1 _ _ L cc Xs[j] rfl HL.out HA.out (by have := HLE.out; omega) hck.out.2.size ?_; intro v' W2 hown2 hg2)
          refine ⟨⟨j + 1, by omega, by congr 1, ?_, hck.out.2.grown hg2 hck.out.2.size (fun q e => (hck.out.1.lt q e).1)⟩, by simp only [intOf]; omega⟩
          rw [flat_take_succ Xs j hjx, List.length_append, ← HL.out]
          exact hown2
        · obtain rfl : j = k := by omega
          have hall : Xs.take j = Xs := List.take_of_length_le (by rw [HN.out]; exact Nat.le_refl _)
          have hck' := hck.out
          rw [CK, hall] at hck'
          obtain ⟨g, cap, rfl, -⟩ := hck'.1.form H1.out
          have HCK := Lib.hid hck'
          clear hck'
          go_wp2
          go_ret
          exact ⟨g, _, cap, rfl, HCK.out.1, HCK.out.2⟩
theorem Grow_nil (n : Nat) (h1 : 1 ≤ n) (h2 : n ≤ 1000000) (w : World) :
    Calls Tryz.prog 131 #[.slice none 0 0, .int .i64 (n : Int)] w fun e w' => ∃ g c, e = .returned (.slice (some ⟨g, 0, none⟩) 0 c) ∧ w'.ownsRow w.heap.size 5 1 (.slice (some ⟨g, 0, none⟩) 0 c) 0 (([] : List UInt8).map enc) ∧ Below w.heap.size w w' := Grow_nilB n h1 (by omega) w
theorem Concat_any (p N c : Nat) (Xs : List (List UInt8)) (hN : N = Xs.length) (hN2 : N ≤ 100) (hc : N ≤ c) (h1 : 1 ≤ Xs.flatten.length) (h2 : Xs.flatten.length ≤ 1000000) (w : World) (hp : p < w.heap.size)
    (hcell : ∀ i (h : i < Xs.length), ∃ A L c, w.cell? ⟨p, i, none⟩ = some (.slice A L c) ∧ L = Xs[i].length ∧ HasA w w.heap.size A Xs[i]) :
    Calls Tryz.prog 121 #[.slice (some ⟨p, 0, none⟩) N c] w fun e w' => ∃ g L c, e = .returned (.slice (some ⟨g, 0, none⟩) L c) ∧ w'.ownsRow w.heap.size 5 1 (.slice (some ⟨g, 0, none⟩) L c) L (Xs.flatten.map enc) ∧ Below w.heap.size w w' := Concat_anyB p N c Xs hN hN2 hc h1 (by omega) w hp hcell
end Go.Proofs.YtdiihaeelcbjbaaGreatDoor
