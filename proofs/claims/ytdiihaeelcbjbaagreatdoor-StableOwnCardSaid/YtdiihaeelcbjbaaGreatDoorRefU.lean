/- The contract of the document's own Uint. -/
import Derived.Test.YtdiihaeelcbjbaaGreatDoorMBase
import Derived.Test.YtdiihaeelcbjbaaGreatDoorFoldMath
import Derived.Deep.DeepFit
namespace Go.Proofs.YtdiihaeelcbjbaaGreatDoor
open Go.RowKit

theorem ref_Uint : ∀ (m : Nat), m < 18446744073709551616 → ∀ (w : World),
    Calls Tryz.prog 59 #[.int .u64 (m : Int)] w (Gives w (vb m)) := by
  obtain ⟨i0, hi, hz0, hz1, hz2⟩ := info_parts info5
  intro m
  induction m using Nat.strongRecOn with
  | ind m ih =>
    intro hm w
    by_cases h : m < 128
    · have h' : (m : Int) < 128 := by omega
      go_enter Tryz.func59, Tryz.ntmps59
      go_wp2
      go_ret
      have e : enc (UInt8.ofNat m) = .int .u8 (m : Int) := enc_ofNat (by omega)
      have ho := ownsRow_new w w.heap.size 1 [UInt8.ofNat m] (Nat.le_refl _) rfl (by omega)
      rw [List.map_cons, List.map_nil, e] at ho
      rw [vb_lt h]
      refine ⟨w.heap.size, 1, 1, rfl, ?_, (Below.refl _ _).alloc (Nat.le_refl _) _⟩
      rw [List.map_cons, List.map_nil, e]
      exact ho
    · have h' : ¬ (m : Int) < 128 := by omega
      have hr : m / 128 < 18446744073709551616 := by omega
      have IH := Lib.hid (ih (m / 128) (by omega) hr)
      have ho := ownsRow_new w w.heap.size 1 [UInt8.ofNat (m % 128 + 128)] (Nat.le_refl _) rfl (by omega)
      rw [List.map_cons, List.map_nil, enc_ofNat (by omega), show (((m % 128 + 128 : Nat) : Int)) = 128 + (m : Int) % 128 by omega] at ho
      have HO := Lib.hid ho
      have hv := vb_len10 hr
      have hz : (vb (m / 128)).length ≤ 10 := hv
      clear ih ho
      go_enter Tryz.func59, Tryz.ntmps59
      go_wp2_with fail
      rw [show ((m : Int) / 128) = ((m / 128 : Nat) : Int) by omega]
      refine (IH.out _).mono ?_
      rintro e W1 ⟨g, L1, c1, rfl, hown1, hb1⟩
      have ho1 : W1.ownsRow w.heap.size 5 1 (.slice (some ⟨w.heap.size, 0, none⟩) 1 1) 1 ([UInt8.ofNat (m % 128 + 128)].map enc) := by
        rw [List.map_cons, List.map_nil, enc_ofNat (by omega), show (((m % 128 + 128 : Nat) : Int)) = 128 + (m : Int) % 128 by omega]
        rcases HO.out.2 with ⟨h, _⟩ | ⟨g', cap, cur, hv, hbg, hgg, r⟩
        · cases h
        · cases hv
          exact ⟨HO.out.1, .inr ⟨_, _, cur, rfl, hbg, (hb1.block _ (by simp)).trans hgg, r⟩⟩
      have H1 := Lib.hid ho1
      have HL := Lib.hid (own_len hown1)
      have hL1 : L1 ≤ 10 := by have := own_len hown1; omega
      have H2 := Lib.hid (HasA.of_own hown1)
      have hbb : Below w.heap.size w W1 := ((Below.refl _ _).alloc (Nat.le_refl _) _).trans (hb1.mono (by simp))
      have H3 := Lib.hid hbb
      clear ho1 hown1 hb1 hbb
      go_wp2_with (at_builtin; refine wpList_append_has rfl (.tmp 12) (.tmp 15) 39 rfl w.heap.size 5 i0 Tryz.underlying39 hi hz0 hz1 hz2 _ 1 _ rfl H1.out W1.heap.size _ _ _ (vb (m / 128)) rfl HL.out H2.out (by omega) H3.out.size ?_; intro v' W2 hown2 hg2)
      go_ret
      have e2 : [UInt8.ofNat (m % 128 + 128)] ++ vb (m / 128) = vb m := by rw [vb_ge (n := m) (by omega)]; rfl
      rw [e2] at hown2
      obtain ⟨g2, c2, rfl, _⟩ := hown2.form (by omega)
      exact ⟨g2, _, c2, rfl, hown2, H3.out.grown hg2 H3.out.size (fun k e => by cases e; exact Nat.le_refl _)⟩
end Go.Proofs.YtdiihaeelcbjbaaGreatDoor
