/- The contract of wakes: it answers true, and nothing that lay has turned. -/
import Derived.Test.YtmphgahkeoaplaaW6
namespace Go.Proofs.Ytmphgahkeoaplaa
open Go.RowKit

theorem below_grown {B : Nat} {w W W' : World} {R : Nat} (h : Below B w W) (hB : B ≤ W.heap.size) (hR : B ≤ R) (hg : W.grownBy W' (some R)) : Below B w W' := h.grown hg hB (fun k e => by cases e; exact hR)

theorem hasA_new (w : World) (bs : List UInt8) : HasA (w.alloc (.cells (bs.map enc).toArray 5)) (w.alloc (.cells (bs.map enc).toArray 5)).heap.size (some ⟨w.heap.size, 0, none⟩) bs := fun _ =>
  ⟨w.heap.size, 0, rfl, by simp, fun i hi => by rw [blk_cell (World.alloc_heap_new w _)]; simp [hi]⟩

/-- A slice given back reads as the string of its bytes. -/
theorem conv_own {w : World} {base g L c : Nat} {xs : List UInt8} (h : w.ownsRow base 5 1 (.slice (some ⟨g, 0, none⟩) L c) L (xs.map enc)) :
    (convert 22 9 (.slice (some ⟨g, 0, none⟩) L c)).run Try.prog w = .ok (.string (str xs)) w :=
  run_conv (HasA.of_own h) c Try.underlying22 Try.underlying5 Try.underlying9 (own_len h)

theorem str_toList (xs : List UInt8) : (str xs).toList = xs := by rw [ByteArray.toList_eq]; simp [str]
theorem str_beq (xs : List UInt8) : ((str xs).toList == xs) = true := by rw [str_toList]; simp

theorem rd_a : rdU [128, 0] = .form [] := by decide
theorem rd_b : rdU [5, 97] = .ok 5 [97] := by decide
theorem vb300 : vb 300 = [172, 2] := by rw [vb_ge (by omega), vb_lt (by omega)]; rfl
theorem vb1 : vb 1 = [1] := by rw [vb_lt (by omega)]; rfl
theorem vb2 : vb 2 = [2] := by rw [vb_lt (by omega)]; rfl

set_option maxHeartbeats 1000000 in
theorem wakes_any (w : World) : Calls Try.prog 6 #[] w fun e W' => e = .returned (.bool true) ∧ Below w.heap.size w W' := by
  go_enter Try.func6, Try.ntmps6
  go_wp2_with fail
  refine (New_any _ _ _ _ [128, 0] rfl (by simp) _ (hasA_new w [128, 0])).mono ?_
  rintro e W1 ⟨R, rfl, hr1, hR1, hb1⟩
  have B1 := Lib.hid ((((Below.refl w.heap.size w).alloc (Nat.le_refl _) _)).trans (hb1.mono (by simp)))
  have HR1 := Lib.hid hr1
  have hRR : w.heap.size ≤ R := by simp at hR1; omega
  clear hb1 hr1 hR1
  go_wp2_with fail
  refine (UintR_form W1 R 9 [128, 0] [] HR1.out rd_a).mono ?_
  rintro e W2 ⟨rfl, hr2, hg2⟩
  have B2 := Lib.hid (below_grown B1.out B1.out.size hRR hg2)
  have HR2 := Lib.hid hr2
  clear hr2 hg2
  go_wp2_with fail
  refine (New_any _ _ _ _ [5, 97] rfl (by simp) _ (hasA_new W2 [5, 97])).mono ?_
  rintro e W3 ⟨S, rfl, hr3, hS3, hb3⟩
  have B23 := Lib.hid ((((Below.refl W2.heap.size W2).alloc (Nat.le_refl _) _)).trans (hb3.mono (by simp)))
  have B3 := Lib.hid (B2.out.trans (B23.out.mono B2.out.size))
  have HS3 := Lib.hid hr3
  have HR3 := Lib.hid (HR2.out.below B23.out)
  have hSS : W2.heap.size ≤ S := by simp at hS3; omega
  have HSW : Hid (w.heap.size ≤ S) := Nat.le_trans B2.out.size hSS
  have HRS : Hid (R ≠ S) := by have := HR2.out.lt; show _ ≠ _; omega
  clear hb3 hr3 hS3
  go_wp2_with fail
  refine (TextR_cut W3 S 9 [5, 97] 5 [97] HS3.out rd_b (by omega) (by omega) (by simp)).mono ?_
  rintro e W4 ⟨rfl, hr4, hg4⟩
  have B4 := Lib.hid (below_grown B3.out B3.out.size HSW.out hg4)
  have HS4 := Lib.hid hr4
  have HR4 := Lib.hid (HR3.out.other HS3.out HRS.out hg4)
  clear hr4 hg4
  go_wp2_with fail
  refine (Uint_any none [] 0 0 300 rfl (by omega) (by simp) W4 (HasA.nil _ _ _)).mono ?_
  rintro e W5 ⟨g5, L5, c5, rfl, hown5, hb5⟩
  have hcv5 := conv_own hown5
  rw [List.nil_append, vb300] at hcv5
  have B5 := Lib.hid (B4.out.trans (hb5.mono B4.out.size))
  have HS5 := Lib.hid (HS4.out.below hb5)
  have HR5 := Lib.hid (HR4.out.below hb5)
  clear hown5 hb5
  have q5 := str_beq [172, 2]
  go_wp2_with fail
  refine (Int_any none [] 0 0 rfl (-1) (by omega) (by omega) (by simp) W5 (HasA.nil _ _ _)).mono ?_
  rintro e W6 ⟨g6, L6, c6, rfl, hown6, hb6⟩
  have hcv6 := conv_own hown6
  rw [List.nil_append, show foldN (-1) = 1 from rfl, vb1] at hcv6
  have B6 := Lib.hid (B5.out.trans (hb6.mono B5.out.size))
  have HS6 := Lib.hid (HS5.out.below hb6)
  have HR6 := Lib.hid (HR5.out.below hb6)
  clear hown6 hb6 hcv5 q5
  have q6 := str_beq [1]
  go_wp2_with fail
  refine (Text_any none [] 0 0 rfl ⟨#[97, 98]⟩ (by decide) (by simp) W6 (HasA.nil _ _ _)).mono ?_
  rintro e W7 ⟨g7, L7, c7, rfl, hown7, hb7⟩
  have hcv7 := conv_own hown7
  rw [List.nil_append, show (⟨#[97, 98]⟩ : ByteArray).size = 2 from rfl, vb2, show ([2] ++ (⟨#[97, 98]⟩ : ByteArray).data.toList : List UInt8) = [2, 97, 98] from rfl] at hcv7
  have B7 := Lib.hid (B6.out.trans (hb7.mono B6.out.size))
  have HS7 := Lib.hid (HS6.out.below hb7)
  have HR7 := Lib.hid (HR6.out.below hb7)
  clear hown7 hb7 hcv6 q6
  have q7 := str_beq [2, 97, 98]
  go_wp2_with fail
  refine (Err_any R 11 9 [] W7 HR7.out).mono ?_
  rintro e w' ⟨rfl, rfl⟩
  clear q7 hcv7
  go_wp2_with fail
  refine (Err_any S 10 9 [97] W7 HS7.out).mono ?_
  rintro e w' ⟨rfl, rfl⟩
  go_wp2
  go_ret
  exact ⟨rfl, B7.out⟩
end Go.Proofs.Ytmphgahkeoaplaa
