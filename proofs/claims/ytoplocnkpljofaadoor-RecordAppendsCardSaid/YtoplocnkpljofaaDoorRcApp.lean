/- The walk of the law that a record stands behind, or why not. -/
import Derived.Test.YtoplocnkpljofaaDoorMRc
namespace Go.Proofs.YtoplocnkpljofaaDoor
open Go.RowKit

section
variable {P : DiskK} {K : RecK P} {w W : World} {R B : Nat} {s : DS}
theorem LiveL.fuse (h : LiveL K w R B s W) (n : Int) (hn : InI5 n) : Calls Tryd.prog 16 #[.pointer (some ⟨R, 0, none⟩), .int .i64 n] W fun e W' => e = .returned (.int .i64 ((s.fuse n).2 : Int)) ∧ LiveL K w R B (s.fuse n).1 W' := by
  obtain ⟨F, G, h1, h2, h3, h4⟩ := h.ex
  exact (P.fuse n h1 hn).mono fun _ _ ht => h.turns h2 h3 h4 ht
end
theorem frm_long (x : List UInt8) : x.length + 4 < (frm x).length := by
  have h := frm_length x
  have : 0 < (vb x.length).length := List.length_pos_iff.2 (vb_ne _)
  omega
theorem frm_most (x : List UInt8) (h : x.length ≤ 1000) : (frm x).length ≤ 2000 := by
  have h1 := frm_length x
  have h2 := vb_len10 (n := x.length) (by omega)
  omega

set_option maxRecDepth 100000 in
set_option maxHeartbeats 4000000 in
theorem Appends_any (P : DiskK) (T : TurnK P) (K : RecK P) (A : Option Addr) (L c : Nat) (x : List UInt8) (hL : L = x.length) (hLm : L ≤ maxLen) (hLc : L ≤ c) (n : Int) (hn : InI5 n) (w : World) (hT : Tab w) (hA : HasA w w.heap.size A x) :
    Calls Tryd.prog 4 #[.slice A L c, .int .i64 n] w fun e W' => e = .returned (.bool true) ∧ Below w.heap.size w W' := by
  have HT := Lib.hid hT
  have HA := Lib.hid hA
  have HL := Lib.hid hL
  have HN := Lib.hid hn
  have KT := Lib.hid T
  have hLm' : L ≤ 9223372036854775807 := hLm
  obtain ⟨hn1, hn2⟩ := hn
  clear hT hA hL T hLm
  by_cases hbig : 1000 < L
  · have hbi : (1000 : Int) < L := by omega
    clear hbig
    go_enter Tryd.func4, Tryd.ntmps4
    go_wp2_with fail
    refine (wakes6 P KT.out K w HT.out).mono ?_
    rintro e W1 ⟨rfl, hb⟩
    have HB := Lib.hid hb
    clear hb
    go_wp2
    go_ret
    exact ⟨rfl, HB.out⟩
  have hbi : ¬ (1000 : Int) < L := by omega
  have HF := Lib.hid (frm_long x)
  have HFM := Lib.hid (frm_most x (by rw [← HL.out]; omega))
  obtain ⟨f0, hf0⟩ : ∃ f0 : Option Nat, f0 = if n < 0 then none else some n.toNat := ⟨_, rfl⟩
  have HF0 := Lib.hid hf0
  have HS := Lib.hid (show DS.new.fuse n = (⟨[], 0, false, f0⟩, 0) by rw [HF0.out]; rfl)
  clear hf0
  by_cases h0 : L = 0
  · subst h0
    have HR := Lib.hid (show (⟨[], 0, false, f0⟩ : DS).recd x = (⟨[], 0, false, f0⟩, 3) by
      have : ¬ (1 ≤ x.length ∧ x.length ≤ 65536) := by rw [← HL.out]; omega
      simp [DS.recd, this])
    go_enter Tryd.func4, Tryd.ntmps4
    go_wp2_with fail
    refine (LiveD.new P w).mono ?_
    rintro e W1 ⟨R, rfl, hl1⟩
    have L1 := Lib.hid hl1
    clear hl1
    go_wp2_with fail
    refine (L1.out.opens K HT.out rfl (by show (opn [] 0).2.2 = 0; rw [opn_nil]) (by decide)).mono ?_
    rintro e W2 ⟨B, v, F', G, rfl, -, -, -, -, hv, hl2⟩
    rw [new_opened] at hl2
    obtain ⟨A2, L2', c2, rfl, -, -, -⟩ := hv
    have L2 := Lib.hid hl2
    clear hl2 L1
    go_wp2_with fail
    refine (L2.out.fuse _ HN.out).mono ?_
    rintro e W3 ⟨he, hl3⟩
    rw [HS.out] at he hl3
    obtain rfl : e = .returned (.int .i64 0) := he
    have L3 := Lib.hid hl3
    clear hl3 L2
    go_wp2_with fail
    refine (L3.out.app A 0 c x HT.out HL.out hLc (by omega) (by simp; have := HL.out; omega) (HA.out.below' L3.out.below)).mono ?_
    rintro e W4 ⟨he, hl4⟩
    rw [HR.out] at he hl4
    obtain rfl : e = .returned (.int .i64 3) := he
    have L4 := Lib.hid hl4
    clear hl4 L3
    go_wp2_with fail
    refine L4.out.disk.bytes.mono ?_
    rintro e W5 ⟨v5, M, rfl, ho5, -, hb5⟩
    have hM := own_len ho5
    obtain ⟨A5, c5, rfl⟩ := own_form ho5
    have L5 := Lib.hid (L4.out.grew hb5)
    obtain rfl : M = 0 := hM
    clear ho5 hb5 L4
    go_wp2_with fail
    refine (K.openNil W5).mono ?_
    rintro e W6 ⟨v6, rfl, -, hb6⟩
    have L6 := Lib.hid (L5.out.grew hb6)
    clear hb6 L5
    go_wp2_with fail
    refine (K.appNil W6 _).mono ?_
    rintro e W7 ⟨rfl, hb7⟩
    have L7 := Lib.hid (L6.out.grew hb7)
    clear hb7 L6
    go_wp2_with fail
    refine (K.syncNil W7).mono ?_
    rintro e W8 ⟨rfl, hb8⟩
    have L8 := Lib.hid (L7.out.grew hb8)
    clear hb8 L7
    go_wp2_with fail
    refine (wakes6 P KT.out K W8 (HT.out.grew L8.out.below)).mono ?_
    rintro e W20 ⟨rfl, hb20⟩
    have HB := Lib.hid (L8.out.below.trans (Below.mono hb20 L8.out.below.size))
    clear hb20
    go_wp2
    go_ret
    exact ⟨rfl, HB.out⟩
  have hl0 : ¬ (L : Int) = 0 := by omega
  have hfit : 1 ≤ x.length ∧ x.length ≤ 65536 := by rw [← HL.out]; omega
  have HFIT := Lib.hid hfit
  have HR0 := Lib.hid (show (⟨[], 0, false, f0⟩ : DS).recd x = (⟨[], 0, false, f0⟩ : DS).app (frm x) by simp [DS.recd, hfit])
  clear hfit
  by_cases htorn : 0 ≤ n ∧ n < (frm x).length
  · obtain ⟨k, rfl⟩ := Int.eq_ofNat_of_zero_le htorn.1
    have hk : k < (frm x).length := by omega
    have HR := Lib.hid (show (⟨[], 0, false, f0⟩ : DS).recd x = (⟨(frm x).take k, 0, true, none⟩, 21) by
      have e0 : f0 = some k := by rw [HF0.out, if_neg (by omega)]; rfl
      rw [HR0.out, e0]
      simp [DS.app, hk])
    have HK := Lib.hid (show ((frm x).take k).length = k by rw [List.length_take]; omega)
    clear htorn hk
    go_enter Tryd.func4, Tryd.ntmps4
    go_wp2_with fail
    refine (LiveD.new P w).mono ?_
    rintro e W1 ⟨R, rfl, hl1⟩
    have L1 := Lib.hid hl1
    clear hl1
    go_wp2_with fail
    refine (L1.out.opens K HT.out rfl (by show (opn [] 0).2.2 = 0; rw [opn_nil]) (by decide)).mono ?_
    rintro e W2 ⟨B, v, F', G, rfl, -, -, -, -, hv, hl2⟩
    rw [new_opened] at hl2
    obtain ⟨A2, L2', c2, rfl, -, -, -⟩ := hv
    have L2 := Lib.hid hl2
    clear hl2 L1
    go_wp2_with fail
    refine (L2.out.fuse _ HN.out).mono ?_
    rintro e W3 ⟨he, hl3⟩
    rw [HS.out] at he hl3
    obtain rfl : e = .returned (.int .i64 0) := he
    have L3 := Lib.hid hl3
    clear hl3 L2
    go_wp2_with fail
    refine (L3.out.app A L c x HT.out HL.out hLc (by omega) (by simp; have := HL.out; omega) (HA.out.below' L3.out.below)).mono ?_
    rintro e W4 ⟨he, hl4⟩
    rw [HR.out] at he hl4
    obtain rfl : e = .returned (.int .i64 21) := he
    have L4 := Lib.hid hl4
    clear hl4 L3
    go_wp2_with fail
    refine L4.out.disk.bytes.mono ?_
    rintro e W5 ⟨v5, M, rfl, ho5, -, hb5⟩
    have hM := own_len ho5
    obtain ⟨A5, c5, rfl⟩ := own_form ho5
    have L5 := Lib.hid (L4.out.grew hb5)
    obtain rfl : M = k := hM.trans HK.out
    clear hM ho5 hb5 L4
    go_wp2_with fail
    refine (K.openNil W5).mono ?_
    rintro e W6 ⟨v6, rfl, -, hb6⟩
    have L6 := Lib.hid (L5.out.grew hb6)
    clear hb6 L5
    go_wp2_with fail
    refine (K.appNil W6 _).mono ?_
    rintro e W7 ⟨rfl, hb7⟩
    have L7 := Lib.hid (L6.out.grew hb7)
    clear hb7 L6
    go_wp2_with fail
    refine (K.syncNil W7).mono ?_
    rintro e W8 ⟨rfl, hb8⟩
    have L8 := Lib.hid (L7.out.grew hb8)
    clear hb8 L7
    go_wp2_with fail
    refine L8.out.disk.isdead.mono ?_
    rintro e W9 ⟨rfl, -, hb9⟩
    have L9 := Lib.hid (L8.out.grew hb9)
    clear hb9 L8
    go_wp2_with fail
    refine (L9.out.app A L c x HT.out HL.out hLc (by omega) (by show ((frm x).take M).length + _ ≤ _; have := HL.out; have := HK.out; have := HFM.out; rw [List.length_take]; omega) (HA.out.below' L9.out.below)).mono ?_
    rintro e W10 ⟨he, hl10⟩
    obtain rfl : e = .returned (.int .i64 20) := he
    have hl10' : LiveL K w R B ⟨(frm x).take M, 0, true, none⟩ W10 := hl10
    have L10 := Lib.hid hl10'
    clear hl10 hl10' L9
    go_wp2_with fail
    refine L10.out.sync.mono ?_
    rintro e W11 ⟨he, hl11⟩
    obtain rfl : e = .returned (.int .i64 20) := he
    have L11 := Lib.hid hl11
    clear hl11 L10
    go_wp2_with fail
    refine (wakes6 P KT.out K W11 (HT.out.grew L11.out.below)).mono ?_
    rintro e W20 ⟨rfl, hb20⟩
    have HB := Lib.hid (L11.out.below.trans (Below.mono hb20 L11.out.below.size))
    clear hb20
    go_wp2
    go_ret
    exact ⟨rfl, HB.out⟩
  · obtain ⟨f1, hR⟩ : ∃ f1, (⟨[], 0, false, f0⟩ : DS).recd x = (⟨frm x, 0, false, f1⟩, 0) := by
      rw [HR0.out]
      by_cases hneg : n < 0
      · have e0 : f0 = none := by rw [HF0.out, if_pos hneg]
        exact ⟨none, by rw [e0]; simp [DS.app]⟩
      · have e0 : f0 = some n.toNat := by rw [HF0.out, if_neg hneg]
        have : ¬ n.toNat < (frm x).length := by omega
        exact ⟨some (n.toNat - (frm x).length), by rw [e0]; simp [DS.app, this]⟩
    have HR := Lib.hid hR
    clear hR htorn
    go_enter Tryd.func4, Tryd.ntmps4
    go_wp2_with fail
    refine (LiveD.new P w).mono ?_
    rintro e W1 ⟨R, rfl, hl1⟩
    have L1 := Lib.hid hl1
    clear hl1
    go_wp2_with fail
    refine (L1.out.opens K HT.out rfl (by show (opn [] 0).2.2 = 0; rw [opn_nil]) (by decide)).mono ?_
    rintro e W2 ⟨B, v, F', G, rfl, -, -, -, -, hv, hl2⟩
    rw [new_opened] at hl2
    obtain ⟨A2, L2', c2, rfl, -, -, -⟩ := hv
    have L2 := Lib.hid hl2
    clear hl2 L1
    go_wp2_with fail
    refine (L2.out.fuse _ HN.out).mono ?_
    rintro e W3 ⟨he, hl3⟩
    rw [HS.out] at he hl3
    obtain rfl : e = .returned (.int .i64 0) := he
    have L3 := Lib.hid hl3
    clear hl3 L2
    go_wp2_with fail
    refine (L3.out.app A L c x HT.out HL.out hLc (by omega) (by simp; have := HL.out; omega) (HA.out.below' L3.out.below)).mono ?_
    rintro e W4 ⟨he, hl4⟩
    rw [HR.out] at he hl4
    obtain rfl : e = .returned (.int .i64 0) := he
    have L4 := Lib.hid hl4
    clear hl4 L3
    go_wp2_with fail
    refine L4.out.disk.bytes.mono ?_
    rintro e W5 ⟨v5, M, rfl, ho5, -, hb5⟩
    have hM := own_len ho5
    obtain ⟨A5, c5, rfl⟩ := own_form ho5
    have L5 := Lib.hid (L4.out.grew hb5)
    have hML : (L : Int) + 4 < M := by have h1 := hM; have h2 := HF.out; have h3 := HL.out; simp only at h1; omega
    have hMm : (M : Int) ≤ 100000 := by have h1 := hM; have h2 := HFM.out; simp only at h1; omega
    have HM := Lib.hid hM
    clear hM ho5 hb5 L4
    go_wp2_with fail
    refine (K.openNil W5).mono ?_
    rintro e W6 ⟨v6, rfl, -, hb6⟩
    have L6 := Lib.hid (L5.out.grew hb6)
    clear hb6 L5
    go_wp2_with fail
    refine (K.appNil W6 _).mono ?_
    rintro e W7 ⟨rfl, hb7⟩
    have L7 := Lib.hid (L6.out.grew hb7)
    clear hb7 L6
    go_wp2_with fail
    refine (K.syncNil W7).mono ?_
    rintro e W8 ⟨rfl, hb8⟩
    have L8 := Lib.hid (L7.out.grew hb8)
    clear hb8 L7
    go_wp2_with fail
    refine L8.out.disk.isdead.mono ?_
    rintro e W9 ⟨rfl, -, hb9⟩
    have L9 := Lib.hid (L8.out.grew hb9)
    clear hb9 L8
    go_wp2_with fail
    refine L9.out.sync.mono ?_
    rintro e W10 ⟨he, hl10⟩
    obtain rfl : e = .returned (.int .i64 0) := he
    have hl10' : LiveL K w R B ⟨frm x, (frm x).length, false, f1⟩ W10 := hl10
    have L10 := Lib.hid hl10'
    clear hl10 hl10' L9
    go_wp2_with fail
    refine L10.out.disk.synced.mono ?_
    rintro e W11 ⟨he, -, hb11⟩
    obtain rfl : e = .returned (.int .i64 (M : Int)) := he.trans (by rw [HM.out])
    have L11 := Lib.hid (L10.out.grew hb11)
    clear hb11 L10
    go_wp2_with fail
    refine (wakes6 P KT.out K W11 (HT.out.grew L11.out.below)).mono ?_
    rintro e W20 ⟨rfl, hb20⟩
    have HB := Lib.hid (L11.out.below.trans (Below.mono hb20 L11.out.below.size))
    clear hb20
    go_wp2
    go_ret
    exact ⟨rfl, HB.out⟩
end Go.Proofs.YtoplocnkpljofaaDoor
