/- The reference's Batch. -/
import Derived.Test.YtfaplmpenlbajaaDoorCmSame
import Derived.Test.YtfaplmpenlbajaaDoorCmK
import Derived.Test.YtfaplmpenlbajaaDoorCmOne
namespace Go.Proofs.YtfaplmpenlbajaaDoor
open Go.RowKit

theorem one8_m (a : CmdV) : one8 a = a.m.one := rfl
/-- The bytes of the commands so far. -/
def onesTo (l : List CM) (k : Nat) : List UInt8 := (l.take k).flatMap CM.one
theorem onesTo_succ {l : List CM} {k : Nat} (h : k < l.length) : onesTo l (k + 1) = onesTo l k ++ (l[k]).one := by
  unfold onesTo
  rw [List.take_succ_eq_append_getElem h, List.flatMap_append]
  simp
theorem CM.Short.one_len {m : CM} (h : m.Short) (hw : m.Wf) : m.one.length ≤ 60000 := by
  have h1 := vb_len10 (n := m.cl) (by have := hw.cl; omega)
  have h2 := vb_len10 (n := m.sq) (by have := hw.sq; omega)
  have h3 := vb_len10 (n := m.kd) (by have := hw.kd; omega)
  have hk := h.ks
  have h4 := vb_len10 (n := m.ks.length) (by omega)
  have h5 := flat_len m.ks 500 (by omega) h.each
  have h6 := txt_le (s := m.old) (by have := h.old; omega)
  have h7 := txt_le (s := m.new) (by have := h.new; omega)
  have h8 := vb_len10 (n := foldN m.n) (foldN_lt hw.n.1 hw.n.2)
  have h10 := h.old
  have h11 := h.new
  have h12 : m.ks.length * 510 ≤ 51000 := by omega
  simp only [CM.one, List.length_append]
  omega
theorem own_cap8 {w : World} {base n c : Nat} {A : Option Addr} {xs : List UInt8} (h : w.ownsRow base 5 1 (.slice A n c) n (xs.map enc)) : IsBc w (.slice A n c) xs := ⟨A, n, c, rfl, own_len h, own_cap h, HasA.of_own h⟩

set_option maxRecDepth 100000 in
set_option maxHeartbeats 8000000 in
theorem refBatch_any (A : Option Addr) (L c : Nat) (l : List CmdV) (w : World) (hL : L = l.length) (hL1 : L ≤ 100) (hA : HasC w A l) (hs : ∀ a ∈ l, a.m.Short) :
    Calls Tryd.prog 9 #[.slice A L c] w fun e W' => ∃ v, e = .returned (.tuple #[v, .int .i64 ((batchR (l.map CmdV.m)).2 : Int)]) ∧ IsBc W' v (batchR (l.map CmdV.m)).1 ∧ Below w.heap.size w W' := by
  obtain ⟨i0, hi, hz0, hz1, hz2⟩ := info_parts info5
  have HL := Lib.hid hL
  have HA := Lib.hid hA
  have HS := Lib.hid hs
  have hLi : (L : Int) ≤ 100 := by omega
  have hnil : ∀ W : World, IsBc W (.slice none 0 0) [] := fun W => ⟨none, 0, 0, rfl, rfl, Nat.le_refl _, HasA.nil _ _ _⟩
  have HN := Lib.hid hnil
  clear hL hA hs hnil
  by_cases h8 : 8 < L
  · have h8i : (8 : Int) < L := by omega
    have HR := Lib.hid (batchR_no (l := l.map CmdV.m) (fun h => by have := h.len; rw [List.length_map] at this; have := HL.out; omega))
    go_enter Tryd.func9, Tryd.ntmps9
    go_wp2
    go_ret2
    rw [HR.out]
    exact ⟨_, rfl, HN.out _, Below.refl _ _⟩
  have h8i : ¬ (8 : Int) < L := by omega
  go_enter Tryd.func9, Tryd.ntmps9
  go_wp2_with fail
  refine (ref_Uint L (by omega) w).mono ?_
  rintro e V0 ⟨g0, L0, c0, rfl, hown, hb⟩
  have hl0 : L0 ≤ 10 := by have := own_len hown; have := vb_len10 (n := L) (by omega); omega
  have O0 := Lib.hid hown
  have B0 := Lib.hid hb
  clear hown hb
  go_wp2
  go_loopw [4, 5] (fun s4 i wr => ∃ k M : Nat, ∃ A4 c4, k ≤ L ∧ i = .int .i64 (k : Int) ∧ s4 = .slice A4 M c4 ∧ M ≤ 10 + k * 898 ∧ Hid (wr.ownsRow w.heap.size 5 1 (.slice A4 M c4) M ((vb L ++ onesTo (l.map CmdV.m) k).map enc)) ∧ Hid (Below w.heap.size w wr) ∧ Hid (∀ j (h : j < l.length), j < k → (l[j]).m.May)) (fun _ i _ => L - (intOf i).toNat)
  case atStart => exact ⟨0, L0, _, c0, Nat.zero_le _, rfl, rfl, by omega, Lib.hid (by simpa [onesTo] using O0.out), B0, Lib.hid (fun j _ h => by omega)⟩
  case round =>
    obtain ⟨k, M, A4, c4, hk, rfl, rfl, hM, HO, HB, HM⟩ := hrel
    by_cases hlt : k < L
    · have hki : (k : Int) < L := by omega
      have hk1 : k < l.length := by have := HL.out; omega
      obtain ⟨bk, o1, e1, l1, f1⟩ := HA.out (by rintro rfl; simp at hk1)
      subst e1
      have g1 := f1 k hk1
      obtain ⟨a, ha⟩ : ∃ a, a = l[k] := ⟨_, rfl⟩
      rw [← ha] at g1
      have OKA := Lib.hid (g1.2.below HB.out)
      have SH := Lib.hid (HS.out a (by rw [ha]; exact List.getElem_mem hk1))
      have cA : Hid (∀ i u, a.cells[i]? = some u → wr.cell? ⟨bk, o1 + k * 7 + i, none⟩ = some u) := Lib.hid (fun i u hu => (HB.out.cell (p := ⟨bk, o1 + k * 7 + i, none⟩) l1).trans (g1.1 i u hu))
      have HE := Lib.hid ha
      have HF := Lib.hid (And.intro l1 g1.1)
      clear g1 f1 ha l1
      obtain ⟨acl, asq, akd, KA, KL, kc, ks, old, new, n⟩ := a
      have a0 := cA.out 0 _ rfl
      have a1 := cA.out 1 _ rfl
      have a2 := cA.out 2 _ rfl
      have a3 := cA.out 3 _ rfl
      have a4 := cA.out 4 _ rfl
      have a5 := cA.out 5 _ rfl
      have a6 := cA.out 6 _ rfl
      simp only [Nat.add_zero] at a0
      go_wp2_with fail
      refine (refMay_any ⟨acl, asq, akd, KA, KL, kc, ks, old, new, n⟩ wr OKA.out).mono ?_
      rintro e V1 ⟨he, hb⟩
      cases hm : (CmdV.m ⟨acl, asq, akd, KA, KL, kc, ks, old, new, n⟩).may with
      | false =>
        rw [hm] at he
        subst he
        have HR := Lib.hid (batchR_no (l := l.map CmdV.m) (fun h => (CM.may_no.1 hm) (h.each _ (by rw [HE.out]; exact List.mem_map_of_mem (List.getElem_mem hk1)))))
        have HB1 := Lib.hid (HB.out.trans (Below.mono hb HB.out.size))
        clear hm hb a0 a1 a2 a3 a4 a5 a6
        go_wp2
        go_ret2
        rw [HR.out]
        exact ⟨_, rfl, HN.out _, HB1.out⟩
      | true =>
        rw [hm] at he
        subst he
        have MY := Lib.hid (CM.may_iff.1 hm)
        have HB1 := Lib.hid (HB.out.trans (Below.mono hb HB.out.size))
        have OK1 := Lib.hid (OKA.out.below hb)
        have OO1 := Lib.hid (own_below HO.out hb)
        have cA1 : ∀ i u, (CmdV.cells ⟨acl, asq, akd, KA, KL, kc, ks, old, new, n⟩)[i]? = some u → V1.cell? ⟨bk, o1 + k * 7 + i, none⟩ = some u := fun i u hu => (HB1.out.cell (p := ⟨bk, o1 + k * 7 + i, none⟩) HF.out.1).trans (HF.out.2 i u hu)
        clear hm hb a0 a1 a2 a3 a4 a5 a6
        have a0 := cA1 0 _ rfl
        have a1 := cA1 1 _ rfl
        have a2 := cA1 2 _ rfl
        have a3 := cA1 3 _ rfl
        have a4 := cA1 4 _ rfl
        have a5 := cA1 5 _ rfl
        have a6 := cA1 6 _ rfl
        simp only [Nat.add_zero] at a0
        clear cA1
        have hone := CM.one_len MY.out OK1.out.wf
        go_wp2_with fail
        refine (refOne_any ⟨acl, asq, akd, KA, KL, kc, ks, old, new, n⟩ V1 OK1.out (by have := SH.out.ks; exact Nat.le_trans this (by omega)) (fun t ht => Nat.le_trans (SH.out.each t ht) (by omega)) (Nat.le_trans SH.out.old (by omega)) (Nat.le_trans SH.out.new (by omega))).mono ?_
        rintro e V2 ⟨g1, L1, c1, rfl, hown, hb⟩
        rw [one8_m] at hown
        have hl1 : L1 ≤ 898 := by have := own_len hown; omega
        have OC := Lib.hid hown
        have OO2 := Lib.hid (own_below OO1.out hb)
        have HB2 := Lib.hid (HB1.out.trans (Below.mono hb HB1.out.size))
        clear hown hb a0 a1 a2 a3 a4 a5 a6 hone
        go_wp2_with (first | (at_builtin; refine wpList_append_has rfl (.tmp 25) (.tmp 30) 29 rfl w.heap.size 5 i0 Tryd.underlying29 hi hz0 hz1 hz2 _ M (vb L ++ onesTo (l.map CmdV.m) k) rfl OO2.out _ _ L1 c1 (CM.one (CmdV.m ⟨acl, asq, akd, KA, KL, kc, ks, old, new, n⟩)) rfl (own_len OC.out) (HasA.of_own OC.out) (by omega) HB2.out.size ?_; intro u1 U1 hown hg; have hb2 : Below w.heap.size w U1 := HB2.out.grown hg HB2.out.size (fun k e => (OO2.out.lt k e).1); obtain ⟨A5, c5, rfl⟩ := own_form hown; have O1 := Lib.hid hown; have B1 := Lib.hid hb2; clear hown hg hb2) | fail)
        refine ⟨⟨k + 1, M + L1, A5, c5, by omega, by congr 1, rfl, by omega, Lib.hid ?_, B1, Lib.hid (fun j h1 h2 => ?_)⟩, by simp only [intOf]; omega⟩
        · have hk' : k < (l.map CmdV.m).length := by rw [List.length_map]; exact hk1
          rw [onesTo_succ hk', ← List.append_assoc, List.getElem_map, ← HE.out]
          exact O1.out
        · by_cases hj : j < k
          · exact HM.out j h1 hj
          · obtain rfl : j = k := by omega
            rw [← HE.out]
            exact MY.out
    · have hki : ¬ (k : Int) < L := by omega
      obtain rfl : k = L := by omega
      have HY : Hid (MayB (l.map CmdV.m)) := Lib.hid ⟨by rw [List.length_map, ← HL.out]; omega, fun m hm => by
        obtain ⟨a, ha, rfl⟩ := List.mem_map.1 hm
        obtain ⟨j, hj, rfl⟩ := List.getElem_of_mem ha
        exact HM.out j hj (by rw [HL.out]; exact hj)⟩
      have HR := Lib.hid (batchR_ok HY.out)
      go_wp2
      go_ret2
      rw [HR.out]
      have ho := HO.out
      rw [show onesTo (l.map CmdV.m) k = (l.map CmdV.m).flatMap CM.one by unfold onesTo; rw [HL.out, ← List.length_map (f := CmdV.m), List.take_length]] at ho
      refine ⟨_, rfl, ?_, HB.out⟩
      have := own_cap8 ho
      rw [batchM, List.length_map, ← HL.out]
      exact this
end Go.Proofs.YtfaplmpenlbajaaDoor
