/- The contract of frame.Put. -/
import Derived.Test.YtbhncffeoolhfaaDoorFrSum
import Derived.Test.YtbhncffeoolhfaaDoorFrGrow
import Derived.Test.YtbhncffeoolhfaaDoorVar3
namespace Go.Proofs.YtbhncffeoolhfaaDoor
open Go.RowKit

theorem leB4' (s : Nat) : leB 4 s = [UInt8.ofNat (s % 256), UInt8.ofNat (s / 256 % 256), UInt8.ofNat (s / 256 / 256 % 256), UInt8.ofNat (s / 256 / 256 / 256 % 256)] := rfl
theorem enc_of {n : Nat} (h : n < 256) : enc (UInt8.ofNat n) = .int .u8 (n : Int) := enc_ofNat h
/-- The array of a sum is the sum's four bytes. -/
theorem sumC_leB (s : Nat) (hs : s < 4294967296) : sumC s 4 = ((leB 4 s).map enc).toArray := by
  rw [leB4', List.map_cons, List.map_cons, List.map_cons, List.map_cons, List.map_nil, enc_of (by omega), enc_of (by omega), enc_of (by omega), enc_of (by omega)]
  have e1 : ((s : Int) / 256 % 256) = ((s / 256 % 256 : Nat) : Int) := by omega
  have e2 : ((s : Int) / 65536 % 256) = ((s / 256 / 256 % 256 : Nat) : Int) := by omega
  have e3 : ((s : Int) / 16777216) = ((s / 256 / 256 / 256 % 256 : Nat) : Int) := by omega
  have e0 : ((s : Int) % 256) = ((s % 256 : Nat) : Int) := by omega
  simp only [sumC, if_pos (show 0 < 4 by omega), if_pos (show 1 < 4 by omega), if_pos (show 2 < 4 by omega), if_pos (show 3 < 4 by omega), e0, e1, e2, e3]
theorem HasA.blk {w : World} {b : Nat} {bs : List UInt8} {t : TypeId} (h : w.heap[b]? = some (.cells (bs.map enc).toArray t (0, 0))) : HasA w w.heap.size (some ⟨b, 0, none⟩) bs := fun _ =>
  ⟨b, 0, rfl, (Array.getElem?_eq_some_iff.1 h).1, fun i hi => by rw [Nat.zero_add, blk_cell h]; simp [hi]⟩

set_option maxHeartbeats 2000000 in
theorem put_any : PutSpec := by
  intro A L c bs A2 L2 c2 x w hL hl hlc hL2 hl2 hlc2 hT hA hA2
  have HL := Lib.hid hL
  have HL2 := Lib.hid hL2
  have HA := Lib.hid hA
  have HA2 := Lib.hid hA2
  have HT := Lib.hid hT
  have hli : (L : Int) ≤ 200000 := by omega
  have hli2 : (L2 : Int) ≤ 200000 := by omega
  by_cases hf : Fit x
  · have hf1 : (1 : Int) ≤ L2 := by have := hf.1; omega
    have hf2 : (L2 : Int) ≤ 65536 := by have := hf.2; omega
    have hfb : ((L2 : Int) == 0) = false := by simp; omega
    have HF := Lib.hid hf
    clear hL hL2 hA hA2 hT hf
    go_enter Tryd.func7, Tryd.ntmps7
    go_wp2_with fail
    refine (Uint_any none [] 0 0 L2 rfl (by omega) (by simp) w (HasA.nil _ _ _)).mono ?_
    rintro e W1 ⟨g, L3, c3, rfl, hown1, hb1⟩
    rw [List.nil_append] at hown1
    have HO1 := Lib.hid hown1
    have B1 := Lib.hid hb1
    clear hown1 hb1
    go_wp2_with fail
    refine (sumOf_any A2 L2 c2 x HL2.out (by omega) W1 (HT.out.grew B1.out) (HA2.out.below' B1.out)).mono ?_
    rintro e W2 ⟨rfl, hb2⟩
    have HO2 := Lib.hid (own_below HO1.out hb2)
    have B2 := Lib.hid (B1.out.trans (Below.mono hb2 B1.out.size))
    obtain ⟨s, hs⟩ : ∃ s, s = crcSum x := ⟨_, rfl⟩
    have HS := Lib.hid hs
    rw [← hs, sumV]
    clear hb2 hs HO1 B1
    go_wp2_with fail
    have hsl : s < 4294967296 := by rw [HS.out]; exact crcSum_lt x
    have hsum := sumC_leB s hsl
    obtain ⟨o1, ho1⟩ : ∃ o1, o1 = Obj.cells ((leB 4 s).map enc).toArray 39 := ⟨_, rfl⟩
    have ho1' : Obj.cells #[Value.int IntKind.u8 ((s : Int) % 256), Value.int IntKind.u8 ((s : Int) / 256 % 256), Value.int IntKind.u8 ((s : Int) / 65536 % 256), Value.int IntKind.u8 ((s : Int) / 16777216)] 39 = o1 := by
      rw [ho1, ← hsum]; rfl
    rw [ho1']
    obtain ⟨W3, hW3⟩ : ∃ W3, W3 = (W2.alloc o1).alloc (Obj.cells #[Value.slice A L c, Value.slice (some ⟨g, 0, none⟩) L3 c3, Value.slice (some ⟨W2.heap.size, 0, none⟩) 4 4, Value.slice A2 L2 c2] 22) := ⟨_, rfl⟩
    rw [← hW3]
    have hz3 : W3.heap.size = W2.heap.size + 2 := by rw [hW3]; simp
    have hB23 : Below W2.heap.size W2 W3 := by rw [hW3]; exact ((Below.refl _ _).alloc (Nat.le_refl _) _).alloc (by simp) _
    have hB3 : Below w.heap.size w W3 := B2.out.trans (Below.mono hB23 B2.out.size)
    have hk1 : W3.heap[W2.heap.size]? = some o1 := by rw [hW3]; exact (Below.heap_alloc _ _ _ (by simp)).trans (World.alloc_heap_new W2 _)
    have hk2 : W3.heap[W2.heap.size + 1]? = some (Obj.cells #[Value.slice A L c, Value.slice (some ⟨g, 0, none⟩) L3 c3, Value.slice (some ⟨W2.heap.size, 0, none⟩) 4 4, Value.slice A2 L2 c2] 22) := by
      rw [hW3]; have := World.alloc_heap_new (W2.alloc o1) (Obj.cells #[Value.slice A L c, Value.slice (some ⟨g, 0, none⟩) L3 c3, Value.slice (some ⟨W2.heap.size, 0, none⟩) 4 4, Value.slice A2 L2 c2] 22); rwa [World.size_alloc] at this
    rw [ho1] at hk1
    have HO3 := Lib.hid (own_below HO2.out hB23)
    have hv10 := vb_len10 (n := L2) (by omega)
    have hxl := HL2.out
    have hbl := HL.out
    have hf1' := HF.out.1
    have hxs : ([bs, vb L2, leB 4 s, x] : List (List UInt8)).flatten = bs ++ frm x := by
      rw [frm, body, ← HS.out, ← HL2.out]; simp
    have hfl : (frm x).length = (vb L2).length + (4 + x.length) := by rw [frm_length, ← HL2.out]
    refine (Concat_any (W2.heap.size + 1) 4 4 [bs, vb L2, leB 4 s, x] rfl (by omega) (by omega) (by rw [hxs, List.length_append]; omega) (by rw [hxs, List.length_append]; omega) W3 (by omega) ?_).mono ?_
    · intro i hi
      rcases i with _ | _ | _ | _ | i
      · exact ⟨A, L, c, blk_cell hk2 0, HL.out, HA.out.below' hB3⟩
      · exact ⟨some ⟨g, 0, none⟩, L3, c3, blk_cell hk2 1, own_len HO3.out, HasA.of_own HO3.out⟩
      · exact ⟨some ⟨W2.heap.size, 0, none⟩, 4, 4, blk_cell hk2 2, (leB_length 4 s).symm, HasA.blk hk1⟩
      · exact ⟨A2, L2, c2, blk_cell hk2 3, HL2.out, HA2.out.below' hB3⟩
      · simp at hi; omega
    rw [hxs]
    rintro e W4 ⟨g4, L4, c4, rfl, hown4, hb4⟩
    have HO4 := Lib.hid (own_base hown4 hB3.size)
    have B4 := Lib.hid (hB3.trans (Below.mono hb4 hB3.size))
    clear hown4 hb4 hk1 hk2 hW3 hz3 hB23 hB3 hxs hfl ho1 ho1' hsum hv10 hxl hbl
    go_wp2
    go_ret2
    exact .inl ⟨HF.out, g4, L4, c4, rfl, HO4.out, B4.out⟩
  · have HF := Lib.hid hf
    have hff : L2 = 0 ∨ 65536 < L2 := by
      rcases Nat.eq_zero_or_pos L2 with h | h
      · exact .inl h
      · exact .inr (Classical.byContradiction fun hn => hf ⟨by omega, by omega⟩)
    clear hL hL2 hA2 hT hf
    rcases hff with h0 | h0
    · subst h0
      go_enter Tryd.func7, Tryd.ntmps7
      go_wp2_with fail
      refine (Clone_any A L c bs HL.out (by have := HL.out; omega) w hA).mono ?_
      rintro e W1 ⟨⟨A', c', rfl, hc', hd⟩, hB⟩
      go_wp2
      go_ret2
      exact .inr ⟨HF.out, _, rfl, ⟨A', L, c', rfl, HL.out, hd.has⟩, hB⟩
    · have hfb : ((L2 : Int) == 0) = false := by simp; omega
      have h0i : (65536 : Int) < L2 := by omega
      go_enter Tryd.func7, Tryd.ntmps7
      go_wp2_with fail
      refine (Clone_any A L c bs HL.out (by have := HL.out; omega) w hA).mono ?_
      rintro e W1 ⟨⟨A', c', rfl, hc', hd⟩, hB⟩
      go_wp2
      go_ret2
      exact .inr ⟨HF.out, _, rfl, ⟨A', L, c', rfl, HL.out, hd.has⟩, hB⟩
end Go.Proofs.YtbhncffeoolhfaaDoor
