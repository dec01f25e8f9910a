/- The contract of the document's own frame of bytes. -/
import Derived.Test.YtbhncffeoolhfaaDoorRefUint
import Derived.Test.YtbhncffeoolhfaaDoorCrcRef
import Derived.Test.YtbhncffeoolhfaaDoorFrMath
import Derived.Test.YtbhncffeoolhfaaDoorPuts
namespace Go.Proofs.YtbhncffeoolhfaaDoor
open Go.RowKit

theorem leB4 (s : Nat) : leB 4 s = [UInt8.ofNat (s % 256), UInt8.ofNat (s / 256 % 256), UInt8.ofNat (s / 256 / 256 % 256), UInt8.ofNat (s / 256 / 256 / 256 % 256)] := rfl

theorem hasA_le4 (W : World) (s : Nat) (hs : s < 4294967296) : HasA (W.alloc (.cells #[.int .u8 ((s : Int) % 256), .int .u8 ((s : Int) / 256 % 256), .int .u8 ((s : Int) / 65536 % 256), .int .u8 ((s : Int) / 16777216)] 5)) (W.heap.size + 1) (some ⟨W.heap.size, 0, none⟩) (leB 4 s) := by
  have h := hasA_new W (leB 4 s)
  have e : ((leB 4 s).map enc).toArray = #[.int .u8 ((s : Int) % 256), .int .u8 ((s : Int) / 256 % 256), .int .u8 ((s : Int) / 65536 % 256), .int .u8 ((s : Int) / 16777216)] := by
    rw [leB4]
    simp only [List.map_cons, List.map_nil]
    rw [enc_ofNat (by omega), enc_ofNat (by omega), enc_ofNat (by omega), enc_ofNat (by omega)]
    congr 1
    simp only [List.cons.injEq, Value.int.injEq, true_and, and_true]
    omega
  rw [e] at h
  simpa using h

set_option maxHeartbeats 1000000 in
theorem ref_Frame (A : Option Addr) (L c : Nat) (bs : List UInt8) (hL : L = bs.length) (hlen : L ≤ 1000000) (w : World) (hA : HasA w w.heap.size A bs) :
    Calls Tryd.prog 8 #[.slice A L c] w (Gives w (frm bs)) := by
  obtain ⟨i0, hi, hz0, hz1, hz2⟩ := info_parts info5
  have HL := Lib.hid hL
  have HA := Lib.hid hA
  clear hL hA
  have hli : (L : Int) ≤ 1000000 := by omega
  have hv := vb_len10 (n := L) (by omega)
  have hvp : 0 < (vb L).length := List.length_pos_iff.2 (vb_ne _)
  go_enter Tryd.func8, Tryd.ntmps8
  go_wp2_with fail
  refine (ref_Sum A L c bs HL.out (by omega) w HA.out).mono ?_
  rintro e w' ⟨rfl, rfl⟩
  obtain ⟨s, hs⟩ : ∃ s, s = crcSum bs := ⟨_, rfl⟩
  have hsl : s < 4294967296 := by rw [hs]; exact crcSum_lt bs
  have HS := Lib.hid hs
  rw [← hs]
  clear hs
  go_wp2_with fail
  refine (ref_Uint L (by omega) w).mono ?_
  rintro e W1 ⟨g, L1, c1, rfl, hown1, hb1⟩
  have hl1 : L1 ≤ 10 ∧ 0 < L1 := by have := own_len hown1; omega
  obtain ⟨hl1a, hl1b⟩ := hl1
  have H1 := Lib.hid hown1
  have B1 := Lib.hid hb1
  clear hown1 hb1
  have HS4 := Lib.hid (hasA_le4 W1 s hsl)
  go_wp2_with (first
    | (at_builtin; refine wpList_append_has rfl (.tmp 11) (.tmp 26) 22 rfl w.heap.size 5 i0 Tryd.underlying22 hi hz0 hz1 hz2 _ L1 (vb L) rfl (H1.out.alloc _) _ _ 4 4 (leB 4 s) rfl rfl HS4.out (by omega) (by have := B1.out.size; simp; omega) ?_; intro v2 W2 hown2 hg2
       have hB2 : Below w.heap.size w W2 := (B1.out.alloc B1.out.size _).grown hg2 (by have := B1.out.size; simp; omega) (fun k e => by cases e; exact (H1.out.lt g rfl).1)
       have HA2 := Lib.hid (HA.out.below hB2)
       have HO2 := Lib.hid hown2
       have B2 := Lib.hid hB2
       clear hown2 hg2 hB2)
    | (at_builtin; refine wpList_append_has rfl (.tmp 28) (.tmp 29) 22 rfl w.heap.size 5 i0 Tryd.underlying22 hi hz0 hz1 hz2 _ (L1 + 4) (vb L ++ leB 4 s) rfl HO2.out _ _ L c bs rfl HL.out HA2.out (by omega) B2.out.size ?_; intro v3 W3 hown3 hg3)
    | fail)
  go_ret
  have hB3 : Below w.heap.size w W3 := B2.out.grown hg3 B2.out.size (fun k e => (HO2.out.lt k e).1)
  obtain ⟨g3, c3, rfl, _⟩ := hown3.form (by omega)
  refine ⟨g3, _, c3, rfl, ?_, hB3⟩
  have e : vb L ++ leB 4 s ++ bs = frm bs := by rw [frm, body, HS.out, ← HL.out, List.append_assoc]
  rw [← e]
  exact hown3
end Go.Proofs.YtbhncffeoolhfaaDoor
