/- The contract of varint.Text. -/
import Derived.Test.YtdiihaeelcbjbaaGreatDoorVarU
import Derived.Test.YtdiihaeelcbjbaaGreatDoorFoldMath
import Derived.Deep.DeepFit
namespace Go.Proofs.YtdiihaeelcbjbaaGreatDoor
open Go.RowKit
theorem Text_any (A : Option Addr) (bs : List UInt8) (L c : Nat) (hL : L = bs.length) (s : ByteArray) (hs : s.size ≤ 1000000) (hlen : bs.length ≤ 1000000) (w : World) (hA : HasA w w.heap.size A bs) :
    Calls Tryz.prog 103 #[.slice A L c, .string s] w (Gives w (bs ++ vb s.size ++ s.data.toList)) := by
  obtain ⟨i0, hi, hz0, hz1, hz2⟩ := info_parts info5
  have hs' : (s.size : Int) ≤ 1000000 := by omega
  have hv := vb_len10 (n := s.size) (by omega)
  have hp : 0 < (vb s.size).length := List.length_pos_iff.2 (vb_ne _)
  have HL := Lib.hid hL
  clear hL
  go_enter Tryz.func103, Tryz.ntmps103
  go_wp2_with fail
  refine (Uint_any A bs L c s.size HL.out (by omega) hlen w hA).mono ?_
  rintro e W1 ⟨g, L1, c1, rfl, hown1, hb1⟩
  have hl1 : L1 ≤ 1000010 ∧ 0 < L1 := by have := own_len hown1; simp at this; omega
  have hl2 := hl1.1
  have hl3 := hl1.2
  have H1 := Lib.hid hown1
  have H3 := Lib.hid hb1
  clear hown1 hb1 hl1
  go_wp2_with (at_builtin; refine wpList_append_str rfl (.tmp 9) (.tmp 10) 39 9 rfl w.heap.size 5 i0 Tryz.underlying39 Tryz.underlying9 hi hz0 hz1 hz2 _ L1 _ rfl H1.out s rfl (by omega) H3.out.size ?_; intro v' W2 hown2 hg2)
  go_ret
  obtain ⟨g2, c2, rfl, _⟩ := hown2.form (by omega)
  exact ⟨g2, _, c2, rfl, hown2, H3.out.grown hg2 H3.out.size (fun k e => by cases e; exact (H1.out.lt g rfl).1)⟩
end Go.Proofs.YtdiihaeelcbjbaaGreatDoor
