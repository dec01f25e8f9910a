/- The reference's One: a command's bytes. -/
import Derived.Test.YtfaplmpenlbajaaDoorCmRow
import Derived.Test.YtfaplmpenlbajaaDoorRefI
import Derived.Test.YtfaplmpenlbajaaDoorRefT
import Derived.Test.YtfaplmpenlbajaaDoorCmMath
import Derived.Deep.DeepCutAuto
namespace Go.Proofs.YtfaplmpenlbajaaDoor
open Go.RowKit

def keysTo (l : List ByteArray) (k : Nat) : List UInt8 := (l.take k).flatMap txt
theorem keysTo_succ {l : List ByteArray} {k : Nat} (h : k < l.length) : keysTo l (k + 1) = keysTo l k ++ txt l[k] := by
  unfold keysTo
  rw [List.take_succ_eq_append_getElem h, List.flatMap_append]
  simp
def one8 (a : CmdV) : List UInt8 := vb a.cl ++ vb a.sq ++ vb a.kd ++ vb a.ks.length ++ a.ks.flatMap txt ++ txt a.old ++ txt a.new ++ vb (foldN a.n)
/-- Behind some bytes: the row, the block that the command lies in. -/
structure OneS (W0 W : World) (v : Value) (L : Nat) (xs : List UInt8) : Prop where
  own : W.ownsRow W0.heap.size 5 1 v L (xs.map enc)
  below : Below W0.heap.size W0 W

set_option maxRecDepth 100000 in
set_option maxHeartbeats 8000000 in
theorem refOne_any (a : CmdV) (w : World) (ha : a.ok w) (hk : a.ks.length ≤ 1000) (hks : ∀ k ∈ a.ks, k.size ≤ 1000000) (ho : a.old.size ≤ 1000000) (hn : a.new.size ≤ 1000000) :
    Calls Tryd.prog 13 #[a.val] w (Gives w (one8 a)) := by
  obtain ⟨i0, hi, hz0, hz1, hz2⟩ := info_parts info5
  obtain ⟨acl, asq, akd, A, M, c, ks, old, new, n⟩ := a
  obtain ⟨hcl, hsq, hkd, hn64, hlen, -, hhas, -, -, -⟩ := ha
  simp only at hcl hsq hkd hn64 hlen hhas hk hks ho hn
  simp only [CmdV.val, CmdV.cells, one8]
  have HH := Lib.hid (And.intro hhas (And.intro hlen hks))
  have hM : (M : Int) ≤ 1000 := by omega
  have HB64 := Lib.hid hn64
  have hoi : (old.size : Int) ≤ 1000000 := by omega
  have hni : (new.size : Int) ≤ 1000000 := by omega
  clear hhas hks hlen
  go_enter Tryd.func13, Tryd.ntmps13
  go_upto_region 1 with (fail)
  obtain ⟨W0, hW0⟩ : ∃ W0, W0 = w.alloc (Obj.cells #[.int .u32 (acl : Int), .int .u32 (asq : Int), .int .u8 (akd : Int), .slice A M c, .string old, .string new, .int .i64 n] 26) := ⟨_, rfl⟩
  rw [← hW0]
  obtain ⟨p, hp⟩ : ∃ p, p = w.heap.size := ⟨_, rfl⟩
  have hB : Below w.heap.size w W0 := by rw [hW0]; exact (Below.refl _ w).alloc (Nat.le_refl _) _
  have k1 : W0.heap[p]? = some (.cells #[.int .u32 (acl : Int), .int .u32 (asq : Int), .int .u8 (akd : Int), .slice A M c, .string old, .string new, .int .i64 n] 26 (0, 0)) := by
    rw [hW0, hp]; exact World.alloc_heap_new w _
  rw [← hp]
  have lp : p < W0.heap.size := (Array.getElem?_eq_some_iff.1 k1).1
  have FF : Hid (∀ i u, (#[.int .u32 (acl : Int), .int .u32 (asq : Int), .int .u8 (akd : Int), .slice A M c, .string old, .string new, .int .i64 n] : Array Value)[i]? = some u → W0.cell? ⟨p, i, none⟩ = some u) := Lib.hid (fun i u hu => by rw [blk_cell k1 i]; simpa using hu)
  have x0 := FF.out 0 _ rfl
  have LP := Lib.hid lp
  have BW := Lib.hid hB
  clear hW0 hp hB k1 lp
  go_wp2_with fail
  refine (ref_Uint acl (by omega) W0).mono ?_
  rintro e V0 ⟨g0, L0, c0, rfl, hown, hb⟩
  have hl0 : L0 ≤ 10 := by have := own_len hown; have := vb_len10 (n := acl) (by omega); omega
  have x1 := (hb.cell (p := ⟨p, 1, none⟩) LP.out).trans (FF.out 1 _ rfl)
  have O0 := Lib.hid hown
  have B0 := Lib.hid hb
  clear hown hb x0
  go_wp2_with fail
  refine (ref_Uint asq (by omega) V0).mono ?_
  rintro e V1 ⟨g1, L1, c1, rfl, hown, hb⟩
  have hl1 : L1 ≤ 10 := by have := own_len hown; have := vb_len10 (n := asq) (by omega); omega
  have OC1 := Lib.hid hown
  have OO1 := Lib.hid (own_below O0.out hb)
  have BB1 := Lib.hid (B0.out.trans (Below.mono hb B0.out.size))
  clear hown hb x1
  go_wp2_with (first | (at_builtin; refine wpList_append_has rfl (.tmp 9) (.tmp 13) 29 rfl W0.heap.size 5 i0 Tryd.underlying29 hi hz0 hz1 hz2 _ (L0) (vb acl) rfl OO1.out _ _ L1 c1 (vb asq) rfl (own_len OC1.out) (HasA.of_own OC1.out) (by omega) BB1.out.size ?_; intro u1 U1 hown hg; have hb2 : Below W0.heap.size W0 U1 := BB1.out.grown hg BB1.out.size (fun k e => (OO1.out.lt k e).1); have x2 := (hb2.cell (p := ⟨p, 2, none⟩) LP.out).trans (FF.out 2 _ rfl); have O1 := Lib.hid hown; have B1 := Lib.hid hb2; clear hown hg hb2) | fail)
  refine (ref_Uint akd (by omega) U1).mono ?_
  rintro e V2 ⟨g2, L2, c2, rfl, hown, hb⟩
  have hl2 : L2 ≤ 10 := by have := own_len hown; have := vb_len10 (n := akd) (by omega); omega
  have OC2 := Lib.hid hown
  have OO2 := Lib.hid (own_below O1.out hb)
  have BB2 := Lib.hid (B1.out.trans (Below.mono hb B1.out.size))
  clear hown hb x2
  go_wp2_with (first | (at_builtin; refine wpList_append_has rfl (.tmp 15) (.tmp 19) 29 rfl W0.heap.size 5 i0 Tryd.underlying29 hi hz0 hz1 hz2 _ (L0 + L1) (vb acl ++ vb asq) rfl OO2.out _ _ L2 c2 (vb akd) rfl (own_len OC2.out) (HasA.of_own OC2.out) (by omega) BB2.out.size ?_; intro u2 U2 hown hg; have hb2 : Below W0.heap.size W0 U2 := BB2.out.grown hg BB2.out.size (fun k e => (OO2.out.lt k e).1); have x3 := (hb2.cell (p := ⟨p, 3, none⟩) LP.out).trans (FF.out 3 _ rfl); have O2 := Lib.hid hown; have B2 := Lib.hid hb2; clear hown hg hb2) | fail)
  refine (ref_Uint M (by omega) U2).mono ?_
  rintro e V3 ⟨g3, L3, c3, rfl, hown, hb⟩
  have hl3 : L3 ≤ 10 := by have := own_len hown; have := vb_len10 (n := M) (by omega); omega
  have OC3 := Lib.hid hown
  have OO3 := Lib.hid (own_below O2.out hb)
  have BB3 := Lib.hid (B2.out.trans (Below.mono hb B2.out.size))
  clear hown hb x3
  go_wp2_with (first | (at_builtin; refine wpList_append_has rfl (.tmp 21) (.tmp 26) 29 rfl W0.heap.size 5 i0 Tryd.underlying29 hi hz0 hz1 hz2 _ (L0 + L1 + L2) (vb acl ++ vb asq ++ vb akd) rfl OO3.out _ _ L3 c3 (vb M) rfl (own_len OC3.out) (HasA.of_own OC3.out) (by omega) BB3.out.size ?_; intro u3 U3 hown hg; have hb2 : Below W0.heap.size W0 U3 := BB3.out.grown hg BB3.out.size (fun k e => (OO3.out.lt k e).1); have x3 := (hb2.cell (p := ⟨p, 3, none⟩) LP.out).trans (FF.out 3 _ rfl); have O3 := Lib.hid hown; have B3 := Lib.hid hb2; clear hown hg hb2) | fail)
  go_loopw [3, 4] (fun v3 i wr => ∃ k L : Nat, k ≤ M ∧ i = .int .i64 (k : Int) ∧ L ≤ 40 + k * 1000010 ∧ Hid (OneS W0 wr v3 L (vb acl ++ vb asq ++ vb akd ++ vb M ++ keysTo ks k))) (fun _ i _ => M - (intOf i).toNat)
  case atStart => exact ⟨0, L0 + L1 + L2 + L3, Nat.zero_le _, rfl, by omega, Lib.hid ⟨by simpa [keysTo] using O3.out, B3.out⟩⟩
  case round =>
    obtain ⟨k, L, hk1, rfl, hL, HS⟩ := hrel
    have x3 := (HS.out.below.cell (p := ⟨p, 3, none⟩) LP.out).trans (FF.out 3 _ rfl)
    by_cases hlt : k < M
    · have hki : (k : Int) < M := by omega
      have hk2 : k < ks.length := by rw [← HH.out.2.1]; exact hlt
      obtain ⟨b2, o2, e2, l2, f2⟩ := HH.out.1 (by rintro rfl; simp at hk2)
      subst e2
      have hbw : Below w.heap.size w wr := BW.out.trans (Below.mono HS.out.below BW.out.size)
      have g2 := (hbw.cell (p := ⟨b2, o2 + k, none⟩) l2).trans (f2 k hk2)
      obtain ⟨X, hX⟩ : ∃ X, X = ks[k] := ⟨_, rfl⟩
      rw [← hX] at g2
      have hXs : X.size ≤ 1000000 := by rw [hX]; exact HH.out.2.2 _ (List.getElem_mem hk2)
      have HX := Lib.hid (And.intro hX hXs)
      have OK := Lib.hid HS.out.own
      have BK := Lib.hid HS.out.below
      clear hX hXs f2 hbw
      go_wp2_with fail
      refine (ref_Text X HX.out.2 wr).mono ?_
      rintro e V5 ⟨g5, L5, c5, rfl, hown, hb⟩
      have hl5 : L5 ≤ 1000010 := by have := own_len hown; have := txt_len HX.out.2; simp only [txt] at this; omega
      have OC5 : Hid (V5.ownsRow wr.heap.size 5 1 (.slice (some ⟨g5, 0, none⟩) L5 c5) L5 ((txt X).map enc)) := Lib.hid hown
      have OO5 := Lib.hid (own_below OK.out hb)
      have BB5 := Lib.hid (BK.out.trans (Below.mono hb BK.out.size))
      clear hown hb g2 x3
      go_wp2_with (first | (at_builtin; refine wpList_append_has rfl (.tmp 35) (.tmp 41) 29 rfl W0.heap.size 5 i0 Tryd.underlying29 hi hz0 hz1 hz2 _ (L) (vb acl ++ vb asq ++ vb akd ++ vb M ++ keysTo ks k) rfl OO5.out _ _ L5 c5 (txt X) rfl (own_len OC5.out) (HasA.of_own OC5.out) (by omega) BB5.out.size ?_; intro u5 U5 hown hg; have hb2 : Below W0.heap.size W0 U5 := BB5.out.grown hg BB5.out.size (fun k e => (OO5.out.lt k e).1); have O5 := Lib.hid hown; have B5 := Lib.hid hb2; clear hown hg hb2) | fail)
      exact ⟨⟨k + 1, L + L5, by omega, by congr 1, by omega, Lib.hid ⟨by rw [keysTo_succ hk2, ← HX.out.1, ← List.append_assoc]; exact O5.out, B5.out⟩⟩, by simp only [intOf]; omega⟩
    · obtain rfl : k = M := by omega
      have hki : ¬ (k : Int) < k := by omega
      have x4 := (HS.out.below.cell (p := ⟨p, 4, none⟩) LP.out).trans (FF.out 4 _ rfl)
      have hLL : L ≤ 2000000000 := by omega
      have OK := Lib.hid HS.out.own
      have BK := Lib.hid HS.out.below
      clear hlt
      go_wp2_with fail
      refine (ref_Text old ho wr).mono ?_
      rintro e V6 ⟨g6, L6, c6, rfl, hown, hb⟩
      have hl6 : L6 ≤ 1000010 := by have := own_len hown; have := txt_len ho; simp only [txt] at this; omega
      have OC6 : Hid (V6.ownsRow wr.heap.size 5 1 (.slice (some ⟨g6, 0, none⟩) L6 c6) L6 ((txt old).map enc)) := Lib.hid hown
      have OO6 := Lib.hid (own_below OK.out hb)
      have BB6 := Lib.hid (BK.out.trans (Below.mono hb BK.out.size))
      clear hown hb x3 x4
      go_wp2_with (first | (at_builtin; refine wpList_append_has rfl (.tmp 43) (.tmp 46) 29 rfl W0.heap.size 5 i0 Tryd.underlying29 hi hz0 hz1 hz2 _ (L) (vb acl ++ vb asq ++ vb akd ++ vb k ++ keysTo ks k) rfl OO6.out _ _ L6 c6 (txt old) rfl (own_len OC6.out) (HasA.of_own OC6.out) (by omega) BB6.out.size ?_; intro u6 U6 hown hg; have hb2 : Below W0.heap.size W0 U6 := BB6.out.grown hg BB6.out.size (fun k e => (OO6.out.lt k e).1); have x5 := (hb2.cell (p := ⟨p, 5, none⟩) LP.out).trans (FF.out 5 _ rfl); have O6 := Lib.hid hown; have B6 := Lib.hid hb2; clear hown hg hb2) | fail)
      refine (ref_Text new hn U6).mono ?_
      rintro e V7 ⟨g7, L7, c7, rfl, hown, hb⟩
      have hl7 : L7 ≤ 1000010 := by have := own_len hown; have := txt_len hn; simp only [txt] at this; omega
      have OC7 : Hid (V7.ownsRow U6.heap.size 5 1 (.slice (some ⟨g7, 0, none⟩) L7 c7) L7 ((txt new).map enc)) := Lib.hid hown
      have OO7 := Lib.hid (own_below O6.out hb)
      have BB7 := Lib.hid (B6.out.trans (Below.mono hb B6.out.size))
      clear hown hb x5
      go_wp2_with (first | (at_builtin; refine wpList_append_has rfl (.tmp 48) (.tmp 51) 29 rfl W0.heap.size 5 i0 Tryd.underlying29 hi hz0 hz1 hz2 _ (L + L6) (vb acl ++ vb asq ++ vb akd ++ vb k ++ keysTo ks k ++ txt old) rfl OO7.out _ _ L7 c7 (txt new) rfl (own_len OC7.out) (HasA.of_own OC7.out) (by omega) BB7.out.size ?_; intro u7 U7 hown hg; have hb2 : Below W0.heap.size W0 U7 := BB7.out.grown hg BB7.out.size (fun k e => (OO7.out.lt k e).1); have x6 := (hb2.cell (p := ⟨p, 6, none⟩) LP.out).trans (FF.out 6 _ rfl); have O7 := Lib.hid hown; have B7 := Lib.hid hb2; clear hown hg hb2) | fail)
      refine (ref_Int n HB64.out.1 HB64.out.2 U7).mono ?_
      rintro e V8 ⟨g8, L8, c8, rfl, hown, hb⟩
      have hl8 : L8 ≤ 10 := by have := own_len hown; have := vb_len10 (n := foldN n) (by have := foldN_lt HB64.out.1 HB64.out.2; omega); omega
      have OC8 := Lib.hid hown
      have OO8 := Lib.hid (own_below O7.out hb)
      have BB8 := Lib.hid (B7.out.trans (Below.mono hb B7.out.size))
      clear hown hb x6
      go_wp2_with (first | (at_builtin; refine wpList_append_has rfl (.tmp 53) (.tmp 56) 29 rfl W0.heap.size 5 i0 Tryd.underlying29 hi hz0 hz1 hz2 _ (L + L6 + L7) (vb acl ++ vb asq ++ vb akd ++ vb k ++ keysTo ks k ++ txt old ++ txt new) rfl OO8.out _ _ L8 c8 (vb (foldN n)) rfl (own_len OC8.out) (HasA.of_own OC8.out) (by omega) BB8.out.size ?_; intro u8 U8 hown hg; have hb2 : Below W0.heap.size W0 U8 := BB8.out.grown hg BB8.out.size (fun k e => (OO8.out.lt k e).1); have O8 := Lib.hid hown; have B8 := Lib.hid hb2; clear hown hg hb2) | fail)
      go_ret
      have hkk : keysTo ks k = ks.flatMap txt := by unfold keysTo; rw [HH.out.2.1, List.take_length]
      have h8 := O8.out
      rw [hkk, HH.out.2.1] at h8
      rcases h8.2 with ⟨_, h2⟩ | ⟨g, cap, cur, e, hb, rest⟩
      · exfalso
        have := own_len OC8.out
        have := List.length_pos_iff.2 (vb_ne (foldN n))
        omega
      · subst e
        exact ⟨g, _, cap, rfl, ⟨h8.1, .inr ⟨g, cap, cur, rfl, Nat.le_trans BW.out.size hb, rest⟩⟩, BW.out.trans (Below.mono B8.out BW.out.size)⟩
end Go.Proofs.YtfaplmpenlbajaaDoor
