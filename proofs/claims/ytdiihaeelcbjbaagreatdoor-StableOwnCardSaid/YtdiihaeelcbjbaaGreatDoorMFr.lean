/- The contract of frame.sumOf: the checksum's four bytes, the lowest first, as an array. The contracts of slices.Grow of nothing, and of slices.Concat of four slices of bytes. The contract of frame.Put. The contract of frame.lengthOf: the length that bytes begin with, if a frame may have it. The statements of frame.first that copy the sum and that hold it against the contents' own, whatever their order of evaluation. The contract of frame.first: the frame with which bytes begin. The statements that hold two rows of slices against each other, whatever their order of evaluation. Steps on the part of a frame; slices.Clone as a slice of bytes. frame.frames: what its rounds keep, and what it owes to the loop over it. The statement of frame.All that appends a frame's contents, whatever its order of evaluation. The contract of frame.All. -/
import Derived.Test.YtdiihaeelcbjbaaGreatDoorMRefF
import Derived.Test.YtdiihaeelcbjbaaGreatDoorMCrc
import Derived.Test.YtdiihaeelcbjbaaGreatDoorMVar
import Derived.Lib.AppendZerosOnto
import Derived.Test.YtdiihaeelcbjbaaGreatDoorMBase
import Derived.Test.YtdiihaeelcbjbaaGreatDoorSameT
import Derived.Test.YtdiihaeelcbjbaaGreatDoorConcat
import Derived.Laws.StructEq
import Derived.Laws.Tables
import Derived.Laws.Cover2
import Derived.WalkMore
-- FrSum
namespace Go.Proofs.YtdiihaeelcbjbaaGreatDoor
open Go.RowKit

/-- The four bytes of a sum as an array's value. -/
def sumV (s : Nat) : Value := .agg #[.int .u8 ((s : Int) % 256), .int .u8 ((s : Int) / 256 % 256), .int .u8 ((s : Int) / 65536 % 256), .int .u8 ((s : Int) / 16777216)]
/-- The bytes that are there behind k rounds. -/
def sumC (s k : Nat) : Array Value := #[.int .u8 (if 0 < k then (s : Int) % 256 else 0), .int .u8 (if 1 < k then (s : Int) / 256 % 256 else 0), .int .u8 (if 2 < k then (s : Int) / 65536 % 256 else 0), .int .u8 (if 3 < k then (s : Int) / 16777216 else 0)]
/-- What the loop keeps: both arrays. -/
def SK (w : World) (s k : Nat) (W : World) : Prop := Below w.heap.size w W ∧ W.heap[w.heap.size]? = some (.cells (sumC s 0) 173 (0, 0)) ∧ W.heap[w.heap.size + 1]? = some (.cells (sumC s k) 173 (0, 0))
theorem SK.step {w W : World} {s k : Nat} {u : Int} (h : SK w s k W) (_hk : k < 4) (hu : (sumC s k).setIfInBounds k (.int .u8 u) = sumC s (k + 1)) : SK w s (k + 1) (W.setCell ⟨w.heap.size + 1, k, none⟩ (.int .u8 u)) := by
  obtain ⟨h1, h2, h3⟩ := h
  refine ⟨h1.setCell (p := ⟨w.heap.size + 1, k, none⟩) (by simp) _, (Below.heap_setCell _ _ _ _ (by simp)).trans h2, ?_⟩
  rw [blk_set h3, hu]

set_option maxHeartbeats 1000000 in
theorem sumOf_any (A : Option Addr) (L c : Nat) (bs : List UInt8) (hL : L = bs.length) (hlen : L ≤ 1000000) (w : World) (hT : Tab w) (hA : HasA w w.heap.size A bs) :
    Calls Tryz.prog 120 #[.slice A L c] w fun e w' => e = .returned (sumV (crcSum bs)) ∧ Below w.heap.size w w' := by
  have HL := Lib.hid hL
  have HA := Lib.hid hA
  have HT := Lib.hid hT
  clear hL hA hT
  go_enter Tryz.func120, Tryz.ntmps120
  go_wp2_with fail
  have hb0 : Below w.heap.size w ((w.alloc (.cells (sumC 0 0) 173)).alloc (.cells (sumC 0 0) 173)) := ((Below.refl _ _).alloc (Nat.le_refl _) _).alloc (by simp) _
  refine (Sum_any A L c bs HL.out (by omega) _ (HT.out.grew hb0) (HA.out.below' hb0)).mono ?_
  rintro e W1 ⟨rfl, hg1⟩
  obtain ⟨s, hs⟩ : ∃ s, s = crcSum bs := ⟨_, rfl⟩
  have hsl : s < 4294967296 := by rw [hs]; exact crcSum_lt bs
  have HS := Lib.hid hs
  have hk0 : SK w s 0 W1 := by
    refine ⟨hb0.trans (Below.mono hg1 (by simp; omega)), (Below.block hg1 w.heap.size (by simp; omega)).trans ((Below.heap_alloc _ _ _ (by simp)).trans (World.alloc_heap_new w _)), (Below.block hg1 (w.heap.size + 1) (by simp)).trans ?_⟩
    have := World.alloc_heap_new (w.alloc (.cells (sumC 0 0) 173)) (.cells (sumC 0 0) 173)
    rwa [World.size_alloc] at this
  have HK0 := Lib.hid hk0
  rw [← hs]
  clear hs hg1 hb0 hk0
  go_wp2
  go_loopw [8] (fun i wr => ∃ k : Nat, k ≤ 4 ∧ i = .int .i64 k ∧ Hid (SK w s k wr)) (fun i _ => 4 - (intOf i).toNat)
  case atStart =>
    exact ⟨0, Nat.zero_le _, rfl, HK0.out⟩
  case round =>
    obtain ⟨k, hk, rfl, hsk⟩ := hrel
    obtain ⟨-, hb1, hb2⟩ := hsk.out
    have b0 := blk_cell hb2 0
    have b1 := blk_cell hb2 1
    have b2 := blk_cell hb2 2
    have b3 := blk_cell hb2 3
    have z0 := blk_frozen hb2 0
    have z1 := blk_frozen hb2 1
    have z2 := blk_frozen hb2 2
    have z3 := blk_frozen hb2 3
    simp [sumC] at b0 b1 b2 b3
    have c0 := blk_cell hb1 0
    have c1 := blk_cell hb1 1
    have c2 := blk_cell hb1 2
    have c3 := blk_cell hb1 3
    have y0 := blk_frozen hb1 0
    have y1 := blk_frozen hb1 1
    have y2 := blk_frozen hb1 2
    have y3 := blk_frozen hb1 3
    simp [sumC] at c0 c1 c2 c3
    clear hb1 hb2
    rcases k with _ | _ | _ | _ | _ | k
    · simp at b0 b1 b2 b3
      go_wp2
      exact ⟨⟨1, by omega, rfl, hsk.out.step (by omega) rfl⟩, by simp [intOf]⟩
    · simp at b0 b1 b2 b3
      go_wp2
      exact ⟨⟨2, by omega, rfl, hsk.out.step (by omega) rfl⟩, by simp [intOf]⟩
    · simp at b0 b1 b2 b3
      go_wp2
      exact ⟨⟨3, by omega, rfl, hsk.out.step (by omega) rfl⟩, by simp [intOf]⟩
    · simp at b0 b1 b2 b3
      go_wp2
      exact ⟨⟨4, by omega, rfl, hsk.out.step (by omega) rfl⟩, by simp [intOf]⟩
    · simp at b0 b1 b2 b3
      go_wp2
      have hfin := blk_set (blk_set (blk_set (blk_set hsk.out.2.1 0 (.int .u8 ((s : Int) % 256))) 1 (.int .u8 ((s : Int) / 256 % 256))) 2 (.int .u8 ((s : Int) / 65536 % 256))) 3 (.int .u8 ((s : Int) / 16777216))
      have hB2 : Below w.heap.size w ((((wr.setCell ⟨w.heap.size, 0, none⟩ (.int .u8 ((s : Int) % 256))).setCell ⟨w.heap.size, 1, none⟩ (.int .u8 ((s : Int) / 256 % 256))).setCell ⟨w.heap.size, 2, none⟩ (.int .u8 ((s : Int) / 65536 % 256))).setCell ⟨w.heap.size, 3, none⟩ (.int .u8 ((s : Int) / 16777216))) :=
        (((hsk.out.1.setCell (p := ⟨w.heap.size, 0, none⟩) (Nat.le_refl _) _).setCell (p := ⟨w.heap.size, 1, none⟩) (Nat.le_refl _) _).setCell (p := ⟨w.heap.size, 2, none⟩) (Nat.le_refl _) _).setCell (p := ⟨w.heap.size, 3, none⟩) (Nat.le_refl _) _
      obtain ⟨W2, hW2⟩ : ∃ W2, W2 = (((wr.setCell ⟨w.heap.size, 0, none⟩ (.int .u8 ((s : Int) % 256))).setCell ⟨w.heap.size, 1, none⟩ (.int .u8 ((s : Int) / 256 % 256))).setCell ⟨w.heap.size, 2, none⟩ (.int .u8 ((s : Int) / 65536 % 256))).setCell ⟨w.heap.size, 3, none⟩ (.int .u8 ((s : Int) / 16777216)) := ⟨_, rfl⟩
      rw [← hW2] at hfin hB2 ⊢
      have d0 := blk_cell hfin 0
      have d1 := blk_cell hfin 1
      have d2 := blk_cell hfin 2
      have d3 := blk_cell hfin 3
      simp [sumC] at d0 d1 d2 d3
      clear hW2 b0 b1 b2 b3 z0 z1 z2 z3 c0 c1 c2 c3 y0 y1 y2 y3
      exact bodyPost_ret (v := sumV s) (by simp [results, Tryz.results120, go_sem, sumV, d0, d1, d2, d3]) rfl ⟨by rw [HS.out], hB2⟩
    · omega
end Go.Proofs.YtdiihaeelcbjbaaGreatDoor

-- FrPut
namespace Go.Proofs.YtdiihaeelcbjbaaGreatDoor
open Go.RowKit

theorem leB4' (s : Nat) : leB 4 s = [UInt8.ofNat (s % 256), UInt8.ofNat (s / 256 % 256), UInt8.ofNat (s / 256 / 256 % 256), UInt8.ofNat (s / 256 / 256 / 256 % 256)] := rfl
theorem enc_of {n : Nat} (h : n < 256) : enc (UInt8.ofNat n) = .int .u8 (n : Int) := enc_ofNat h
/-- The array of a sum is the sum's four bytes. -/
theorem sumC_leB (s : Nat) (hs : s < 4294967296) : sumC s 4 = ((leB 4 s).map enc).toArray := by
  rw [leB4', List.map_cons, List.map_cons, List.map_cons, List.map_cons, List.map_nil, enc_of (by omega), enc_of (by omega), enc_of (by omega), enc_of (by omega)]
  have e1 : ((s : Int) / 256 % 256) = ((s / 256 % 256 : Nat) : Int) := by omega
  have e2 : ((s : Int) / 65536 % 256) = ((s / 256 / 256 % 256 : Nat) : Int) := by omega
  have e3 : ((s : Int) / 16777216) = ((s / 256 / 256 / 256 % 256 : Nat) : Int) := by omega
  have e0 : ((s : Int) % 256) = ((s % 256 : Nat) : Int) := by omega
  simp only [sumC, if_pos (show 0 < 4 by omega), if_pos (show 1 < 4 by omega), if_pos (show 2 < 4 by omega), if_pos (show 3 < 4 by omega), e0, e1, e2, e3]
theorem HasA.blk {w : World} {b : Nat} {bs : List UInt8} {t : TypeId} (h : w.heap[b]? = some (.cells (bs.map enc).toArray t (0, 0))) : HasA w w.heap.size (some ⟨b, 0, none⟩) bs := fun _ =>
  ⟨b, 0, rfl, (Array.getElem?_eq_some_iff.1 h).1, fun i hi => by rw [Nat.zero_add, blk_cell h]; simp [hi]⟩

set_option maxHeartbeats 2000000 in
theorem put_any : PutSpec := by
  intro A L c bs A2 L2 c2 x w hL hl hlc hL2 hl2 hlc2 hT hA hA2
  have HL := Lib.hid hL
  have HL2 := Lib.hid hL2
  have HA := Lib.hid hA
  have HA2 := Lib.hid hA2
  have HT := Lib.hid hT
  have hli : (L : Int) ≤ 200000 := by omega
  have hli2 : (L2 : Int) ≤ 200000 := by omega
  by_cases hf : Fit x
  · have hf1 : (1 : Int) ≤ L2 := by have := hf.1; omega
    have hf2 : (L2 : Int) ≤ 65536 := by have := hf.2; omega
    have hfb : ((L2 : Int) == 0) = false := by simp; omega
    have HF := Lib.hid hf
    clear hL hL2 hA hA2 hT hf
    go_enter Tryz.func100, Tryz.ntmps100
    go_wp2_with fail
    refine (Uint_any none [] 0 0 L2 rfl (by omega) (by simp) w (HasA.nil _ _ _)).mono ?_
    rintro e W1 ⟨g, L3, c3, rfl, hown1, hb1⟩
    rw [List.nil_append] at hown1
    have HO1 := Lib.hid hown1
    have B1 := Lib.hid hb1
    clear hown1 hb1
    go_wp2_with fail
    refine (sumOf_any A2 L2 c2 x HL2.out (by omega) W1 (HT.out.grew B1.out) (HA2.out.below' B1.out)).mono ?_
    rintro e W2 ⟨rfl, hb2⟩
    have HO2 := Lib.hid (own_below HO1.out hb2)
    have B2 := Lib.hid (B1.out.trans (Below.mono hb2 B1.out.size))
    obtain ⟨s, hs⟩ : ∃ s, s = crcSum x := ⟨_, rfl⟩
    have HS := Lib.hid hs
    rw [← hs, sumV]
    clear hb2 hs HO1 B1
    go_wp2_with fail
    have hsl : s < 4294967296 := by rw [HS.out]; exact crcSum_lt x
    have hsum := sumC_leB s hsl
    obtain ⟨o1, ho1⟩ : ∃ o1, o1 = Obj.cells ((leB 4 s).map enc).toArray 173 := ⟨_, rfl⟩
    have ho1' : Obj.cells #[Value.int IntKind.u8 ((s : Int) % 256), Value.int IntKind.u8 ((s : Int) / 256 % 256), Value.int IntKind.u8 ((s : Int) / 65536 % 256), Value.int IntKind.u8 ((s : Int) / 16777216)] 173 = o1 := by
      rw [ho1, ← hsum]; rfl
    rw [ho1']
    obtain ⟨W3, hW3⟩ : ∃ W3, W3 = (W2.alloc o1).alloc (Obj.cells #[Value.slice A L c, Value.slice (some ⟨g, 0, none⟩) L3 c3, Value.slice (some ⟨W2.heap.size, 0, none⟩) 4 4, Value.slice A2 L2 c2] 39) := ⟨_, rfl⟩
    rw [← hW3]
    have hz3 : W3.heap.size = W2.heap.size + 2 := by rw [hW3]; simp
    have hB23 : Below W2.heap.size W2 W3 := by rw [hW3]; exact ((Below.refl _ _).alloc (Nat.le_refl _) _).alloc (by simp) _
    have hB3 : Below w.heap.size w W3 := B2.out.trans (Below.mono hB23 B2.out.size)
    have hk1 : W3.heap[W2.heap.size]? = some o1 := by rw [hW3]; exact (Below.heap_alloc _ _ _ (by simp)).trans (World.alloc_heap_new W2 _)
    have hk2 : W3.heap[W2.heap.size + 1]? = some (Obj.cells #[Value.slice A L c, Value.slice (some ⟨g, 0, none⟩) L3 c3, Value.slice (some ⟨W2.heap.size, 0, none⟩) 4 4, Value.slice A2 L2 c2] 39) := by
      rw [hW3]; have := World.alloc_heap_new (W2.alloc o1) (Obj.cells #[Value.slice A L c, Value.slice (some ⟨g, 0, none⟩) L3 c3, Value.slice (some ⟨W2.heap.size, 0, none⟩) 4 4, Value.slice A2 L2 c2] 39); rwa [World.size_alloc] at this
    rw [ho1] at hk1
    have HO3 := Lib.hid (own_below HO2.out hB23)
    have hv10 := vb_len10 (n := L2) (by omega)
    have hxl := HL2.out
    have hbl := HL.out
    have hf1' := HF.out.1
    have hxs : ([bs, vb L2, leB 4 s, x] : List (List UInt8)).flatten = bs ++ frm x := by
      rw [frm, body, ← HS.out, ← HL2.out]; simp
    have hfl : (frm x).length = (vb L2).length + (4 + x.length) := by rw [frm_length, ← HL2.out]
    refine (Concat_any (W2.heap.size + 1) 4 4 [bs, vb L2, leB 4 s, x] rfl (by omega) (by omega) (by rw [hxs, List.length_append]; omega) (by rw [hxs, List.length_append]; omega) W3 (by omega) ?_).mono ?_
    · intro i hi
      rcases i with _ | _ | _ | _ | i
      · exact ⟨A, L, c, blk_cell hk2 0, HL.out, HA.out.below' hB3⟩
      · exact ⟨some ⟨g, 0, none⟩, L3, c3, blk_cell hk2 1, own_len HO3.out, HasA.of_own HO3.out⟩
      · exact ⟨some ⟨W2.heap.size, 0, none⟩, 4, 4, blk_cell hk2 2, (leB_length 4 s).symm, HasA.blk hk1⟩
      · exact ⟨A2, L2, c2, blk_cell hk2 3, HL2.out, HA2.out.below' hB3⟩
      · simp at hi; omega
    rw [hxs]
    rintro e W4 ⟨g4, L4, c4, rfl, hown4, hb4⟩
    have HO4 := Lib.hid (own_base hown4 hB3.size)
    have B4 := Lib.hid (hB3.trans (Below.mono hb4 hB3.size))
    clear hown4 hb4 hk1 hk2 hW3 hz3 hB23 hB3 hxs hfl ho1 ho1' hsum hv10 hxl hbl
    go_wp2
    go_ret2
    exact .inl ⟨HF.out, g4, L4, c4, rfl, HO4.out, B4.out⟩
  · have HF := Lib.hid hf
    have hff : L2 = 0 ∨ 65536 < L2 := by
      rcases Nat.eq_zero_or_pos L2 with h | h
      · exact .inl h
      · exact .inr (Classical.byContradiction fun hn => hf ⟨by omega, by omega⟩)
    clear hL hL2 hA2 hT hf
    rcases hff with h0 | h0
    · subst h0
      go_enter Tryz.func100, Tryz.ntmps100
      go_wp2_with fail
      refine (Clone_any A L c bs HL.out (by have := HL.out; omega) w hA).mono ?_
      rintro e W1 ⟨⟨A', c', rfl, hc', hd⟩, hB⟩
      go_wp2
      go_ret2
      exact .inr ⟨HF.out, _, rfl, ⟨A', L, c', rfl, HL.out, hd.has⟩, hB⟩
    · have hfb : ((L2 : Int) == 0) = false := by simp; omega
      have h0i : (65536 : Int) < L2 := by omega
      go_enter Tryz.func100, Tryz.ntmps100
      go_wp2_with fail
      refine (Clone_any A L c bs HL.out (by have := HL.out; omega) w hA).mono ?_
      rintro e W1 ⟨⟨A', c', rfl, hc', hd⟩, hB⟩
      go_wp2
      go_ret2
      exact .inr ⟨HF.out, _, rfl, ⟨A', L, c', rfl, HL.out, hd.has⟩, hB⟩
end Go.Proofs.YtdiihaeelcbjbaaGreatDoor

-- FrLen
namespace Go.Proofs.YtdiihaeelcbjbaaGreatDoor
open Go.RowKit

/-- Ten bytes are enough to read a number. -/
theorem rd_take : ∀ (f i acc : Nat) (bs : List UInt8), (∀ n r, rd f i acc bs = .ok n r → ∃ r', rd f i acc (bs.take f) = .ok n r') ∧ (rd f i acc bs = .short → rd f i acc (bs.take f) = .short) ∧ (∀ r, rd f i acc bs = .form r → ∃ r', rd f i acc (bs.take f) = .form r')
  | 0, i, acc, bs => by simp [rd]
  | f + 1, i, acc, [] => by simp [rd]
  | f + 1, i, acc, c :: bs => by
    rw [List.take_succ_cons, rd, rd]
    by_cases h1 : (0 < i ∧ c.toNat = 0) ∨ (i = 9 ∧ 1 < c.toNat)
    · rw [if_pos h1, if_pos h1]; simp
    · rw [if_neg h1, if_neg h1]
      by_cases h2 : c.toNat < 128
      · rw [if_pos h2, if_pos h2]; simp
      · rw [if_neg h2, if_neg h2]
        exact rd_take f (i + 1) _ bs

def LenPost (w : World) (bs : List UInt8) (e : Ending) (W' : World) : Prop :=
  Below w.heap.size w W' ∧ ((∃ n rest, rdU bs = .ok n rest ∧ 1 ≤ n ∧ n ≤ 65536 ∧ e = .returned (.tuple #[.int .i64 (n : Int), .int .i64 0])) ∨
    (∃ k : Nat, tk bs = .err k ∧ k ≠ 0 ∧ e = .returned (.tuple #[.int .i64 0, .int .i64 (k : Int)])))

set_option maxHeartbeats 2000000 in
theorem lengthOf_cut (A : Option Addr) (L M c : Nat) (bs : List UInt8) (hL : L = bs.length) (hlen : L ≤ 1000000) (hcap : L ≤ c) (hM : M = min L 10) (w : World) (hA : HasA w w.heap.size A bs) :
    Calls Tryz.prog 137 #[.slice A L c] w (LenPost w bs) := by
  have hcs : bs.take 10 = bs.take M := by
    rw [hM, hL]
    rcases Nat.le_total bs.length 10 with h | h
    · rw [Nat.min_eq_left h, List.take_of_length_le h, List.take_of_length_le (Nat.le_refl _)]
    · rw [Nat.min_eq_right h]
  have hml : M = (bs.take 10).length := by rw [hM, List.length_take, hL, Nat.min_comm]
  have HML := Lib.hid hml
  have HA := Lib.hid (show HasA w w.heap.size A (bs.take 10) by rw [hcs]; exact hA.take M)
  have hm10 : M ≤ 10 := by rw [hM]; exact Nat.min_le_right _ _
  have hmi : (M : Int) ≤ 10 := by omega
  have hmc : (M : Int) ≤ c := by have := Nat.min_le_left L 10; omega
  have hmin : min (L : Int) 10 = (M : Int) := by omega
  have hli : (L : Int) ≤ 1000000 := by omega
  have hrd := rd_take 10 0 0 bs
  have HR := Lib.hid hrd
  clear hcs hml hL hA hM hrd
  go_enter Tryz.func137, Tryz.ntmps137
  go_wp2_with fail
  refine (New_any A M c 0 (bs.take 10) HML.out (by have := HML.out; omega) w HA.out).mono ?_
  rintro e W1 ⟨R, rfl, hR1, hRw, hB1⟩
  have HR1 := Lib.hid hR1
  have B1 := Lib.hid hB1
  clear hR1 hB1 hmin hmc
  go_wp2_with fail
  refine ((callsIn_wide (n := 3)).1 (UintR_in 3 (by omega) W1 R 0 (bs.take 10) HR1.out)).mono ?_
  rintro e W2 ⟨hg2, hcase⟩
  have B2 := Lib.hid (below_grown B1.out B1.out.size hRw hg2)
  clear hg2
  cases hr : rdU bs with
  | short =>
    rcases hcase with ⟨m, r, rfl, h1, h2⟩ | ⟨rfl, h1, h2⟩ | ⟨r, rfl, h1, h2⟩
    · exact absurd (h1.symm.trans (HR.out.2.1 hr)) (by simp)
    · have HT := Lib.hid (tk_of_short hr)
      have H2 := Lib.hid h2
      clear hr h1 h2
      go_wp2_with (go_at_call 94; refine (Err_any R 10 0 _ _ H2.out).mono ?_; rintro e w' ⟨rfl, rfl⟩)
      go_ret2
      exact ⟨B2.out, .inr ⟨10, HT.out, by omega, rfl⟩⟩
    · exact absurd (h1.symm.trans (HR.out.2.1 hr)) (by simp)
  | form r =>
    obtain ⟨r', hr'⟩ := HR.out.2.2 r hr
    rcases hcase with ⟨m, r, rfl, h1, h2⟩ | ⟨rfl, h1, h2⟩ | ⟨r, rfl, h1, h2⟩
    · exact absurd (h1.symm.trans hr') (by simp)
    · exact absurd (h1.symm.trans hr') (by simp)
    · have HT := Lib.hid (tk_of_form hr)
      have H2 := Lib.hid h2
      clear hr h1 h2 hr'
      go_wp2_with (go_at_call 94; refine (Err_any R 11 0 _ _ H2.out).mono ?_; rintro e w' ⟨rfl, rfl⟩)
      go_ret2
      exact ⟨B2.out, .inr ⟨11, HT.out, by omega, rfl⟩⟩
  | ok n rest =>
    obtain ⟨r', hr'⟩ := HR.out.1 n rest hr
    rcases hcase with ⟨m, r, rfl, h1, h2⟩ | ⟨rfl, h1, h2⟩ | ⟨r, rfl, h1, h2⟩
    · have h3 : m = n := by have := h1.symm.trans hr'; injection this
      subst h3
      have HT := Lib.hid (tk_of_ok hr)
      have HO := Lib.hid hr
      have H2 := Lib.hid h2
      clear hr h1 h2 hr'
      by_cases hn : 1 ≤ m ∧ m ≤ 65536
      · obtain ⟨hn1, hn2⟩ := hn
        have hz : ((m : Int) == 0) = false := by simp; omega
        have hn2i : ¬ (65536 : Int) < m := by omega
        go_wp2_with (go_at_call 94; refine (Err_any R 0 0 _ _ H2.out).mono ?_; rintro e w' ⟨rfl, rfl⟩)
        go_ret2
        exact ⟨B2.out, .inl ⟨m, rest, HO.out, hn1, hn2, rfl⟩⟩
      · have HT2 := Lib.hid (HT.out.trans (show tkR m rest = .err 11 by unfold tkR; rw [if_pos (by omega)]))
        rcases Nat.eq_zero_or_pos m with h0 | h0
        · subst h0
          go_wp2_with (go_at_call 94; refine (Err_any R 0 0 _ _ H2.out).mono ?_; rintro e w' ⟨rfl, rfl⟩)
          go_ret2
          exact ⟨B2.out, .inr ⟨11, HT2.out, by omega, rfl⟩⟩
        · have hz : ((m : Int) == 0) = false := by simp; omega
          have hn2i : (65536 : Int) < m := by omega
          clear hn
          go_wp2_with (go_at_call 94; refine (Err_any R 0 0 _ _ H2.out).mono ?_; rintro e w' ⟨rfl, rfl⟩)
          go_ret2
          exact ⟨B2.out, .inr ⟨11, HT2.out, by omega, rfl⟩⟩
    · exact absurd (h1.symm.trans hr') (by simp)
    · exact absurd (h1.symm.trans hr') (by simp)
theorem lengthOf_any (A : Option Addr) (L c : Nat) (bs : List UInt8) (hL : L = bs.length) (hlen : L ≤ 1000000) (hcap : L ≤ c) (w : World) (hA : HasA w w.heap.size A bs) :
    Calls Tryz.prog 137 #[.slice A L c] w (LenPost w bs) := lengthOf_cut A L _ c bs hL hlen hcap rfl w hA
end Go.Proofs.YtdiihaeelcbjbaaGreatDoor

-- FrFirstR
namespace Go.Proofs.YtdiihaeelcbjbaaGreatDoor
open Go.RowKit

/-- Four bytes are copied into an array. -/
theorem copy4 (w : World) (g : Nat) (t : TypeId) (c b o : Nat) (ys : List UInt8) (cur : Array Value) (hy : ys.length = 4) (hz : cur.size = 4) (hg : w.heap[g]? = some (.cells cur t (0, 0))) {B : Nat} (hs : HasA w B (some ⟨b, o, none⟩) ys) :
    ∃ w', (∀ ty, (Builtin.copy_ #[39, 39] ty #[.slice (some ⟨g, 0, none⟩) 4 4, .slice (some ⟨b, o, none⟩) 4 c]).run Tryz.prog w = .ok (.int .i64 4) w') ∧ w'.heap[g]? = some (.cells (ys.map enc).toArray t (0, 0)) ∧ w.grownBy w' (some g) := by
  have h := fun ty => run_copy_row (P := Tryz.prog) w 39 39 ty 5 g 0 4 4 ⟨b, o, none⟩ 4 c cur t (ys.map enc) Tryz.underlying39 size5 hg (by simp [hy]) (hs.src rfl) (by simp [hy, hz]) (encs_one ys)
  have e : (cur.toList.take 0 ++ ys.map enc ++ cur.toList.drop (0 + (ys.map enc).length)).toArray = (ys.map enc).toArray := by
    rw [List.take_zero, List.nil_append, List.drop_of_length_le (by simp [hy, hz]), List.append_nil]
  rw [e] at h
  refine ⟨w.setRow g (ys.map enc).toArray, fun ty => by rw [h ty]; simp [hy, goInt], setRow_heap w g cur _ t _ hg, ⟨rfl, rfl, rfl, by simp, fun k _ hk => setRow_other w g k _ (fun e => hk (by simp [e]))⟩⟩

/-- Nothing but block D changes, and D stays an array of four; once it holds the bytes it goes on to. -/
def RC (D : Nat) (ys : List UInt8) (x y : World) : Prop :=
  x.grownBy y (some D) ∧ ((∃ cur : Array Value, cur.size = 4 ∧ x.heap[D]? = some (.cells cur 173 (0, 0))) → ∃ cur : Array Value, cur.size = 4 ∧ y.heap[D]? = some (.cells cur 173 (0, 0))) ∧
  (x.heap[D]? = some (.cells (ys.map enc).toArray 173 (0, 0)) → y.heap[D]? = some (.cells (ys.map enc).toArray 173 (0, 0)))
theorem RC.refl (D : Nat) (ys : List UInt8) (w : World) : RC D ys w w := ⟨grownBy_refl _ _, id, id⟩
theorem RC.trans {D : Nat} {ys : List UInt8} {x y z : World} (h : RC D ys x y) (k : RC D ys y z) : RC D ys x z := ⟨grownBy_trans h.1 k.1, fun e => k.2.1 (h.2.1 e), fun e => k.2.2 (h.2.2 e)⟩

section
variable {n : Nat} {ops : Array Oper} {i : Nat} {o : Oper} {a : Act} {w : World} {K : Act → World → Prop} {Q : Exit → Act → World → Prop}
theorem step_whole {t : TypeId} {x : Operand} {vx v : Value} (hi : ops[i]? = some o) (hw : Region.wanted o (yielded ops a.tmps) = true) (ho : o.op = .slice t x none none none) (hx : a.eval x = vx) (hr : (Instr.sliceAt t vx none none none).run Tryz.prog w = .ok v w) (h : K (a.put o.dst v) w) : wpOpIn Fence.wide n Tryz.prog ops Q i K a w :=
  step_run hi hw (by rw [ho]; intro c h; cases h) (by simp [Oper.about, ho]) (by simp [execOp, ho, hx, hr]) h
theorem step_builtin2 {x y : Operand} {ts : Array TypeId} {vx vy : Value} (hi : ops[i]? = some o) (hw : Region.wanted o (yielded ops a.tmps) = true) (ho : o.op = .call { callee := .builtin .copy, args := #[x, y], argTypes := ts }) (hx : a.eval x = vx) (hy : a.eval y = vy)
    (h : ∃ v w', (Builtin.copy_ ts o.type #[vx, vy]).run Tryz.prog w = .ok v w' ∧ K (a.put o.dst v) w') : wpOpIn Fence.wide n Tryz.prog ops Q i K a w := by
  obtain ⟨v, w', hr, h⟩ := h
  refine step_run hi hw (by rw [ho]; intro c h; cases h) (by simp [Oper.about, ho, resolve, Target.leads, Sem.run_pure]) (v := v) (w' := w') ?_ h
  unfold execOp
  simp only [ho, resolve, invoke, builtin, Sem.run_bind, Sem.run_pure, Result.andThen_ok, List.map_toArray, List.map_cons, List.map_nil, hx, hy, hr]
theorem step_ret {f : FuncId} {xs : Array Operand} {ts : Array TypeId} {vs : Array Value} {v : Value} (hi : ops[i]? = some o) (hw : Region.wanted o (yielded ops a.tmps) = true)
    (ho : o.op = .call { callee := .value (.func f), args := xs, argTypes := ts }) (eg : ∀ args w, (callFunc f args).run Tryz.prog w = .ok (.enter f args) w) (hxs : xs.map a.eval = vs) (hc : Calls Tryz.prog f vs w fun e w' => e = .returned v ∧ Below w.heap.size w w')
    (h : ∀ w', Grew w w' → K (a.put o.dst v) w') : wpOpIn Fence.wide n Tryz.prog ops Q i K a w := by
  refine step_call hi hw ho trivial (fun h => by cases h) eg ?_
  rw [hxs]
  refine (callsIn_wide.2 hc).mono ?_
  rintro e w' ⟨rfl, hb⟩
  exact ⟨_, rfl, h _ hb⟩
end
theorem run_whole4 (w : World) (D : Nat) : (Instr.sliceAt 173 (.pointer (some ⟨D, 0, none⟩)) none none none).run Tryz.prog w = .ok (.slice (some ⟨D, 0, none⟩) 4 4) w := by
  simp [go_sem]
theorem run_sub4 (w : World) (t : TypeId) (k : Nat) (h : k ≤ 1000000) : (binOp .sub t (.int .i64 ((k : Int) + 4)) (.int .i64 4)).run Tryz.prog w = .ok (.int .i64 (k : Int)) w := by
  have e : IntKind.i64.wrap ((k : Int) + 4 - 4) = k := by rw [IntKind.wrap_i64]; omega
  have e2 : IntKind.i64.wrap (k : Int) = k := by rw [IntKind.wrap_i64]; omega
  simp [go_sem, e2]
theorem run_four (w : World) (b o L c k : Nat) (h : k + 4 ≤ c) (h2 : k ≤ 1000000) : (Instr.sliceAt 39 (.slice (some ⟨b, o, none⟩) L c) (some (.int .i64 (k : Int))) (some (.int .i64 ((k : Int) + 4))) none).run Tryz.prog w = .ok (.slice (some ⟨b, o + k, none⟩) 4 (c - k)) w := by
  have h1 : (k : Int) + 4 ≤ c := by omega
  have h3 : (0 : Int) ≤ (k : Int) + 4 := by omega
  have h4 : ((k : Int) + 4).toNat = k + 4 := by omega
  have h5 : ¬ c = k := by omega
  simp [go_sem, h1, h3, h4, h5]
theorem ld4 (w : World) (D : Nat) (y0 y1 y2 y3 : Int) (h : w.heap[D]? = some (.cells #[.int .u8 y0, .int .u8 y1, .int .u8 y2, .int .u8 y3] 173 (0, 0))) :
    (Instr.loadAt 173 (.pointer (some ⟨D, 0, none⟩))).run Tryz.prog w = .ok (.agg #[.int .u8 y0, .int .u8 y1, .int .u8 y2, .int .u8 y3]) w := by
  have h0 := blk_cell h 0
  have h1 := blk_cell h 1
  have h2 := blk_cell h 2
  have h3 := blk_cell h 3
  simp at h0 h1 h2 h3
  simp [go_sem, h0, h1, h2, h3]
theorem eq4 (x0 x1 x2 x3 y0 y1 y2 y3 : Int) (w : World) : (Op.equalIn 10000 173 (.agg #[.int .u8 x0, .int .u8 x1, .int .u8 x2, .int .u8 x3]) (.agg #[.int .u8 y0, .int .u8 y1, .int .u8 y2, .int .u8 y3])).run Tryz.prog w = .ok (x0 == y0 && (x1 == y1 && (x2 == y2 && x3 == y3))) w := by
  have u3 := Tryz.underlying5
  have a3 := Tryz.isAgg5
  have z3 := Tryz.sizeOf5
  rw [show (10000 : Nat) = 9999 + 1 from rfl, Op.equalIn]
  simp only [Sem.run_bind, run_underlying Tryz.underlying173, Result.andThen_ok]
  simp only [Std.Legacy.Range.forIn_eq_forIn_range', Std.Legacy.Range.size, Nat.sub_zero, Nat.add_sub_cancel, Nat.div_one, List.range'_succ, List.range'_zero, List.forIn_cons, List.forIn_nil]
  go_simp
  by_cases h0 : x0 = y0 <;> by_cases h1 : x1 = y1 <;> by_cases h2 : x2 = y2 <;> by_cases h3 : x3 = y3 <;> simp [h0, h1, h2, h3]
def neB (y0 y1 y2 y3 : Int) (s : Nat) : Bool := !(y0 == (s : Int) % 256 && (y1 == (s : Int) / 256 % 256 && (y2 == (s : Int) / 65536 % 256 && y3 == (s : Int) / 16777216)))
theorem run_neB (w : World) (y0 y1 y2 y3 : Int) (s : Nat) : (binOp .neq 173 (.agg #[.int .u8 y0, .int .u8 y1, .int .u8 y2, .int .u8 y3]) (sumV s)).run Tryz.prog w = .ok (.bool (neB y0 y1 y2 y3 s)) w := by
  simp [go_sem, eq4, sumV, neB]
theorem noGuard4 : Tryz.prog.eqGuardType Tryz.prog.depth 173 = false := by kernel_rfl
theorem guard_agg (op : BinOp) (w : World) (x y : Operand) (s : Array Value) (u : Nat) : (eqGuard op 173 x y (.agg s) (sumV u)).run Tryz.prog w = .ok () w := by
  have h : Sem.run Tryz.prog program w = .ok Tryz.prog w := rfl
  cases op <;> simp [eqGuard, sumV, h]
def oFI90 (p : String) : Oper := { dst := some 32, op := Op.slice 173 (Operand.tmp 8) none none none, type := 39, pos := p, after := #[], guard := none }
def oFI91 (p : String) : Oper := { dst := some 33, op := Op.move (Operand.tmp 0), type := 39, pos := p, after := #[], guard := none }
def oFI92 (p : String) : Oper := { dst := some 34, op := Op.move (Operand.tmp 6), type := 3, pos := p, after := #[], guard := none }
def oFI93 (p : String) : Oper := { dst := some 35, op := Op.binOp BinOp.sub 3 (Operand.tmp 34) (Operand.const (Value.int IntKind.i64 4)) 3, type := 3, pos := p, after := #[{ on := 2, ground := Ground.data }], guard := none }
def oFI94 (p : String) : Oper := { dst := some 36, op := Op.move (Operand.tmp 6), type := 3, pos := p, after := #[], guard := none }
def oFI95 (p : String) : Oper := { dst := some 37, op := Op.slice 39 (Operand.tmp 33) (some (Operand.tmp 35)) (some (Operand.tmp 36)) none, type := 39, pos := p, after := #[{ on := 1, ground := Ground.data }, { on := 3, ground := Ground.data }, { on := 4, ground := Ground.data }], guard := none }
def oFI96 (p : String) : Oper := { dst := some 38, op := Op.call { callee := Callee.builtin Builtin.copy, args := #[Operand.tmp 32, Operand.tmp 37], argTypes := #[39, 39] }, type := 3, pos := p, after := #[{ on := 0, ground := Ground.data }, { on := 5, ground := Ground.data }], guard := none }
def opsFI9 (p : String) : List Oper := [oFI90 p, oFI91 p, oFI92 p, oFI93 p, oFI94 p, oFI95 p, oFI96 p]
theorem opsFI9_back (p : String) : backwards (opsFI9 p) = true := by kernel_rfl
theorem opsFI9_slots (p : String) : slotsOk 51 (opsFI9 p) = true := by kernel_rfl
/-- What each slot comes to. -/
def psiFI9 (_B D : Nat) (b o ok L c c4 k : Nat) (ys : List UInt8) : Nat → Value → World → Prop
  | 0, v, _ => v = .slice (some ⟨D, 0, none⟩) 4 4
  | 1, v, _ => v = .slice (some ⟨b, o, none⟩) L c
  | 2, v, _ => v = .int .i64 ((k : Int) + 4)
  | 3, v, _ => v = .int .i64 (k : Int)
  | 4, v, _ => v = .int .i64 ((k : Int) + 4)
  | 5, v, _ => v = .slice (some ⟨b, ok, none⟩) 4 c4
  | 6, v, w => v = .int .i64 4 ∧ w.heap[D]? = some (.cells (ys.map enc).toArray 173 (0, 0))
  | _, _, _ => True
theorem psiFI9_grew (B D : Nat) (b o ok L c c4 k : Nat) (ys : List UInt8) : ∀ i v w w', psiFI9 B D b o ok L c c4 k ys i v w → RC D ys w w' → psiFI9 B D b o ok L c c4 k ys i v w' := by
  intro i v w w' h hg
  rcases i with _ | _ | _ | _ | _ | _ | _ | i
  · exact h
  · exact h
  · exact h
  · exact h
  · exact h
  · exact h
  · exact ⟨h.1, hg.2.2 h.2⟩
  · trivial
set_option maxRecDepth 100000 in
set_option maxHeartbeats 4000000 in
theorem first_copy {p : String} (B D : Nat) (b o ok L c c4 k : Nat) (ys : List UInt8) (hy : ys.length = 4) (hBD : B ≤ D) (hkL : k + 4 ≤ c) (hk2 : k ≤ 1000000) (hok : ok = o + k) (hc4 : c4 = c - k) (a : Act) (w : World) (Q : Exit → Act → World → Prop) (hN : a.tmps.size = 51) (h0 : a.tmps.getD 0 undef = .slice (some ⟨b, o, none⟩) L c) (h6 : a.tmps.getD 6 undef = .int .i64 ((k : Int) + 4)) (h8 : a.tmps.getD 8 undef = .pointer (some ⟨D, 0, none⟩)) (hBw : B ≤ w.heap.size) (hA : HasA w B (some ⟨b, ok, none⟩) ys) (hD : ∃ cur : Array Value, cur.size = 4 ∧ w.heap[D]? = some (.cells cur 173 (0, 0))) (hQ : ∀ (v38 : Value), ∀ (w' : World), (fun v w => v = .int .i64 4 ∧ w.heap[D]? = some (.cells (ys.map enc).toArray 173 (0, 0))) v38 w' → w.grownBy w' (some D) → Q .normal (puts [(32, .slice (some ⟨D, 0, none⟩) 4 4), (33, .slice (some ⟨b, o, none⟩) L c), (34, .int .i64 ((k : Int) + 4)), (35, .int .i64 (k : Int)), (36, .int .i64 ((k : Int) + 4)), (37, .slice (some ⟨b, ok, none⟩) 4 c4), (38, v38)] a) w')
    : (Code.region 9 (opsFI9 p).toArray true).wp Tryz.prog Q a w := by
  refine (wpIn_wide (n := 1)).1 (wpIn_region_vals 51 hN follows (opsFI9_back p) (opsFI9_slots p) (RC D ys) (fun w => RC.refl D ys w) RC.trans (psiFI9 B D b o ok L c c4 k ys) (psiFI9_grew B D b o ok L c c4 k ys) ?_ ?_)
  · intro i o d ho hd a' w' hF hR hp
    rcases i with _ | _ | _ | _ | _ | _ | _ | i
    · obtain rfl : oFI90 p = o := Option.some.inj ho
      obtain rfl : 32 = d := Option.some.inj hd
      exact step_whole rfl rfl rfl (hF.at 8 rfl h8) (run_whole4 _ _) ⟨_, rfl, rfl, (fun w => RC.refl D ys w) _⟩
    · obtain rfl : oFI91 p = o := Option.some.inj ho
      obtain rfl : 33 = d := Option.some.inj hd
      exact step_move rfl rfl rfl (hF.at 0 rfl h0) ⟨_, rfl, rfl, (fun w => RC.refl D ys w) _⟩
    · obtain rfl : oFI92 p = o := Option.some.inj ho
      obtain rfl : 34 = d := Option.some.inj hd
      exact step_move rfl rfl rfl (hF.at 6 rfl h6) ⟨_, rfl, rfl, (fun w => RC.refl D ys w) _⟩
    · obtain rfl : oFI93 p = o := Option.some.inj ho
      obtain rfl : 35 = d := Option.some.inj hd
      have q2 : a'.tmps.getD 34 undef = .int .i64 ((k : Int) + 4) := hp 2 (oFI92 p) 34 rfl rfl rfl
      exact step_bin rfl rfl rfl q2 rfl (guard_int _ _ _ _ _ _ _ _ _) (run_sub4 _ _ _ hk2) ⟨_, rfl, rfl, (fun w => RC.refl D ys w) _⟩
    · obtain rfl : oFI94 p = o := Option.some.inj ho
      obtain rfl : 36 = d := Option.some.inj hd
      exact step_move rfl rfl rfl (hF.at 6 rfl h6) ⟨_, rfl, rfl, (fun w => RC.refl D ys w) _⟩
    · obtain rfl : oFI95 p = o := Option.some.inj ho
      obtain rfl : 37 = d := Option.some.inj hd
      have q1 : a'.tmps.getD 33 undef = .slice (some ⟨b, o, none⟩) L c := hp 1 (oFI91 p) 33 rfl rfl rfl
      have q3 : a'.tmps.getD 35 undef = .int .i64 (k : Int) := hp 3 (oFI93 p) 35 rfl rfl rfl
      have q4 : a'.tmps.getD 36 undef = .int .i64 ((k : Int) + 4) := hp 4 (oFI94 p) 36 rfl rfl rfl
      exact step_between rfl rfl rfl q1 q3 q4 (by subst hok; subst hc4; exact run_four _ _ _ _ _ _ hkL hk2) ⟨_, rfl, rfl, (fun w => RC.refl D ys w) _⟩
    · obtain rfl : oFI96 p = o := Option.some.inj ho
      obtain rfl : 38 = d := Option.some.inj hd
      have q0 : a'.tmps.getD 32 undef = .slice (some ⟨D, 0, none⟩) 4 4 := hp 0 (oFI90 p) 32 rfl rfl rfl
      have q5 : a'.tmps.getD 37 undef = .slice (some ⟨b, ok, none⟩) 4 c4 := hp 5 (oFI95 p) 37 rfl rfl rfl
      refine step_builtin2 rfl rfl rfl q0 q5 ?_
      have hs := hA.keep (w' := w') (fun q hq => World.cell?_of_block (hR.1.block q.block (Nat.lt_of_lt_of_le hq hBw) (fun e => by cases e; exact absurd hq (Nat.not_lt.2 hBD))))
      obtain ⟨cur, hcz, hcg⟩ := hR.2.1 hD
      obtain ⟨w'', hrun, hk, hg⟩ := copy4 w' D 173 c4 b ok (ys) cur hy hcz hcg (B := B) hs
      exact ⟨_, _, hrun _, _, rfl, ⟨rfl, hk⟩, hg, fun _ => ⟨_, by simp [hy], hk⟩, fun _ => hk⟩
    · exact absurd ((Array.getElem?_eq_some_iff.1 ho).1) (by simp [opsFI9])
  · intro a' w' hF hR hp
    have e0 : psiFI9 B D b o ok L c c4 k ys 0 (a'.tmps.getD 32 undef) w' := hp 0 (oFI90 p) 32 rfl rfl
    have e1 : psiFI9 B D b o ok L c c4 k ys 1 (a'.tmps.getD 33 undef) w' := hp 1 (oFI91 p) 33 rfl rfl
    have e2 : psiFI9 B D b o ok L c c4 k ys 2 (a'.tmps.getD 34 undef) w' := hp 2 (oFI92 p) 34 rfl rfl
    have e3 : psiFI9 B D b o ok L c c4 k ys 3 (a'.tmps.getD 35 undef) w' := hp 3 (oFI93 p) 35 rfl rfl
    have e4 : psiFI9 B D b o ok L c c4 k ys 4 (a'.tmps.getD 36 undef) w' := hp 4 (oFI94 p) 36 rfl rfl
    have e5 : psiFI9 B D b o ok L c c4 k ys 5 (a'.tmps.getD 37 undef) w' := hp 5 (oFI95 p) 37 rfl rfl
    have e6 : psiFI9 B D b o ok L c c4 k ys 6 (a'.tmps.getD 38 undef) w' := hp 6 (oFI96 p) 38 rfl rfl
    rw [hF.puts [(32, .slice (some ⟨D, 0, none⟩) 4 4), (33, .slice (some ⟨b, o, none⟩) L c), (34, .int .i64 ((k : Int) + 4)), (35, .int .i64 (k : Int)), (36, .int .i64 ((k : Int) + 4)), (37, .slice (some ⟨b, ok, none⟩) 4 c4), (38, a'.tmps.getD 38 undef)] ?_ rfl (by rw [hN]; rfl)]
    · exact hQ _ w' e6 ⟨hR.1.os, hR.1.tape, hR.1.output, hR.1.size, hR.1.block⟩
    · intro x hx
      simp only [List.mem_cons, List.not_mem_nil, or_false] at hx
      rcases hx with rfl | rfl | rfl | rfl | rfl | rfl | rfl
      · exact e0
      · exact e1
      · exact e2
      · exact e3
      · exact e4
      · exact e5
      · exact rfl
def oFI110 (p : String) : Oper := { dst := some 43, op := Op.load 173 (Operand.tmp 8), type := 173, pos := p, after := #[], guard := none }
def oFI111 (p : String) : Oper := { dst := some 44, op := Op.move (Operand.tmp 9), type := 39, pos := p, after := #[], guard := none }
def oFI112 (p : String) : Oper := { dst := some 45, op := Op.call { callee := Callee.value (Operand.func 120), args := #[Operand.tmp 44], argTypes := #[39] }, type := 173, pos := p, after := #[{ on := 1, ground := Ground.data }], guard := none }
def oFI113 (p : String) : Oper := { dst := some 46, op := Op.binOp BinOp.neq 173 (Operand.tmp 43) (Operand.tmp 45) 173, type := 4, pos := p, after := #[{ on := 0, ground := Ground.data }, { on := 2, ground := Ground.data }], guard := none }
def opsFI11 (p : String) : List Oper := [oFI110 p, oFI111 p, oFI112 p, oFI113 p]
theorem opsFI11_back (p : String) : backwards (opsFI11 p) = true := by kernel_rfl
theorem opsFI11_slots (p : String) : slotsOk 51 (opsFI11 p) = true := by kernel_rfl
/-- What each slot comes to. -/
def psiFI11 (_D : Nat) (A2 : Option Addr) (n c2 : Nat) (x : List UInt8) (y0 y1 y2 y3 : Int) : Nat → Value → World → Prop
  | 0, v, _ => v = .agg #[.int .u8 y0, .int .u8 y1, .int .u8 y2, .int .u8 y3]
  | 1, v, _ => v = .slice A2 n c2
  | 2, v, _ => v = sumV (crcSum x)
  | 3, v, _ => v = .bool (neB y0 y1 y2 y3 (crcSum x))
  | _, _, _ => True
theorem psiFI11_grew (D : Nat) (A2 : Option Addr) (n c2 : Nat) (x : List UInt8) (y0 y1 y2 y3 : Int) : ∀ i v w w', psiFI11 D A2 n c2 x y0 y1 y2 y3 i v w → Grew w w' → psiFI11 D A2 n c2 x y0 y1 y2 y3 i v w' := by
  intro i v w w' h hg
  rcases i with _ | _ | _ | _ | i
  · exact h
  · exact h
  · exact h
  · exact h
  · trivial
set_option maxRecDepth 100000 in
set_option maxHeartbeats 4000000 in
theorem first_cmp {p : String} (D : Nat) (A2 : Option Addr) (n c2 : Nat) (x : List UInt8) (y0 y1 y2 y3 : Int) (hxl : n = x.length) (hn : n ≤ 65536) (a : Act) (w : World) (Q : Exit → Act → World → Prop) (hN : a.tmps.size = 51) (h8 : a.tmps.getD 8 undef = .pointer (some ⟨D, 0, none⟩)) (h9 : a.tmps.getD 9 undef = .slice A2 n c2) (hT : Tab w) (hA2 : HasA w w.heap.size A2 x) (hDw : D < w.heap.size) (hD : w.heap[D]? = some (.cells #[.int .u8 y0, .int .u8 y1, .int .u8 y2, .int .u8 y3] 173 (0, 0))) (hQ : ∀ (w' : World), Grew w w' → Q .normal (puts [(43, .agg #[.int .u8 y0, .int .u8 y1, .int .u8 y2, .int .u8 y3]), (44, .slice A2 n c2), (45, sumV (crcSum x)), (46, .bool (neB y0 y1 y2 y3 (crcSum x)))] a) w')
    : (Code.region 11 (opsFI11 p).toArray true).wp Tryz.prog Q a w := by
  refine (wpIn_wide (n := 1)).1 (wpIn_region_vals 51 hN follows (opsFI11_back p) (opsFI11_slots p) Grew Grew.refl Grew.trans (psiFI11 D A2 n c2 x y0 y1 y2 y3) (psiFI11_grew D A2 n c2 x y0 y1 y2 y3) ?_ ?_)
  · intro i o d ho hd a' w' hF hR hp
    rcases i with _ | _ | _ | _ | i
    · obtain rfl : oFI110 p = o := Option.some.inj ho
      obtain rfl : 43 = d := Option.some.inj hd
      exact step_load rfl rfl rfl (hF.at 8 rfl h8) (ld4 _ _ _ _ _ _ ((Below.block hR.undraw D hDw).trans hD)) ⟨_, rfl, rfl, Grew.refl _⟩
    · obtain rfl : oFI111 p = o := Option.some.inj ho
      obtain rfl : 44 = d := Option.some.inj hd
      exact step_move rfl rfl rfl (hF.at 9 rfl h9) ⟨_, rfl, rfl, Grew.refl _⟩
    · obtain rfl : oFI112 p = o := Option.some.inj ho
      obtain rfl : 45 = d := Option.some.inj hd
      have q1 : a'.tmps.getD 44 undef = .slice A2 n c2 := hp 1 (oFI111 p) 44 rfl rfl rfl
      exact step_ret rfl rfl rfl (enters_of Tryz.func120 (by kernel_rfl) rfl) (show Array.map a'.eval #[.tmp 44] = _ from by simp only [List.map_toArray, List.map_cons, List.map_nil, Act.eval, q1]) (sumOf_any A2 n c2 x hxl (by omega) w' (hT.grew hR.undraw) (HasA.below' hA2 hR.undraw)) (fun w'' hg => ⟨_, rfl, rfl, hg⟩)
    · obtain rfl : oFI113 p = o := Option.some.inj ho
      obtain rfl : 46 = d := Option.some.inj hd
      have q0 : a'.tmps.getD 43 undef = .agg #[.int .u8 y0, .int .u8 y1, .int .u8 y2, .int .u8 y3] := hp 0 (oFI110 p) 43 rfl rfl rfl
      have q2 : a'.tmps.getD 45 undef = sumV (crcSum x) := hp 2 (oFI112 p) 45 rfl rfl rfl
      exact step_bin rfl rfl rfl q0 q2 (guard_agg _ _ _ _ _ _) (run_neB _ _ _ _ _ _) ⟨_, rfl, rfl, Grew.refl _⟩
    · exact absurd ((Array.getElem?_eq_some_iff.1 ho).1) (by simp [opsFI11])
  · intro a' w' hF hR hp
    have e0 : psiFI11 D A2 n c2 x y0 y1 y2 y3 0 (a'.tmps.getD 43 undef) w' := hp 0 (oFI110 p) 43 rfl rfl
    have e1 : psiFI11 D A2 n c2 x y0 y1 y2 y3 1 (a'.tmps.getD 44 undef) w' := hp 1 (oFI111 p) 44 rfl rfl
    have e2 : psiFI11 D A2 n c2 x y0 y1 y2 y3 2 (a'.tmps.getD 45 undef) w' := hp 2 (oFI112 p) 45 rfl rfl
    have e3 : psiFI11 D A2 n c2 x y0 y1 y2 y3 3 (a'.tmps.getD 46 undef) w' := hp 3 (oFI113 p) 46 rfl rfl
    rw [hF.puts [(43, .agg #[.int .u8 y0, .int .u8 y1, .int .u8 y2, .int .u8 y3]), (44, .slice A2 n c2), (45, sumV (crcSum x)), (46, .bool (neB y0 y1 y2 y3 (crcSum x)))] ?_ rfl (by rw [hN]; rfl)]
    · exact hQ  w'  hR.undraw
    · intro x hx
      simp only [List.mem_cons, List.not_mem_nil, or_false] at hx
      rcases hx with rfl | rfl | rfl | rfl
      · exact e0
      · exact e1
      · exact e2
      · exact e3
end Go.Proofs.YtdiihaeelcbjbaaGreatDoor

-- FrFirst
namespace Go.Proofs.YtdiihaeelcbjbaaGreatDoor
open Go.RowKit

theorem neB_iff (a0 a1 a2 a3 : UInt8) (s : Nat) (hs : s < 4294967296) : neB (a0.toNat : Int) (a1.toNat : Int) (a2.toNat : Int) (a3.toNat : Int) s = !(decide ([a0, a1, a2, a3] = leB 4 s)) := by
  unfold neB
  congr 1
  have key : ∀ (a : UInt8) (m : Nat), m < 256 → (((a.toNat : Int) == (m : Int)) = decide (a = UInt8.ofNat m)) := by
    intro a m hm
    by_cases h : a = UInt8.ofNat m
    · subst h
      have : (UInt8.ofNat m).toNat = m := toNat_ofNat_lt hm
      rw [this]; simp
    · have h2 : ¬ ((a.toNat : Int) = (m : Int)) := by
        intro e
        apply h
        have e2 : a.toNat = m := by omega
        rw [← e2]; simp
      rw [beq_eq_false_iff_ne.2 h2]
      simp [h]
  have e0 : ((s : Int) % 256) = ((s % 256 : Nat) : Int) := by omega
  have e1 : ((s : Int) / 256 % 256) = ((s / 256 % 256 : Nat) : Int) := by omega
  have e2 : ((s : Int) / 65536 % 256) = ((s / 256 / 256 % 256 : Nat) : Int) := by omega
  have e3 : ((s : Int) / 16777216) = ((s / 256 / 256 / 256 % 256 : Nat) : Int) := by omega
  rw [e0, e1, e2, e3, key a0 _ (by omega), key a1 _ (by omega), key a2 _ (by omega), key a3 _ (by omega), leB4']
  simp

/-- What the first frame comes to, its contents lying in what came in. -/
def FirstPost (B : Nat) (w : World) (bs : List UInt8) (e : Ending) (W' : World) : Prop :=
  (∃ x n v, tk bs = .ok x n ∧ e = .returned (.tuple #[.agg #[v, .int .i64 (n : Int)], .int .i64 0]) ∧ IsBat B W' v x ∧ Below w.heap.size w W') ∨
  (∃ k : Nat, tk bs = .err k ∧ e = .returned (.tuple #[.agg #[.slice none 0 0, .int .i64 0], .int .i64 (k : Int)]) ∧ Below w.heap.size w W')

/-- A part is laid in the result's block. -/
theorem part_set {w W : World} {cs : Array Value} (h : W.heap[w.heap.size]? = some (.cells cs 188 (0, 0))) (hB : Below w.heap.size w W) (u : Value) (m : Int) (hz : cs.size = 2 := by rfl) :
    ((W.setCell ⟨w.heap.size, 0, none⟩ u).setCell ⟨w.heap.size, 1, none⟩ (.int .i64 m)).cell? ⟨w.heap.size, 0, none⟩ = some u ∧ ((W.setCell ⟨w.heap.size, 0, none⟩ u).setCell ⟨w.heap.size, 1, none⟩ (.int .i64 m)).cell? ⟨w.heap.size, 1, none⟩ = some (.int .i64 m) ∧
    Below w.heap.size w ((W.setCell ⟨w.heap.size, 0, none⟩ u).setCell ⟨w.heap.size, 1, none⟩ (.int .i64 m)) := by
  have hfin := blk_set (blk_set h 0 u) 1 (.int .i64 m)
  have d0 := blk_cell hfin 0
  have d1 := blk_cell hfin 1
  refine ⟨by rw [d0]; simp [hz], by rw [d1]; simp [hz], (hB.setCell (p := ⟨w.heap.size, 0, none⟩) (Nat.le_refl _) _).setCell (p := ⟨w.heap.size, 1, none⟩) (Nat.le_refl _) _⟩
theorem part_keep {w W : World} {B : Nat} {u v : Value} (p : Addr) (hp : p.block < B) (hB : B ≤ w.heap.size) : ((W.setCell ⟨w.heap.size, 0, none⟩ u).setCell ⟨w.heap.size, 1, none⟩ v).cell? p = W.cell? p := by
  refine World.cell?_of_block ((Below.heap_setCell _ _ _ _ ?_).trans (Below.heap_setCell _ _ _ _ ?_)) <;> (intro e; have : p.block = w.heap.size := e; omega)

set_option maxHeartbeats 2000000 in
theorem first_any (A : Option Addr) (L c : Nat) (bs : List UInt8) (hL : L = bs.length) (hlen : L ≤ 1000000) (hcap : L ≤ c) (w : World) (B : Nat) (hBw : B ≤ w.heap.size) (hT : Tab w) (hAB : HasA w B A bs) :
    Calls Tryz.prog 135 #[.slice A L c] w (FirstPost B w bs) := by
  have HAB := Lib.hid hAB
  have HA := Lib.hid (hAB.more hBw)
  have HL := Lib.hid hL
  have HT := Lib.hid hT
  have hli : (L : Int) ≤ 1000000 := by omega
  clear hL hAB hT
  go_enter Tryz.func135, Tryz.ntmps135
  go_wp2_with fail
  have hb0 : ∀ o, Below w.heap.size w (w.alloc o) := fun o => (Below.refl _ _).alloc (Nat.le_refl _) o
  refine (lengthOf_any A L c bs HL.out hlen hcap _ (HA.out.below' (hb0 _))).mono ?_
  rintro e W1 ⟨hb1, hcase⟩
  have hblk := (Below.block hb1 w.heap.size (by simp)).trans (World.alloc_heap_new w _)
  have B1 := Lib.hid ((hb0 _).trans (Below.mono hb1 (by simp)))
  have HB1 := Lib.hid hblk
  have b0 := blk_cell hblk 0
  have b1 := blk_cell hblk 1
  have z0 := blk_frozen hblk 0
  have z1 := blk_frozen hblk 1
  simp at b0 b1
  clear hb1 hb0 hblk
  rcases hcase with ⟨n, rest, hr, hn1, hn2, rfl⟩ | ⟨k, hk, hk0, rfl⟩
  · obtain ⟨hbs, hn64⟩ := rdU_ok hr
    have hTk := Lib.hid (tk_of_ok hr)
    have HBS := Lib.hid hbs
    have hn1i : (1 : Int) ≤ n := by omega
    have hn2i : (n : Int) ≤ 65536 := by omega
    clear hr hbs
    go_wp2_with fail
    refine (Uint_any none [] 0 0 n rfl hn64 (by simp) W1 (HasA.nil _ _ _)).mono ?_
    rintro e W2 ⟨g, k, ck, rfl, hown, hb2⟩
    have hkl : k = (vb n).length := by have := own_len hown; simpa using this
    have hk10 : k ≤ 10 := by rw [hkl]; exact vb_len10 hn64
    have HKL := Lib.hid hkl
    have HBl2 := Lib.hid ((Below.block hb2 w.heap.size (Array.getElem?_eq_some_iff.1 HB1.out).1).trans HB1.out)
    have B2 := Lib.hid (B1.out.trans (Below.mono hb2 B1.out.size))
    have b0 := blk_cell HBl2.out 0
    have b1 := blk_cell HBl2.out 1
    have z0 := blk_frozen HBl2.out 0
    have z1 := blk_frozen HBl2.out 1
    simp at b0 b1
    have hkr : L = k + rest.length := by rw [HL.out, HBS.out, List.length_append, HKL.out]
    clear hown hb2 hkl HB1
    by_cases hsh : rest.length < 4 + n
    · have hshi : (L : Int) < (k : Int) + 4 + (n : Int) := by omega
      have HTK := Lib.hid (hTk.out.trans (show tkR n rest = .err 10 by unfold tkR; rw [if_neg (by omega), if_pos (by omega)]))
      clear hkr
      go_wp2
      obtain ⟨hc0, hc1, hB3⟩ := part_set HBl2.out B2.out (.slice none 0 0) 0
      exact bodyPost_ret (by simp [results, Tryz.results135, go_sem, hc0, hc1]) rfl (.inr ⟨10, HTK.out, rfl, hB3⟩)
    · have hshi : ¬ (L : Int) < (k : Int) + 4 + (n : Int) := by omega
      have hci : (k : Int) + 4 + (n : Int) ≤ c := by omega
      have hne : bs ≠ [] := by intro e; have := HL.out; rw [e] at this; simp at this; omega
      obtain ⟨b, o, hAe, hbB, hcell⟩ := HA.out hne
      subst hAe
      have HKR := Lib.hid hkr
      clear hcell hne hkr
      go_wp2
      obtain ⟨ys, hys⟩ : ∃ ys, ys = rest.take 4 := ⟨_, rfl⟩
      have hy4 : ys.length = 4 := by rw [hys, List.length_take]; omega
      have hdr : (bs.drop k).take 4 = ys := by rw [HBS.out, HKL.out, List.drop_left, hys]
      have hA4 : HasA (W2.alloc (Obj.cells (sumC 0 0) 173)) W2.heap.size (some ⟨b, o + k, none⟩) ys := by
        rw [← hdr]
        exact (((HA.out.below' B2.out).alloc (Nat.le_refl _) _).cut b o k rfl).take 4
      refine first_copy W2.heap.size W2.heap.size b o (o + k) L c (c - k) k ys hy4 (Nat.le_refl _) (by omega) (by omega) rfl rfl _ _ _ rfl rfl rfl rfl (by simp) hA4 ⟨_, rfl, World.alloc_heap_new W2 _⟩ ?_
      rintro v38 W3 ⟨rfl, hk3⟩ hg3
      have hB23 : Below W2.heap.size W2 W3 := ((Below.refl _ _).alloc (Nat.le_refl _) _).grown hg3 (by simp) (fun k e => by cases e; exact Nat.le_refl _)
      have hD3 : W2.heap.size < W3.heap.size := (Array.getElem?_eq_some_iff.1 hk3).1
      have HD3 := Lib.hid hD3
      obtain ⟨a0, a1, a2, a3, ha⟩ : ∃ a0 a1 a2 a3, ys = [a0, a1, a2, a3] := by
        rcases ys with _ | ⟨y0, _ | ⟨y1, _ | ⟨y2, _ | ⟨y3, _ | _⟩⟩⟩⟩ <;> simp at hy4
        exact ⟨_, _, _, _, rfl⟩
      rw [ha] at hk3
      have HK3 := Lib.hid hk3
      have B3 := Lib.hid (B2.out.trans (Below.mono hB23 B2.out.size))
      have HBl3 := Lib.hid ((hB23.block w.heap.size (Array.getElem?_eq_some_iff.1 HBl2.out).1).trans HBl2.out)
      have HYS := Lib.hid (ha.symm.trans hys)
      obtain ⟨x, hx⟩ : ∃ x, x = (rest.drop 4).take n := ⟨_, rfl⟩
      have hxl : n = x.length := by rw [hx, List.length_take, List.length_drop]; omega
      have hdr2 : (bs.drop (k + 4)).take n = x := by rw [HBS.out, hx, HKL.out, ← List.drop_drop, List.drop_left]
      have hA2 : HasA W3 B (some ⟨b, o + (k + 4), none⟩) x := by
        rw [← hdr2]
        exact ((HAB.out.below (Below.mono B3.out hBw)).cut b o (k + 4) rfl).take n
      have HA2 := Lib.hid hA2
      have HX := Lib.hid hx
      have HXL := Lib.hid hxl
      clear hA2 hA4 hdr hdr2 hys hy4 hk3 hg3 hB23 hD3 ha hx hxl b0 b1 z0 z1
      simp only [puts, List.foldl_cons, List.foldl_nil, Act.put, List.setIfInBounds_toArray, List.set_cons_succ, List.set_cons_zero]
      go_wp2
      rw [show k + 4 + n - (k + 4) = n by omega]
      refine first_cmp W2.heap.size (some ⟨b, o + (k + 4), none⟩) n (c - (k + 4)) x (a0.toNat : Int) (a1.toNat : Int) (a2.toNat : Int) (a3.toNat : Int) HXL.out (by omega) _ W3 _ rfl rfl rfl (HT.out.grew B3.out) (HA2.out.more (Nat.le_trans hBw B3.out.size)) HD3.out HK3.out ?_
      intro W4 hg4
      have hsl := crcSum_lt x
      rw [neB_iff a0 a1 a2 a3 _ hsl, HYS.out]
      have HBl4 := Lib.hid ((Below.block hg4 w.heap.size (Array.getElem?_eq_some_iff.1 HBl3.out).1).trans HBl3.out)
      have B4 := Lib.hid (B3.out.trans (Below.mono hg4 B3.out.size))
      have HA4 := Lib.hid (HA2.out.below (Below.mono hg4 (Nat.le_trans hBw B3.out.size)))
      have b0 := blk_cell HBl4.out 0
      have b1 := blk_cell HBl4.out 1
      have z0 := blk_frozen HBl4.out 0
      have z1 := blk_frozen HBl4.out 1
      simp at b0 b1
      clear hg4 hsl HA2
      by_cases hsum : rest.take 4 = leB 4 (crcSum x)
      · have hd : decide (rest.take 4 = leB 4 (crcSum x)) = true := by simpa using hsum
        have HT2 := Lib.hid (hTk.out.trans (show tkR n rest = .ok x (k + 4 + n) by
          unfold tkR
          rw [if_neg (by omega), if_neg hsh, ← HX.out, if_pos hsum, ← HKL.out, Nat.add_assoc]))
        rw [hd]
        clear hsum hd
        simp only [puts, List.foldl_cons, List.foldl_nil, Act.put, List.setIfInBounds_toArray, List.set_cons_succ, List.set_cons_zero]
        go_wp2
        obtain ⟨hc0, hc1, hB3⟩ := part_set HBl4.out B4.out (.slice (some ⟨b, o + (k + 4), none⟩) n (c - (k + 4))) ((k : Int) + 4 + n)
        exact bodyPost_ret (v := .tuple #[.agg #[.slice (some ⟨b, o + (k + 4), none⟩) n (c - (k + 4)), .int .i64 ((k : Int) + 4 + n)], .int .i64 0]) (by simp [results, Tryz.results135, go_sem, hc0, hc1]) rfl (.inl ⟨x, k + 4 + n, .slice (some ⟨b, o + (k + 4), none⟩) n (c - (k + 4)), HT2.out, rfl, ⟨_, _, _, rfl, HXL.out, HA4.out.keep (fun p hp => part_keep p hp hBw)⟩, hB3⟩)
      · have hd : decide (rest.take 4 = leB 4 (crcSum x)) = false := by simpa using hsum
        have HT2 := Lib.hid (hTk.out.trans (show tkR n rest = .err 12 by
          unfold tkR
          rw [if_neg (by omega), if_neg hsh, ← HX.out, if_neg hsum]))
        rw [hd]
        clear hsum hd
        simp only [puts, List.foldl_cons, List.foldl_nil, Act.put, List.setIfInBounds_toArray, List.set_cons_succ, List.set_cons_zero]
        go_wp2
        obtain ⟨hc0, hc1, hB3⟩ := part_set HBl4.out B4.out (.slice none 0 0) 0
        exact bodyPost_ret (by simp [results, Tryz.results135, go_sem, hc0, hc1]) rfl (.inr ⟨12, HT2.out, rfl, hB3⟩)
  · go_wp2
    obtain ⟨hc0, hc1, hB3⟩ := part_set HB1.out B1.out (.slice none 0 0) 0
    exact bodyPost_ret (by simp [results, Tryz.results135, go_sem, hc0, hc1]) rfl (.inr ⟨k, hk, rfl, hB3⟩)
end Go.Proofs.YtdiihaeelcbjbaaGreatDoor

-- FrCmp
namespace Go.Proofs.YtdiihaeelcbjbaaGreatDoor
open Go.RowKit

theorem run_ixB (w : World) (b o L c q : Nat) (h : q < L) : (Instr.indexAt 75 (.slice (some ⟨b, o, none⟩) L c) (.int .i64 (q : Int))).run Tryz.prog w = .ok (.pointer (some ⟨b, o + q, none⟩)) w := by
  have h1 : (0 : Int) ≤ q := by omega
  have h2 : (q : Int) < L := by omega
  simp [go_sem, h1, h2]
theorem run_ldB (w : World) (p : Addr) (A : Option Addr) (L c : Nat) (h : w.cell? p = some (.slice A L c)) : (Instr.loadAt 39 (.pointer (some p))).run Tryz.prog w = .ok (.slice A L c) w := by
  simp [go_sem, h]
def oFT200 (p : String) : Oper := { dst := some 121, op := Op.move (Operand.tmp 13), type := 75, pos := p, after := #[], guard := none }
def oFT201 (p : String) : Oper := { dst := some 122, op := Op.move (Operand.tmp 19), type := 3, pos := p, after := #[], guard := none }
def oFT202 (p : String) : Oper := { dst := some 123, op := Op.indexAddr 75 (Operand.tmp 121) (Operand.tmp 122), type := 0, pos := p, after := #[{ on := 0, ground := Ground.data }, { on := 1, ground := Ground.data }], guard := none }
def oFT203 (p : String) : Oper := { dst := some 124, op := Op.load 39 (Operand.tmp 123), type := 39, pos := p, after := #[{ on := 2, ground := Ground.data }], guard := none }
def oFT204 (p : String) : Oper := { dst := some 125, op := Op.convert 39 9 (Operand.tmp 124), type := 9, pos := p, after := #[{ on := 3, ground := Ground.data }], guard := none }
def oFT205 (p : String) : Oper := { dst := some 126, op := Op.move (Operand.tmp 16), type := 75, pos := p, after := #[], guard := none }
def oFT206 (p : String) : Oper := { dst := some 127, op := Op.move (Operand.tmp 19), type := 3, pos := p, after := #[], guard := none }
def oFT207 (p : String) : Oper := { dst := some 128, op := Op.indexAddr 75 (Operand.tmp 126) (Operand.tmp 127), type := 0, pos := p, after := #[{ on := 5, ground := Ground.data }, { on := 6, ground := Ground.data }], guard := none }
def oFT208 (p : String) : Oper := { dst := some 129, op := Op.load 39 (Operand.tmp 128), type := 39, pos := p, after := #[{ on := 7, ground := Ground.data }], guard := none }
def oFT209 (p : String) : Oper := { dst := some 130, op := Op.convert 39 9 (Operand.tmp 129), type := 9, pos := p, after := #[{ on := 8, ground := Ground.data }], guard := none }
def oFT2010 (p : String) : Oper := { dst := some 131, op := Op.binOp BinOp.neq 9 (Operand.tmp 125) (Operand.tmp 130) 9, type := 4, pos := p, after := #[{ on := 4, ground := Ground.data }, { on := 9, ground := Ground.data }], guard := none }
def opsFT20 (p : String) : List Oper := [oFT200 p, oFT201 p, oFT202 p, oFT203 p, oFT204 p, oFT205 p, oFT206 p, oFT207 p, oFT208 p, oFT209 p, oFT2010 p]
theorem opsFT20_back (p : String) : backwards (opsFT20 p) = true := by kernel_rfl
theorem opsFT20_slots (p : String) : slotsOk 133 (opsFT20 p) = true := by kernel_rfl
/-- What each slot comes to. -/
def psiFT20 (b1 o1 L1 c1 b2 o2 L2 c2 q : Nat) (A3 : Option Addr) (L3 c3 : Nat) (A4 : Option Addr) (L4 c4 : Nat) (X : List UInt8) : Nat → Value → World → Prop
  | 0, v, _ => v = .slice (some ⟨b1, o1, none⟩) L1 c1
  | 1, v, _ => v = .int .i64 (q : Int)
  | 2, v, _ => v = .pointer (some ⟨b1, o1 + q, none⟩)
  | 3, v, _ => v = .slice A3 L3 c3
  | 4, v, _ => v = .string (str X)
  | 5, v, _ => v = .slice (some ⟨b2, o2, none⟩) L2 c2
  | 6, v, _ => v = .int .i64 (q : Int)
  | 7, v, _ => v = .pointer (some ⟨b2, o2 + q, none⟩)
  | 8, v, _ => v = .slice A4 L4 c4
  | 9, v, _ => v = .string (str X)
  | 10, v, _ => v = .bool false
  | _, _, _ => True
theorem psiFT20_grew (b1 o1 L1 c1 b2 o2 L2 c2 q : Nat) (A3 : Option Addr) (L3 c3 : Nat) (A4 : Option Addr) (L4 c4 : Nat) (X : List UInt8) : ∀ i v w w', psiFT20 b1 o1 L1 c1 b2 o2 L2 c2 q A3 L3 c3 A4 L4 c4 X i v w → Grew w w' → psiFT20 b1 o1 L1 c1 b2 o2 L2 c2 q A3 L3 c3 A4 L4 c4 X i v w' := by
  intro i v w w' h hg
  rcases i with _ | _ | _ | _ | _ | _ | _ | _ | _ | _ | _ | i
  · exact h
  · exact h
  · exact h
  · exact h
  · exact h
  · exact h
  · exact h
  · exact h
  · exact h
  · exact h
  · exact h
  · trivial
set_option maxRecDepth 100000 in
set_option maxHeartbeats 4000000 in
theorem ftells_cmp {p : String} (b1 o1 L1 c1 b2 o2 L2 c2 q : Nat) (A3 : Option Addr) (L3 c3 : Nat) (A4 : Option Addr) (L4 c4 : Nat) (X : List UInt8) (hq1 : q < L1) (hq2 : q < L2) (hL3 : L3 = X.length) (hL4 : L4 = X.length) (a : Act) (w : World) (Q : Exit → Act → World → Prop) (hN : a.tmps.size = 133) (h13 : a.tmps.getD 13 undef = .slice (some ⟨b1, o1, none⟩) L1 c1) (h16 : a.tmps.getD 16 undef = .slice (some ⟨b2, o2, none⟩) L2 c2) (h19 : a.tmps.getD 19 undef = .int .i64 (q : Int)) (hb1 : b1 < w.heap.size) (hb2 : b2 < w.heap.size) (hx1 : w.cell? ⟨b1, o1 + q, none⟩ = some (.slice A3 L3 c3)) (hx2 : w.cell? ⟨b2, o2 + q, none⟩ = some (.slice A4 L4 c4)) (hA3 : HasA w w.heap.size A3 X) (hA4 : HasA w w.heap.size A4 X) (hQ : ∀ (w' : World), Grew w w' → Q .normal (puts [(121, .slice (some ⟨b1, o1, none⟩) L1 c1), (122, .int .i64 (q : Int)), (123, .pointer (some ⟨b1, o1 + q, none⟩)), (124, .slice A3 L3 c3), (125, .string (str X)), (126, .slice (some ⟨b2, o2, none⟩) L2 c2), (127, .int .i64 (q : Int)), (128, .pointer (some ⟨b2, o2 + q, none⟩)), (129, .slice A4 L4 c4), (130, .string (str X)), (131, .bool false)] a) w')
    : (Code.region 20 (opsFT20 p).toArray true).wp Tryz.prog Q a w := by
  refine (wpIn_wide (n := 1)).1 (wpIn_region_vals 133 hN follows (opsFT20_back p) (opsFT20_slots p) Grew Grew.refl Grew.trans (psiFT20 b1 o1 L1 c1 b2 o2 L2 c2 q A3 L3 c3 A4 L4 c4 X) (psiFT20_grew b1 o1 L1 c1 b2 o2 L2 c2 q A3 L3 c3 A4 L4 c4 X) ?_ ?_)
  · intro i o d ho hd a' w' hF hR hp
    rcases i with _ | _ | _ | _ | _ | _ | _ | _ | _ | _ | _ | i
    · obtain rfl : oFT200 p = o := Option.some.inj ho
      obtain rfl : 121 = d := Option.some.inj hd
      exact step_move rfl rfl rfl (hF.at 13 rfl h13) ⟨_, rfl, rfl, Grew.refl _⟩
    · obtain rfl : oFT201 p = o := Option.some.inj ho
      obtain rfl : 122 = d := Option.some.inj hd
      exact step_move rfl rfl rfl (hF.at 19 rfl h19) ⟨_, rfl, rfl, Grew.refl _⟩
    · obtain rfl : oFT202 p = o := Option.some.inj ho
      obtain rfl : 123 = d := Option.some.inj hd
      have q0 : a'.tmps.getD 121 undef = .slice (some ⟨b1, o1, none⟩) L1 c1 := hp 0 (oFT200 p) 121 rfl rfl rfl
      have q1 : a'.tmps.getD 122 undef = .int .i64 (q : Int) := hp 1 (oFT201 p) 122 rfl rfl rfl
      exact step_index rfl rfl rfl q0 q1 (run_ixB _ _ _ _ _ _ hq1) ⟨_, rfl, rfl, Grew.refl _⟩
    · obtain rfl : oFT203 p = o := Option.some.inj ho
      obtain rfl : 124 = d := Option.some.inj hd
      have q2 : a'.tmps.getD 123 undef = .pointer (some ⟨b1, o1 + q, none⟩) := hp 2 (oFT202 p) 123 rfl rfl rfl
      exact step_load rfl rfl rfl q2 (run_ldB _ _ _ _ _ ((Below.cell hR.undraw (p := ⟨b1, o1 + q, none⟩) hb1).trans hx1)) ⟨_, rfl, rfl, Grew.refl _⟩
    · obtain rfl : oFT204 p = o := Option.some.inj ho
      obtain rfl : 125 = d := Option.some.inj hd
      have q3 : a'.tmps.getD 124 undef = .slice A3 L3 c3 := hp 3 (oFT203 p) 124 rfl rfl rfl
      exact step_cv rfl rfl rfl q3 (run_conv (HasA.below' hA3 hR.undraw) _ Tryz.underlying39 Tryz.underlying5 Tryz.underlying9 hL3) ⟨_, rfl, rfl, Grew.refl _⟩
    · obtain rfl : oFT205 p = o := Option.some.inj ho
      obtain rfl : 126 = d := Option.some.inj hd
      exact step_move rfl rfl rfl (hF.at 16 rfl h16) ⟨_, rfl, rfl, Grew.refl _⟩
    · obtain rfl : oFT206 p = o := Option.some.inj ho
      obtain rfl : 127 = d := Option.some.inj hd
      exact step_move rfl rfl rfl (hF.at 19 rfl h19) ⟨_, rfl, rfl, Grew.refl _⟩
    · obtain rfl : oFT207 p = o := Option.some.inj ho
      obtain rfl : 128 = d := Option.some.inj hd
      have q5 : a'.tmps.getD 126 undef = .slice (some ⟨b2, o2, none⟩) L2 c2 := hp 5 (oFT205 p) 126 rfl rfl rfl
      have q6 : a'.tmps.getD 127 undef = .int .i64 (q : Int) := hp 6 (oFT206 p) 127 rfl rfl rfl
      exact step_index rfl rfl rfl q5 q6 (run_ixB _ _ _ _ _ _ hq2) ⟨_, rfl, rfl, Grew.refl _⟩
    · obtain rfl : oFT208 p = o := Option.some.inj ho
      obtain rfl : 129 = d := Option.some.inj hd
      have q7 : a'.tmps.getD 128 undef = .pointer (some ⟨b2, o2 + q, none⟩) := hp 7 (oFT207 p) 128 rfl rfl rfl
      exact step_load rfl rfl rfl q7 (run_ldB _ _ _ _ _ ((Below.cell hR.undraw (p := ⟨b2, o2 + q, none⟩) hb2).trans hx2)) ⟨_, rfl, rfl, Grew.refl _⟩
    · obtain rfl : oFT209 p = o := Option.some.inj ho
      obtain rfl : 130 = d := Option.some.inj hd
      have q8 : a'.tmps.getD 129 undef = .slice A4 L4 c4 := hp 8 (oFT208 p) 129 rfl rfl rfl
      exact step_cv rfl rfl rfl q8 (run_conv (HasA.below' hA4 hR.undraw) _ Tryz.underlying39 Tryz.underlying5 Tryz.underlying9 hL4) ⟨_, rfl, rfl, Grew.refl _⟩
    · obtain rfl : oFT2010 p = o := Option.some.inj ho
      obtain rfl : 131 = d := Option.some.inj hd
      have q4 : a'.tmps.getD 125 undef = .string (str X) := hp 4 (oFT204 p) 125 rfl rfl rfl
      have q9 : a'.tmps.getD 130 undef = .string (str X) := hp 9 (oFT209 p) 130 rfl rfl rfl
      exact step_bin rfl rfl rfl q4 q9 (guard_str _ _ _ _ _ _ _) (by rw [run_neq]; simp) ⟨_, rfl, rfl, Grew.refl _⟩
    · exact absurd ((Array.getElem?_eq_some_iff.1 ho).1) (by simp [opsFT20])
  · intro a' w' hF hR hp
    have e0 : psiFT20 b1 o1 L1 c1 b2 o2 L2 c2 q A3 L3 c3 A4 L4 c4 X 0 (a'.tmps.getD 121 undef) w' := hp 0 (oFT200 p) 121 rfl rfl
    have e1 : psiFT20 b1 o1 L1 c1 b2 o2 L2 c2 q A3 L3 c3 A4 L4 c4 X 1 (a'.tmps.getD 122 undef) w' := hp 1 (oFT201 p) 122 rfl rfl
    have e2 : psiFT20 b1 o1 L1 c1 b2 o2 L2 c2 q A3 L3 c3 A4 L4 c4 X 2 (a'.tmps.getD 123 undef) w' := hp 2 (oFT202 p) 123 rfl rfl
    have e3 : psiFT20 b1 o1 L1 c1 b2 o2 L2 c2 q A3 L3 c3 A4 L4 c4 X 3 (a'.tmps.getD 124 undef) w' := hp 3 (oFT203 p) 124 rfl rfl
    have e4 : psiFT20 b1 o1 L1 c1 b2 o2 L2 c2 q A3 L3 c3 A4 L4 c4 X 4 (a'.tmps.getD 125 undef) w' := hp 4 (oFT204 p) 125 rfl rfl
    have e5 : psiFT20 b1 o1 L1 c1 b2 o2 L2 c2 q A3 L3 c3 A4 L4 c4 X 5 (a'.tmps.getD 126 undef) w' := hp 5 (oFT205 p) 126 rfl rfl
    have e6 : psiFT20 b1 o1 L1 c1 b2 o2 L2 c2 q A3 L3 c3 A4 L4 c4 X 6 (a'.tmps.getD 127 undef) w' := hp 6 (oFT206 p) 127 rfl rfl
    have e7 : psiFT20 b1 o1 L1 c1 b2 o2 L2 c2 q A3 L3 c3 A4 L4 c4 X 7 (a'.tmps.getD 128 undef) w' := hp 7 (oFT207 p) 128 rfl rfl
    have e8 : psiFT20 b1 o1 L1 c1 b2 o2 L2 c2 q A3 L3 c3 A4 L4 c4 X 8 (a'.tmps.getD 129 undef) w' := hp 8 (oFT208 p) 129 rfl rfl
    have e9 : psiFT20 b1 o1 L1 c1 b2 o2 L2 c2 q A3 L3 c3 A4 L4 c4 X 9 (a'.tmps.getD 130 undef) w' := hp 9 (oFT209 p) 130 rfl rfl
    have e10 : psiFT20 b1 o1 L1 c1 b2 o2 L2 c2 q A3 L3 c3 A4 L4 c4 X 10 (a'.tmps.getD 131 undef) w' := hp 10 (oFT2010 p) 131 rfl rfl
    rw [hF.puts [(121, .slice (some ⟨b1, o1, none⟩) L1 c1), (122, .int .i64 (q : Int)), (123, .pointer (some ⟨b1, o1 + q, none⟩)), (124, .slice A3 L3 c3), (125, .string (str X)), (126, .slice (some ⟨b2, o2, none⟩) L2 c2), (127, .int .i64 (q : Int)), (128, .pointer (some ⟨b2, o2 + q, none⟩)), (129, .slice A4 L4 c4), (130, .string (str X)), (131, .bool false)] ?_ rfl (by rw [hN]; rfl)]
    · exact hQ  w'  hR.undraw
    · intro x hx
      simp only [List.mem_cons, List.not_mem_nil, or_false] at hx
      rcases hx with rfl | rfl | rfl | rfl | rfl | rfl | rfl | rfl | rfl | rfl | rfl
      · exact e0
      · exact e1
      · exact e2
      · exact e3
      · exact e4
      · exact e5
      · exact e6
      · exact e7
      · exact e8
      · exact e9
      · exact e10
def oFR240 (p : String) : Oper := { dst := some 158, op := Op.move (Operand.tmp 14), type := 75, pos := p, after := #[], guard := none }
def oFR241 (p : String) : Oper := { dst := some 159, op := Op.move (Operand.tmp 18), type := 3, pos := p, after := #[], guard := none }
def oFR242 (p : String) : Oper := { dst := some 160, op := Op.indexAddr 75 (Operand.tmp 158) (Operand.tmp 159), type := 0, pos := p, after := #[{ on := 0, ground := Ground.data }, { on := 1, ground := Ground.data }], guard := none }
def oFR243 (p : String) : Oper := { dst := some 161, op := Op.load 39 (Operand.tmp 160), type := 39, pos := p, after := #[{ on := 2, ground := Ground.data }], guard := none }
def oFR244 (p : String) : Oper := { dst := some 162, op := Op.convert 39 9 (Operand.tmp 161), type := 9, pos := p, after := #[{ on := 3, ground := Ground.data }], guard := none }
def oFR245 (p : String) : Oper := { dst := some 163, op := Op.move (Operand.tmp 0), type := 75, pos := p, after := #[], guard := none }
def oFR246 (p : String) : Oper := { dst := some 164, op := Op.move (Operand.tmp 18), type := 3, pos := p, after := #[], guard := none }
def oFR247 (p : String) : Oper := { dst := some 165, op := Op.indexAddr 75 (Operand.tmp 163) (Operand.tmp 164), type := 0, pos := p, after := #[{ on := 5, ground := Ground.data }, { on := 6, ground := Ground.data }], guard := none }
def oFR248 (p : String) : Oper := { dst := some 166, op := Op.load 39 (Operand.tmp 165), type := 39, pos := p, after := #[{ on := 7, ground := Ground.data }], guard := none }
def oFR249 (p : String) : Oper := { dst := some 167, op := Op.convert 39 9 (Operand.tmp 166), type := 9, pos := p, after := #[{ on := 8, ground := Ground.data }], guard := none }
def oFR2410 (p : String) : Oper := { dst := some 168, op := Op.binOp BinOp.neq 9 (Operand.tmp 162) (Operand.tmp 167) 9, type := 4, pos := p, after := #[{ on := 4, ground := Ground.data }, { on := 9, ground := Ground.data }], guard := none }
def opsFR24 (p : String) : List Oper := [oFR240 p, oFR241 p, oFR242 p, oFR243 p, oFR244 p, oFR245 p, oFR246 p, oFR247 p, oFR248 p, oFR249 p, oFR2410 p]
theorem opsFR24_back (p : String) : backwards (opsFR24 p) = true := by kernel_rfl
theorem opsFR24_slots (p : String) : slotsOk 233 (opsFR24 p) = true := by kernel_rfl
/-- What each slot comes to. -/
def psiFR24 (b1 o1 L1 c1 b2 o2 L2 c2 q : Nat) (A3 : Option Addr) (L3 c3 : Nat) (A4 : Option Addr) (L4 c4 : Nat) (X : List UInt8) : Nat → Value → World → Prop
  | 0, v, _ => v = .slice (some ⟨b1, o1, none⟩) L1 c1
  | 1, v, _ => v = .int .i64 (q : Int)
  | 2, v, _ => v = .pointer (some ⟨b1, o1 + q, none⟩)
  | 3, v, _ => v = .slice A3 L3 c3
  | 4, v, _ => v = .string (str X)
  | 5, v, _ => v = .slice (some ⟨b2, o2, none⟩) L2 c2
  | 6, v, _ => v = .int .i64 (q : Int)
  | 7, v, _ => v = .pointer (some ⟨b2, o2 + q, none⟩)
  | 8, v, _ => v = .slice A4 L4 c4
  | 9, v, _ => v = .string (str X)
  | 10, v, _ => v = .bool false
  | _, _, _ => True
theorem psiFR24_grew (b1 o1 L1 c1 b2 o2 L2 c2 q : Nat) (A3 : Option Addr) (L3 c3 : Nat) (A4 : Option Addr) (L4 c4 : Nat) (X : List UInt8) : ∀ i v w w', psiFR24 b1 o1 L1 c1 b2 o2 L2 c2 q A3 L3 c3 A4 L4 c4 X i v w → Grew w w' → psiFR24 b1 o1 L1 c1 b2 o2 L2 c2 q A3 L3 c3 A4 L4 c4 X i v w' := by
  intro i v w w' h hg
  rcases i with _ | _ | _ | _ | _ | _ | _ | _ | _ | _ | _ | i
  · exact h
  · exact h
  · exact h
  · exact h
  · exact h
  · exact h
  · exact h
  · exact h
  · exact h
  · exact h
  · exact h
  · trivial
set_option maxRecDepth 100000 in
set_option maxHeartbeats 4000000 in
theorem frows_cmp {p : String} (b1 o1 L1 c1 b2 o2 L2 c2 q : Nat) (A3 : Option Addr) (L3 c3 : Nat) (A4 : Option Addr) (L4 c4 : Nat) (X : List UInt8) (hq1 : q < L1) (hq2 : q < L2) (hL3 : L3 = X.length) (hL4 : L4 = X.length) (a : Act) (w : World) (Q : Exit → Act → World → Prop) (hN : a.tmps.size = 233) (h0 : a.tmps.getD 0 undef = .slice (some ⟨b2, o2, none⟩) L2 c2) (h14 : a.tmps.getD 14 undef = .slice (some ⟨b1, o1, none⟩) L1 c1) (h18 : a.tmps.getD 18 undef = .int .i64 (q : Int)) (hb1 : b1 < w.heap.size) (hb2 : b2 < w.heap.size) (hx1 : w.cell? ⟨b1, o1 + q, none⟩ = some (.slice A3 L3 c3)) (hx2 : w.cell? ⟨b2, o2 + q, none⟩ = some (.slice A4 L4 c4)) (hA3 : HasA w w.heap.size A3 X) (hA4 : HasA w w.heap.size A4 X) (hQ : ∀ (w' : World), Grew w w' → Q .normal (puts [(158, .slice (some ⟨b1, o1, none⟩) L1 c1), (159, .int .i64 (q : Int)), (160, .pointer (some ⟨b1, o1 + q, none⟩)), (161, .slice A3 L3 c3), (162, .string (str X)), (163, .slice (some ⟨b2, o2, none⟩) L2 c2), (164, .int .i64 (q : Int)), (165, .pointer (some ⟨b2, o2 + q, none⟩)), (166, .slice A4 L4 c4), (167, .string (str X)), (168, .bool false)] a) w')
    : (Code.region 24 (opsFR24 p).toArray true).wp Tryz.prog Q a w := by
  refine (wpIn_wide (n := 1)).1 (wpIn_region_vals 233 hN follows (opsFR24_back p) (opsFR24_slots p) Grew Grew.refl Grew.trans (psiFR24 b1 o1 L1 c1 b2 o2 L2 c2 q A3 L3 c3 A4 L4 c4 X) (psiFR24_grew b1 o1 L1 c1 b2 o2 L2 c2 q A3 L3 c3 A4 L4 c4 X) ?_ ?_)
  · intro i o d ho hd a' w' hF hR hp
    rcases i with _ | _ | _ | _ | _ | _ | _ | _ | _ | _ | _ | i
    · obtain rfl : oFR240 p = o := Option.some.inj ho
      obtain rfl : 158 = d := Option.some.inj hd
      exact step_move rfl rfl rfl (hF.at 14 rfl h14) ⟨_, rfl, rfl, Grew.refl _⟩
    · obtain rfl : oFR241 p = o := Option.some.inj ho
      obtain rfl : 159 = d := Option.some.inj hd
      exact step_move rfl rfl rfl (hF.at 18 rfl h18) ⟨_, rfl, rfl, Grew.refl _⟩
    · obtain rfl : oFR242 p = o := Option.some.inj ho
      obtain rfl : 160 = d := Option.some.inj hd
      have q0 : a'.tmps.getD 158 undef = .slice (some ⟨b1, o1, none⟩) L1 c1 := hp 0 (oFR240 p) 158 rfl rfl rfl
      have q1 : a'.tmps.getD 159 undef = .int .i64 (q : Int) := hp 1 (oFR241 p) 159 rfl rfl rfl
      exact step_index rfl rfl rfl q0 q1 (run_ixB _ _ _ _ _ _ hq1) ⟨_, rfl, rfl, Grew.refl _⟩
    · obtain rfl : oFR243 p = o := Option.some.inj ho
      obtain rfl : 161 = d := Option.some.inj hd
      have q2 : a'.tmps.getD 160 undef = .pointer (some ⟨b1, o1 + q, none⟩) := hp 2 (oFR242 p) 160 rfl rfl rfl
      exact step_load rfl rfl rfl q2 (run_ldB _ _ _ _ _ ((Below.cell hR.undraw (p := ⟨b1, o1 + q, none⟩) hb1).trans hx1)) ⟨_, rfl, rfl, Grew.refl _⟩
    · obtain rfl : oFR244 p = o := Option.some.inj ho
      obtain rfl : 162 = d := Option.some.inj hd
      have q3 : a'.tmps.getD 161 undef = .slice A3 L3 c3 := hp 3 (oFR243 p) 161 rfl rfl rfl
      exact step_cv rfl rfl rfl q3 (run_conv (HasA.below' hA3 hR.undraw) _ Tryz.underlying39 Tryz.underlying5 Tryz.underlying9 hL3) ⟨_, rfl, rfl, Grew.refl _⟩
    · obtain rfl : oFR245 p = o := Option.some.inj ho
      obtain rfl : 163 = d := Option.some.inj hd
      exact step_move rfl rfl rfl (hF.at 0 rfl h0) ⟨_, rfl, rfl, Grew.refl _⟩
    · obtain rfl : oFR246 p = o := Option.some.inj ho
      obtain rfl : 164 = d := Option.some.inj hd
      exact step_move rfl rfl rfl (hF.at 18 rfl h18) ⟨_, rfl, rfl, Grew.refl _⟩
    · obtain rfl : oFR247 p = o := Option.some.inj ho
      obtain rfl : 165 = d := Option.some.inj hd
      have q5 : a'.tmps.getD 163 undef = .slice (some ⟨b2, o2, none⟩) L2 c2 := hp 5 (oFR245 p) 163 rfl rfl rfl
      have q6 : a'.tmps.getD 164 undef = .int .i64 (q : Int) := hp 6 (oFR246 p) 164 rfl rfl rfl
      exact step_index rfl rfl rfl q5 q6 (run_ixB _ _ _ _ _ _ hq2) ⟨_, rfl, rfl, Grew.refl _⟩
    · obtain rfl : oFR248 p = o := Option.some.inj ho
      obtain rfl : 166 = d := Option.some.inj hd
      have q7 : a'.tmps.getD 165 undef = .pointer (some ⟨b2, o2 + q, none⟩) := hp 7 (oFR247 p) 165 rfl rfl rfl
      exact step_load rfl rfl rfl q7 (run_ldB _ _ _ _ _ ((Below.cell hR.undraw (p := ⟨b2, o2 + q, none⟩) hb2).trans hx2)) ⟨_, rfl, rfl, Grew.refl _⟩
    · obtain rfl : oFR249 p = o := Option.some.inj ho
      obtain rfl : 167 = d := Option.some.inj hd
      have q8 : a'.tmps.getD 166 undef = .slice A4 L4 c4 := hp 8 (oFR248 p) 166 rfl rfl rfl
      exact step_cv rfl rfl rfl q8 (run_conv (HasA.below' hA4 hR.undraw) _ Tryz.underlying39 Tryz.underlying5 Tryz.underlying9 hL4) ⟨_, rfl, rfl, Grew.refl _⟩
    · obtain rfl : oFR2410 p = o := Option.some.inj ho
      obtain rfl : 168 = d := Option.some.inj hd
      have q4 : a'.tmps.getD 162 undef = .string (str X) := hp 4 (oFR244 p) 162 rfl rfl rfl
      have q9 : a'.tmps.getD 167 undef = .string (str X) := hp 9 (oFR249 p) 167 rfl rfl rfl
      exact step_bin rfl rfl rfl q4 q9 (guard_str _ _ _ _ _ _ _) (by rw [run_neq]; simp) ⟨_, rfl, rfl, Grew.refl _⟩
    · exact absurd ((Array.getElem?_eq_some_iff.1 ho).1) (by simp [opsFR24])
  · intro a' w' hF hR hp
    have e0 : psiFR24 b1 o1 L1 c1 b2 o2 L2 c2 q A3 L3 c3 A4 L4 c4 X 0 (a'.tmps.getD 158 undef) w' := hp 0 (oFR240 p) 158 rfl rfl
    have e1 : psiFR24 b1 o1 L1 c1 b2 o2 L2 c2 q A3 L3 c3 A4 L4 c4 X 1 (a'.tmps.getD 159 undef) w' := hp 1 (oFR241 p) 159 rfl rfl
    have e2 : psiFR24 b1 o1 L1 c1 b2 o2 L2 c2 q A3 L3 c3 A4 L4 c4 X 2 (a'.tmps.getD 160 undef) w' := hp 2 (oFR242 p) 160 rfl rfl
    have e3 : psiFR24 b1 o1 L1 c1 b2 o2 L2 c2 q A3 L3 c3 A4 L4 c4 X 3 (a'.tmps.getD 161 undef) w' := hp 3 (oFR243 p) 161 rfl rfl
    have e4 : psiFR24 b1 o1 L1 c1 b2 o2 L2 c2 q A3 L3 c3 A4 L4 c4 X 4 (a'.tmps.getD 162 undef) w' := hp 4 (oFR244 p) 162 rfl rfl
    have e5 : psiFR24 b1 o1 L1 c1 b2 o2 L2 c2 q A3 L3 c3 A4 L4 c4 X 5 (a'.tmps.getD 163 undef) w' := hp 5 (oFR245 p) 163 rfl rfl
    have e6 : psiFR24 b1 o1 L1 c1 b2 o2 L2 c2 q A3 L3 c3 A4 L4 c4 X 6 (a'.tmps.getD 164 undef) w' := hp 6 (oFR246 p) 164 rfl rfl
    have e7 : psiFR24 b1 o1 L1 c1 b2 o2 L2 c2 q A3 L3 c3 A4 L4 c4 X 7 (a'.tmps.getD 165 undef) w' := hp 7 (oFR247 p) 165 rfl rfl
    have e8 : psiFR24 b1 o1 L1 c1 b2 o2 L2 c2 q A3 L3 c3 A4 L4 c4 X 8 (a'.tmps.getD 166 undef) w' := hp 8 (oFR248 p) 166 rfl rfl
    have e9 : psiFR24 b1 o1 L1 c1 b2 o2 L2 c2 q A3 L3 c3 A4 L4 c4 X 9 (a'.tmps.getD 167 undef) w' := hp 9 (oFR249 p) 167 rfl rfl
    have e10 : psiFR24 b1 o1 L1 c1 b2 o2 L2 c2 q A3 L3 c3 A4 L4 c4 X 10 (a'.tmps.getD 168 undef) w' := hp 10 (oFR2410 p) 168 rfl rfl
    rw [hF.puts [(158, .slice (some ⟨b1, o1, none⟩) L1 c1), (159, .int .i64 (q : Int)), (160, .pointer (some ⟨b1, o1 + q, none⟩)), (161, .slice A3 L3 c3), (162, .string (str X)), (163, .slice (some ⟨b2, o2, none⟩) L2 c2), (164, .int .i64 (q : Int)), (165, .pointer (some ⟨b2, o2 + q, none⟩)), (166, .slice A4 L4 c4), (167, .string (str X)), (168, .bool false)] ?_ rfl (by rw [hN]; rfl)]
    · exact hQ  w'  hR.undraw
    · intro x hx
      simp only [List.mem_cons, List.not_mem_nil, or_false] at hx
      rcases hx with rfl | rfl | rfl | rfl | rfl | rfl | rfl | rfl | rfl | rfl | rfl
      · exact e0
      · exact e1
      · exact e2
      · exact e3
      · exact e4
      · exact e5
      · exact e6
      · exact e7
      · exact e8
      · exact e9
      · exact e10
end Go.Proofs.YtdiihaeelcbjbaaGreatDoor

-- FrPart
namespace Go.Proofs.YtdiihaeelcbjbaaGreatDoor
open Go.RowKit

section
variable {n : Nat} {ops : Array Oper} {i : Nat} {o : Oper} {a : Act} {w : World} {K : Act → World → Prop} {Q : Exit → Act → World → Prop}
theorem step_field {t : TypeId} {x : Operand} {j : Nat} {vx v : Value} (hi : ops[i]? = some o) (hw : Region.wanted o (yielded ops a.tmps) = true) (ho : o.op = .fieldAddr t x j) (hx : a.eval x = vx) (hr : (Instr.fieldAt t vx j).run Tryz.prog w = .ok v w) (h : K (a.put o.dst v) w) : wpOpIn Fence.wide n Tryz.prog ops Q i K a w :=
  step_run hi hw (by rw [ho]; intro c h; cases h) (by simp [Oper.about, ho]) (by simp [execOp, ho, hx, hr]) h
theorem step_isb {f : FuncId} {xs : Array Operand} {ts : Array TypeId} {vs : Array Value} {X : List UInt8} (hi : ops[i]? = some o) (hw : Region.wanted o (yielded ops a.tmps) = true)
    (ho : o.op = .call { callee := .value (.func f), args := xs, argTypes := ts }) (eg : ∀ args w, (callFunc f args).run Tryz.prog w = .ok (.enter f args) w) (hxs : xs.map a.eval = vs) (hc : Calls Tryz.prog f vs w fun e w' => ∃ v, e = .returned v ∧ IsB w' v X ∧ Below w.heap.size w w')
    (h : ∀ v w', IsB w' v X → Grew w w' → K (a.put o.dst v) w') : wpOpIn Fence.wide n Tryz.prog ops Q i K a w := by
  refine step_call hi hw ho trivial (fun h => by cases h) eg ?_
  rw [hxs]
  refine (callsIn_wide.2 hc).mono ?_
  rintro e w' ⟨v, rfl, hv, hb⟩
  exact ⟨_, rfl, h _ _ hv hb⟩
end
theorem run_part0 (w : World) (D : Nat) : (Instr.fieldAt 188 (.pointer (some ⟨D, 0, none⟩)) 0).run Tryz.prog w = .ok (.pointer (some ⟨D, 0, none⟩)) w := by
  simp [go_sem]
theorem run_part1 (w : World) (D : Nat) : (Instr.fieldAt 188 (.pointer (some ⟨D, 0, none⟩)) 1).run Tryz.prog w = .ok (.pointer (some ⟨D, 1, none⟩)) w := by
  simp [go_sem]
theorem run_ldI (w : World) (p : Addr) (m : Int) (h : w.cell? p = some (.int .i64 m)) : (Instr.loadAt 3 (.pointer (some p))).run Tryz.prog w = .ok (.int .i64 m) w := by
  simp [go_sem, h]
theorem Clone_isb (A : Option Addr) (L c : Nat) (bs : List UInt8) (hL : L = bs.length) (hlen : bs.length ≤ 1000000) (w : World) (hA : HasA w w.heap.size A bs) :
    Calls Tryz.prog 90 #[.slice A L c] w fun e w' => ∃ v, e = .returned v ∧ IsB w' v bs ∧ Below w.heap.size w w' :=
  (Clone_any A L c bs hL hlen w hA).mono fun _ _ ⟨⟨A', c', h, _, hd⟩, hb⟩ => ⟨_, h, ⟨A', L, c', rfl, hL, hd.has⟩, hb⟩
end Go.Proofs.YtdiihaeelcbjbaaGreatDoor

-- FrSeq
namespace Go.Proofs.YtdiihaeelcbjbaaGreatDoor
open Go.RowKit Go.Shelf
attribute [local go_sem] Oper.semAt_some

/-- v is a slice of the bytes X, which lie in a block of bytes from B on. -/
def IsD (B : Nat) (w : World) (v : Value) (X : List UInt8) : Prop := ∃ A L c, v = .slice A L c ∧ L = X.length ∧ L ≤ c ∧ Data w A X ∧ ∀ b o, A = some ⟨b, o, none⟩ → B ≤ b
theorem IsD.same {T : List TypeId} {B : Nat} {W W' : World} {v : Value} {X : List UInt8} (h : IsD B W v X) (hs : SameT T W W') (ht : 5 ∉ T) : IsD B W' v X := by
  obtain ⟨A, L, c, hv, hL, hc, hd, hb⟩ := h
  exact ⟨A, L, c, hv, hL, hc, hs.data hd ht, hb⟩
theorem IsD.isB {B : Nat} {w : World} {v : Value} {X : List UInt8} (h : IsD B w v X) : IsB w v X := by
  obtain ⟨A, L, c, hv, hL, hc, hd, hb⟩ := h
  exact ⟨A, L, c, hv, hL, hd.has⟩

/-- What frame.All has behind some frames: their contents, their end, the error. -/
def AS (w : World) (p : Nat) (dn : List (List UInt8)) (e : Nat) (W : World) : Prop :=
  (∃ v vs, W.heap[w.heap.size]? = some (.cells #[v] 75 (0, 0)) ∧ W.ownsRow w.heap.size 39 1 v dn.length vs ∧ AllB (IsD w.heap.size W) vs dn) ∧
  W.heap[w.heap.size + 1]? = some (.cells #[.int .i64 (p : Int)] 3 (0, 0)) ∧ W.heap[w.heap.size + 2]? = some (.cells #[.int .i64 (e : Int)] 43 (0, 0)) ∧ Below w.heap.size w W
theorem AS.keep {w W W' : World} {p e : Nat} {dn : List (List UInt8)} (h : AS w p dn e W) (hs : SameT [] W W') (hb : Below w.heap.size w W') : AS w p dn e W' := by
  obtain ⟨⟨v, vs, h1, h2, h3⟩, h4, h5, _⟩ := h
  exact ⟨⟨v, vs, hs _ _ _ (by simp) h1, hs.own h2 (by simp), h3.mono fun _ _ h => h.same hs (by simp)⟩, hs _ _ _ (by simp) h4, hs _ _ _ (by simp) h5, hb⟩
theorem AS.grew {w W W' : World} {p e : Nat} {dn : List (List UInt8)} (h : AS w p dn e W) (hg : Below W.heap.size W W') : AS w p dn e W' :=
  h.keep (SameT.grew hg) (h.2.2.2.trans (Below.mono hg h.2.2.2.size))
theorem Abides.as {B : Nat} {w : World} {p e : Nat} {dn : List (List UInt8)} (hB : w.heap.size ≤ B) : Abides B (AS w p dn e) := by
  intro W W' row h hg hr
  exact h.keep (SameT.abides hg hr) (Abides.below (Nat.le_refl _) hB W W' row h.2.2.2 hg hr)
theorem AS.size {w W : World} {p e : Nat} {dn : List (List UInt8)} (h : AS w p dn e W) : w.heap.size + 2 < W.heap.size := (Array.getElem?_eq_some_iff.1 h.2.2.1).1

/-- A call of yield: the block and the value of the part, the error, where it is and what was ahead. -/
structure Yp where
  D : Nat
  A2 : Option Addr
  L2 : Nat
  c2 : Nat
  n : Nat
  e : Nat
  p : Nat
  dn : List (List UInt8)
def Yp.part (x : Yp) : Array Value := #[.slice x.A2 x.L2 x.c2, .int .i64 (x.n : Int)]
def Yp.args (x : Yp) : Array Value := #[.agg x.part, .int .i64 (x.e : Int)]

section
variable (w : World) (bs : List UInt8)
/-- What was told so far is a beginning. -/
def Sofar (p : Nat) (dn : List (List UInt8)) : Prop := al bs = (dn ++ (al (bs.drop p)).1, p + (al (bs.drop p)).2.1, (al (bs.drop p)).2.2)
def YK (x : Yp) : Prop := Sofar bs x.p x.dn ∧ bs.drop x.p ≠ [] ∧
  ((x.e = 0 ∧ ∃ X, tk (bs.drop x.p) = .ok X x.n ∧ x.L2 = X.length ∧ HasA w w.heap.size x.A2 X) ∨ (x.e ≠ 0 ∧ tk (bs.drop x.p) = .err x.e))
def YI0 (A : Option Addr) (L c : Nat) (W : World) : Prop := AS w 0 [] 0 W ∧ W.heap[w.heap.size + 3]? = some (.cells #[.slice A L c] 39 (0, 0))
def YIy (x : Yp) (W : World) : Prop := AS w x.p x.dn 0 W ∧ W.heap[x.D]? = some (.cells x.part 188 (0, 0)) ∧ Hid (YK w bs x)
def YIo (x : Yp) (W : World) : Prop := W.heap[x.D]? = some (.cells x.part 188 (0, 0)) ∧ x.e = 0 ∧ ∃ X, Hid (tk (bs.drop x.p) = .ok X x.n) ∧ AS w (x.p + x.n) (x.dn ++ [X]) 0 W
def YIx (c : Code) (W : World) : Prop := Hid (c = .exit 0) ∧ ∃ p dn e, AS w p dn e W ∧ Hid (al bs = (dn, p, e))
def YId (W : World) : Prop := ∃ p dn, AS w p dn 0 W ∧ Hid (al bs = (dn, p, 0))
end
def sliceLen : Value → Nat
  | .slice _ n _ => n
  | _ => 0

set_option maxRecDepth 100000 in
set_option maxHeartbeats 2000000 in
theorem frames_seq (n : Nat) (hn : 1 ≤ n) (w : World) (A : Option Addr) (L c : Nat) (bs : List UInt8) (hL : L = bs.length) (hlen : L ≤ 200000) (hcap : L ≤ c) (hT : Tab w) (hA : HasA w w.heap.size A bs) (B : Nat) :
    TiedSeq Fence.wide n Tryz.prog 134 #[] #[.pointer (some ⟨w.heap.size + 3, 0, none⟩)] Yp.args B
      (YI0 w A L c) (YId w bs) (YIy w bs) (YIo w bs) (YIx w bs) (YIx w bs) := by
  intro l G Gx hG hGx hY W h0 hGW
  have HL := Lib.hid hL
  have HA := Lib.hid hA
  have HT := Lib.hid hT
  have hli : (L : Int) ≤ 200000 := by omega
  refine callsIn_of_wp Tryz.func134 rfl trivial ?_ rfl
  simp only [Tryz.ntmps134, List.size_toArray, List.length_cons, List.length_nil, Nat.reduceAdd, Nat.reduceSub, Array.replicate_succ, Array.replicate_zero, List.push_toArray, List.append_toArray, List.nil_append, List.cons_append]
  have HY := Lib.hid hY
  have H0 := Lib.hid h0
  have hbx : W.cell? ⟨w.heap.size + 3, 0, none⟩ = some (.slice A L c) := by simpa using blk_cell h0.2 0
  clear hY h0 hL hA hT
  gi_wp2
  gi_loopw [3] (fun v wr => ∃ (p : Nat) (dn : List (List UInt8)) (A' : Option Addr) (M c' : Nat), v = .slice A' M c' ∧ M ≤ c' ∧ M ≤ 200000 ∧ Hid (p + M = L) ∧ Hid (HasA w w.heap.size A' (bs.drop p)) ∧ Hid (AS w p dn 0 wr) ∧ Hid (Sofar bs p dn) ∧ Hid (G wr))
    (fun v _ => sliceLen v)
  case atStart =>
    exact ⟨0, [], A, L, c, rfl, hcap, hlen, Nat.zero_add _, HA.out, H0.out.1, by simp [Sofar, Hid], hGW⟩
  case round =>
    obtain ⟨p, dn, A', M, c', rfl, hMc, hM2, hpM, hA', hst, hso, hGw⟩ := hrel
    have hMi : (M : Int) ≤ 200000 := by omega
    by_cases hM0 : 0 < M
    · have hM0i : (0 : Int) < M := by omega
      have hML : M = (bs.drop p).length := by rw [List.length_drop, ← HL.out]; have := hpM.out; omega
      have HML := Lib.hid hML
      have hne : bs.drop p ≠ [] := fun e => by rw [e] at hML; simp at hML; omega
      have HNE := Lib.hid hne
      obtain ⟨b, o, hAe, -, -⟩ := hA'.out hne
      subst hAe
      clear hML hne
      gi_wp2_with (refine ⟨trivial, ?_⟩; gi_at_call 135; refine (callsIn_wide.2 (first_any _ M c' (bs.drop p) HML.out (by omega) hMc wr w.heap.size hst.out.2.2.2.size (HT.out.grew hst.out.2.2.2) (hA'.out.below hst.out.2.2.2))).mono ?_)
      rintro e W1 (⟨X, m, v, h1, rfl, h3, h4⟩ | ⟨k, h1, rfl, h4⟩)
      · obtain ⟨A2, L2, c2, rfl, hxl, hA2⟩ := h3
        have htp := tk_pos h1
        have hm5 := htp.1
        have hmM : m ≤ M := by rw [HML.out]; exact htp.2
        have hst1 : AS w p dn 0 W1 := hst.out.grew h4
        have hA2w : HasA w w.heap.size A2 X := hA2.keep fun q hq => (hst1.2.2.2.cell hq).symm
        have H1 := Lib.hid h1
        have hblk : (W1.alloc (.cells #[.slice A2 L2 c2, .int .i64 (m : Int)] 188)).heap[W1.heap.size]? = some (.cells #[.slice A2 L2 c2, .int .i64 (m : Int)] 188 (0, 0)) := World.alloc_heap_new W1 _
        have hga : Below W1.heap.size W1 (W1.alloc (.cells #[.slice A2 L2 c2, .int .i64 (m : Int)] 188)) := (Below.refl _ _).alloc (Nat.le_refl _) _
        have hG2 := hG _ _ hGw.out (KeepsFrom.of_grownBy (grownBy_trans (grownBy_of_below (r := none) h4) (grownBy_of_below (r := none) hga)) (fun j e => by cases e))
        obtain ⟨fn, tmps, assign, body, hy, hRR⟩ := HY.out ⟨W1.heap.size, A2, L2, c2, m, 0, p, dn⟩ _ ⟨hst1.grew hga, hblk, hso.out, HNE.out, .inl ⟨rfl, X, h1, hxl, hA2w⟩⟩ hG2
        replace hy := show (Instr.yield l #[.agg #[.slice A2 L2 c2, .int .i64 (m : Int)], .int .i64 0]).run Tryz.prog (W1.alloc (.cells #[.slice A2 L2 c2, .int .i64 (m : Int)] 188)) = _ from hy
        have hmi : (m : Int) ≤ M := by omega
        have hmc : (m : Int) ≤ c' := by omega
        have HXL := Lib.hid hxl
        clear h1 h4 hst1 hA2 hA2w hblk hga hG2 htp hxl
        gi_wp2
        refine hRR.mono ?_
        rintro e W3 (⟨rfl, hIo, hG3⟩ | ⟨rfl, cc, hIx, hGx3⟩)
        · obtain ⟨hblk3, -, X', hX', hst3⟩ := hIo
          obtain rfl : X' = X := by have := hX'.out.symm.trans H1.out; injection this
          have HX' := Lib.hid hX'.out
          have HS3 := Lib.hid hst3
          have HG3 := Lib.hid hG3
          have hc1 : W3.cell? ⟨W1.heap.size, 1, none⟩ = some (.int .i64 (m : Int)) := by
            have := blk_cell hblk3 1
            simpa [Yp.part] using this
          have hso2 : Sofar bs (p + m) (dn ++ [X']) := by
            unfold Sofar
            have h := hso.out
            unfold Sofar at h
            rw [h, al_ok H1.out, List.drop_drop]
            simp [Nat.add_assoc]
          have HSO := Lib.hid hso2
          have hA2' := Lib.hid ((hA'.out.cut b o m rfl))
          clear hX' hst3 hG3 hblk3 hso2 hy
          by_cases hcm : c' = m
          · subst hcm
            gi_wp2
            refine ⟨⟨p + c', dn ++ [X'], _, 0, 0, rfl, Nat.le_refl _, by omega, ?_, ?_, HS3.out, HSO.out, HG3.out⟩, ?_⟩
            · have := hpM.out; show p + c' + 0 = L; omega
            · have h0 : bs.drop (p + c') = [] := List.drop_of_length_le (by rw [← HL.out]; have := hpM.out; omega)
              show HasA _ _ _ _
              rw [h0]; exact HasA.nil _ _ _
            · simp only [sliceLen]; omega
          · have hcm' : ¬ m = c' := fun h => hcm h.symm
            gi_wp2
            refine ⟨⟨p + m, dn ++ [X'], _, M - m, _, rfl, by omega, by omega, ?_, ?_, HS3.out, HSO.out, HG3.out⟩, ?_⟩
            · have := hpM.out; show p + m + (M - m) = L; omega
            · have h := hA2'.out
              rw [List.drop_drop] at h
              exact h
            · simp only [sliceLen]; omega
        · have HIx := Lib.hid hIx
          have HGx3 := Lib.hid hGx3
          clear hIx hGx3 hy
          gi_wp2
          refine bodyPost_ret (results_none rfl _ _ _) rfl ?_
          exact ⟨⟨_, rfl⟩, .inr ⟨cc, HIx.out, HGx3.out⟩⟩
      · have hk0 : k ≠ 0 := fun e => by subst e; exact tk_err_pos _ h1
        have hst1 : AS w p dn 0 W1 := hst.out.grew h4
        have hblk : (W1.alloc (.cells #[.slice none 0 0, .int .i64 0] 188)).heap[W1.heap.size]? = some (.cells #[.slice none 0 0, .int .i64 0] 188 (0, 0)) := World.alloc_heap_new W1 _
        have hga : Below W1.heap.size W1 (W1.alloc (.cells #[.slice none 0 0, .int .i64 0] 188)) := (Below.refl _ _).alloc (Nat.le_refl _) _
        have hG2 := hG _ _ hGw.out (KeepsFrom.of_grownBy (grownBy_trans (grownBy_of_below (r := none) h4) (grownBy_of_below (r := none) hga)) (fun j e => by cases e))
        obtain ⟨fn, tmps, assign, body, hy, hRR⟩ := HY.out ⟨W1.heap.size, none, 0, 0, 0, k, p, dn⟩ _ ⟨hst1.grew hga, hblk, hso.out, HNE.out, .inr ⟨hk0, h1⟩⟩ hG2
        replace hy := show (Instr.yield l #[.agg #[.slice none 0 0, .int .i64 0], .int .i64 (k : Int)]).run Tryz.prog (W1.alloc (.cells #[.slice none 0 0, .int .i64 0] 188)) = _ from hy
        clear h1 h4 hst1 hblk hga hG2
        gi_wp2
        refine hRR.mono ?_
        rintro e W3 (⟨rfl, hIo, hG3⟩ | ⟨rfl, cc, hIx, hGx3⟩)
        · exact absurd hIo.2.1 hk0
        · have HIx := Lib.hid hIx
          have HGx3 := Lib.hid hGx3
          clear hIx hGx3 hy
          gi_wp2
          refine bodyPost_ret (results_none rfl _ _ _) rfl ?_
          exact ⟨⟨_, rfl⟩, .inr ⟨cc, HIx.out, HGx3.out⟩⟩
    · have hM00 : M = 0 := by omega
      subst hM00
      have hal : al bs = (dn, p, 0) := by
        have h := hso.out
        unfold Sofar at h
        have h0 : bs.drop p = [] := List.drop_of_length_le (by rw [← HL.out]; have := hpM.out; omega)
        rw [h0, al_nil] at h
        simpa using h
      have HAL := Lib.hid hal
      clear hal
      gi_wp2
      go_end0
      exact ⟨⟨_, rfl⟩, .inl ⟨⟨p, dn, hst.out, HAL.out⟩, hGw.out⟩⟩
end Go.Proofs.YtdiihaeelcbjbaaGreatDoor

-- FrAllR
namespace Go.Proofs.YtdiihaeelcbjbaaGreatDoor
open Go.RowKit

def oAL0 (p : String) : Oper := { dst := some 18, op := Op.load 75 (Operand.tmp 5), type := 75, pos := p, after := #[], guard := none }
def oAL1 (p : String) : Oper := { dst := some 19, op := Op.fieldAddr 188 (Operand.tmp 8) 0, type := 0, pos := p, after := #[], guard := none }
def oAL2 (p : String) : Oper := { dst := some 20, op := Op.load 39 (Operand.tmp 19), type := 39, pos := p, after := #[{ on := 1, ground := Ground.data }], guard := none }
def oAL3 (p : String) : Oper := { dst := some 21, op := Op.call { callee := Callee.value (Operand.func 90), args := #[Operand.tmp 20], argTypes := #[39] }, type := 39, pos := p, after := #[{ on := 2, ground := Ground.data }], guard := none }
def oAL4 (p : String) : Oper := { dst := some 22, op := Op.buildSlice 75 1 #[(0, Operand.tmp 21)], type := 75, pos := p, after := #[{ on := 3, ground := Ground.data }], guard := none }
def oAL5 (p : String) : Oper := { dst := some 23, op := Op.call { callee := Callee.builtin Builtin.append, args := #[Operand.tmp 18, Operand.tmp 22], argTypes := #[75, 75] }, type := 75, pos := p, after := #[{ on := 0, ground := Ground.data }, { on := 4, ground := Ground.data }, { on := 3, ground := Ground.chain }], guard := none }
def oAL6 (p : String) : Oper := { dst := none, op := Op.store 75 (Operand.tmp 5) (Operand.tmp 23), type := 0, pos := p, after := #[{ on := 5, ground := Ground.data }, { on := 5, ground := Ground.chain }, { on := 0, ground := Ground.phase }, { on := 1, ground := Ground.phase }, { on := 2, ground := Ground.phase }, { on := 3, ground := Ground.phase }, { on := 4, ground := Ground.phase }, { on := 5, ground := Ground.phase }], guard := none }
def opsAL (p : String) : List Oper := [oAL0 p, oAL1 p, oAL2 p, oAL3 p, oAL4 p]
theorem opsAL_back (p : String) : backwards (opsAL p ++ [oAL5 p, oAL6 p]) = true := by kernel_rfl
theorem opsAL_slots (p : String) : slotsOk 31 (opsAL p) = true := by kernel_rfl
theorem opsAL_all (p : String) : ((List.range ((opsAL p).length + 1)).all (hasEdge (oAL6 p))) = true := by kernel_rfl
theorem opsAL_pen (p : String) (L : Nat → Bool) (hcl : ∀ j o' e, (opsAL p ++ [oAL5 p, oAL6 p]).toArray[j]? = some o' → L j = true → e ∈ o'.after → Region.binds .any e = true → L e.on = true) (hp : ∀ e ∈ (oAL5 p).after, Region.binds .any e = true → L e.on = true) : ∀ j, j < (opsAL p).length → L j = true := by
  have h0 : L 0 = true := hp { on := 0, ground := Ground.data } (by simp [oAL5]) rfl
  have h4 : L 4 = true := hp { on := 4, ground := Ground.data } (by simp [oAL5]) rfl
  have h3 : L 3 = true := hcl 4 (oAL4 p) { on := 3, ground := Ground.data } rfl h4 (by simp [oAL4]) rfl
  have h2 : L 2 = true := hcl 3 (oAL3 p) { on := 2, ground := Ground.data } rfl h3 (by simp [oAL3]) rfl
  have h1 : L 1 = true := hcl 2 (oAL2 p) { on := 1, ground := Ground.data } rfl h2 (by simp [oAL2]) rfl
  intro j hj
  have hj' : j < 5 := hj
  rcases j with _ | _ | _ | _ | _ | j
  · exact h0
  · exact h1
  · exact h2
  · exact h3
  · exact h4
  · omega

/-- What each slot comes to. -/
def psiAL (Bb D : Nat) (v : Value) (A2 : Option Addr) (L2 c2 : Nat) (X : List UInt8) : Nat → Value → World → Prop
  | 0, u, _ => u = v
  | 1, u, _ => u = .pointer (some ⟨D, 0, none⟩)
  | 2, u, _ => u = .slice A2 L2 c2
  | 3, u, w => IsD Bb w u X
  | 4, u, w => ∃ q y, u = .slice (some ⟨q, 0, none⟩) 1 1 ∧ w.heap[q]? = some (.cells #[y] 39 (0, 0)) ∧ IsD Bb w y X
  | _, _, _ => True
theorem IsD.grew {Bb : Nat} {w w' : World} {v : Value} {X : List UInt8} (h : IsD Bb w v X) (hg : Grew w w') : IsD Bb w' v X := h.same (SameT.grew (T := []) hg) (by simp)
theorem psiAL_grew (Bb D : Nat) (v : Value) (A2 : Option Addr) (L2 c2 : Nat) (X : List UInt8) : ∀ i u w w', psiAL Bb D v A2 L2 c2 X i u w → Grew w w' → psiAL Bb D v A2 L2 c2 X i u w' := by
  intro i u w w' h hg
  rcases i with _ | _ | _ | _ | _ | i
  · exact h
  · exact h
  · exact h
  · exact IsD.grew h hg
  · obtain ⟨q, y, h1, h2, h3⟩ := h
    exact ⟨q, y, h1, SameT.grew (T := []) hg _ _ _ (by simp) h2, h3.grew hg⟩
  · trivial

theorem run_ldBB (w : World) (p : Addr) (v : Value) (h : w.cell? p = some v) : (Instr.loadAt 75 (.pointer (some p))).run Tryz.prog w = .ok v w := by
  simp [go_sem, h]
theorem run_bs1 (w : World) (A : Option Addr) (L c : Nat) : (Instr.buildSlice 75 1 #[(0, .slice A L c)]).run Tryz.prog w = .ok (.slice (some ⟨w.heap.size, 0, none⟩) 1 1) (w.alloc (.cells #[.slice A L c] 39)) := by
  simp [go_sem]
theorem run_stBB (w : World) (b : Nat) (A' : Option Addr) (n c : Nat) (u : Value) (h : w.cell? ⟨b, 0, none⟩ = some u) (hf : w.frozen? ⟨b, 0, none⟩ = false) : (Instr.storeAt 75 (.pointer (some ⟨b, 0, none⟩)) (.slice A' n c)).run Tryz.prog w = .ok () (w.setCell ⟨b, 0, none⟩ (.slice A' n c)) := by
  simp [go_sem, h, hf]

set_option maxRecDepth 100000 in
set_option maxHeartbeats 4000000 in
theorem all_region {p : String} (l : Nat) (Bb B5 D base k : Nat) (v : Value) (vs : List Value) (A2 : Option Addr) (L2 c2 : Nat) (X : List UInt8) (hxl : L2 = X.length) (hX : L2 ≤ 1000000) (hk : k ≤ 1000000) (a : Act) (w : World) (Q : Exit → Act → World → Prop) (hN : a.tmps.size = 31)
    (h5 : a.tmps.getD 5 undef = .pointer (some ⟨B5, 0, none⟩)) (h8 : a.tmps.getD 8 undef = .pointer (some ⟨D, 0, none⟩)) (hb5 : w.heap[B5]? = some (.cells #[v] 75 (0, 0))) (hD : w.cell? ⟨D, 0, none⟩ = some (.slice A2 L2 c2)) (hDw : D < w.heap.size) (hA2 : HasA w w.heap.size A2 X)
    (hown : w.ownsRow base 39 1 v k vs) (hbase : base ≤ w.heap.size) (hBb : Bb ≤ w.heap.size)
    (hQ : ∀ (u y v' : Value) (q : Nat) (W1 W2 : World), Grew w W1 → IsD Bb W1 y X → W2.ownsRow base 39 1 v' (k + 1) (vs ++ [y]) → W1.grownBy W2 v.ownBlock → Q .normal (puts [(18, v), (19, .pointer (some ⟨D, 0, none⟩)), (20, .slice A2 L2 c2), (21, u), (22, .slice (some ⟨q, 0, none⟩) 1 1), (23, v')] a) (W2.setCell ⟨B5, 0, none⟩ v')) :
    (Code.region 9 (opsAL p ++ [oAL5 p, oAL6 p]).toArray true).wpIn (Fence.wide.inRound l) 2 Tryz.prog Q a w := by
  obtain ⟨iB, hi, hz0, hz1, hz2⟩ := infoB_parts
  have hB5w : B5 < w.heap.size := (Array.getElem?_eq_some_iff.1 hb5).1
  have hc5 : w.cell? ⟨B5, 0, none⟩ = some v := by simpa using blk_cell hb5 0
  refine wpIn_region_two 31 hN follows (opsAL_back p) (opsAL_slots p) (opsAL_all p) (opsAL_pen p) Grew Grew.refl Grew.trans (psiAL Bb D v A2 L2 c2 X) (psiAL_grew Bb D v A2 L2 c2 X) ?_ ?_
  · intro i o d ho hd a' w' hF hR hp
    rcases i with _ | _ | _ | _ | _ | i
    · obtain rfl : oAL0 p = o := Option.some.inj ho
      obtain rfl : 18 = d := Option.some.inj hd
      have hx : a'.eval (.tmp 5) = .pointer (some ⟨B5, 0, none⟩) := hF.at 5 rfl h5
      exact step_run (o := oAL0 p) (v := v) (w' := w') rfl rfl (by intro c h; cases h) (by simp [Oper.about, oAL0]) (by simp [execOp, oAL0, hx, run_ldBB w' _ v ((Below.cell hR.undraw (p := ⟨B5, 0, none⟩) hB5w).trans hc5)]) ⟨_, rfl, rfl, Grew.refl _⟩
    · obtain rfl : oAL1 p = o := Option.some.inj ho
      obtain rfl : 19 = d := Option.some.inj hd
      have hx : a'.eval (.tmp 8) = .pointer (some ⟨D, 0, none⟩) := hF.at 8 rfl h8
      exact step_run (o := oAL1 p) (v := .pointer (some ⟨D, 0, none⟩)) (w' := w') rfl rfl (by intro c h; cases h) (by simp [Oper.about, oAL1]) (by simp [execOp, oAL1, hx, run_part0 w' D]) ⟨_, rfl, rfl, Grew.refl _⟩
    · obtain rfl : oAL2 p = o := Option.some.inj ho
      obtain rfl : 20 = d := Option.some.inj hd
      have hx : a'.eval (.tmp 19) = .pointer (some ⟨D, 0, none⟩) := hp 1 (oAL1 p) 19 rfl rfl rfl
      exact step_run (o := oAL2 p) (v := .slice A2 L2 c2) (w' := w') rfl rfl (by intro c h; cases h) (by simp [Oper.about, oAL2]) (by simp [execOp, oAL2, hx, run_ldB w' _ A2 L2 c2 ((Below.cell hR.undraw (p := ⟨D, 0, none⟩) hDw).trans hD)]) ⟨_, rfl, rfl, Grew.refl _⟩
    · obtain rfl : oAL3 p = o := Option.some.inj ho
      obtain rfl : 21 = d := Option.some.inj hd
      have hx : a'.tmps.getD 20 undef = .slice A2 L2 c2 := hp 2 (oAL2 p) 20 rfl rfl rfl
      refine step_call (o := oAL3 p) rfl rfl (xs := #[.tmp 20]) (ts := #[39]) rfl trivial (fun _ => by omega) (enters_of Tryz.func90 (by kernel_rfl) rfl) ?_
      rw [show Array.map a'.eval #[.tmp 20] = #[.slice A2 L2 c2] from by simp only [List.map_toArray, List.map_cons, List.map_nil, Act.eval, hx]]
      refine (CallsIn.inRound l (callsIn_wide.2 (Clone_new A2 L2 c2 X hxl (by omega) w' (HasA.below' hA2 hR.undraw)))).mono ?_
      rintro e w'' ⟨⟨A', c', rfl, hc', hd, hn'⟩, hb⟩
      exact ⟨_, rfl, _, rfl, ⟨A', L2, c', rfl, hxl, hc', hd, fun b o e => Nat.le_trans hBb (Nat.le_trans (Below.size hR.undraw) (hn' b o e))⟩, hb⟩
    · obtain rfl : oAL4 p = o := Option.some.inj ho
      obtain rfl : 22 = d := Option.some.inj hd
      have hx : IsD Bb w' (a'.tmps.getD 21 undef) X := hp 3 (oAL3 p) 21 rfl rfl rfl
      obtain ⟨A', L', c', hv, hl, hcl, hd, hbd⟩ := id hx
      have hga : Below w'.heap.size w' (w'.alloc (.cells #[.slice A' L' c'] 39)) := (Below.refl _ _).alloc (Nat.le_refl _) _
      have hx' : a'.eval (.tmp 21) = .slice A' L' c' := hv
      rw [hv] at hx
      exact step_run (o := oAL4 p) (v := .slice (some ⟨w'.heap.size, 0, none⟩) 1 1) (w' := w'.alloc (.cells #[.slice A' L' c'] 39)) rfl rfl (by intro c h; cases h) (by simp [Oper.about, oAL4]) (by simp [execOp, oAL4, hx', run_bs1]) ⟨_, rfl, ⟨w'.heap.size, _, rfl, World.alloc_heap_new w' _, hx.grew hga⟩, hga⟩
    · exact absurd ((Array.getElem?_eq_some_iff.1 ho).1) (by simp [opsAL])
  · intro a' w' hF hR hp
    have e0 : a'.tmps.getD 18 undef = v := hp 0 (oAL0 p) 18 rfl rfl
    have e1 : a'.tmps.getD 19 undef = .pointer (some ⟨D, 0, none⟩) := hp 1 (oAL1 p) 19 rfl rfl
    have e2 : a'.tmps.getD 20 undef = .slice A2 L2 c2 := hp 2 (oAL2 p) 20 rfl rfl
    obtain ⟨q, y, e4, hq, hy⟩ : psiAL Bb D v A2 L2 c2 X 4 (a'.tmps.getD 22 undef) w' := hp 4 (oAL4 p) 22 rfl rfl
    have hg := hR.undraw
    have hown' := own_below hown hg
    have hs0 : ∀ j u, ([y] : List Value)[j]? = some u → w'.cell? ((⟨q, 0, none⟩ : Addr).add j) = some u := by
      intro j u hj
      rcases j with _ | j
      · rw [addr_add, blk_cell hq]; simpa using hj
      · simp at hj
    have hy1 : y.oneCell' = true := by obtain ⟨A', L', c', rfl, _⟩ := hy; rfl
    obtain ⟨v', W2, hrun, hown2, hg2, -⟩ := run_append_own (P := Tryz.prog) w' base 75 75 39 iB (.slice none 0 0) 1 24 Tryz.underlying75 hi hz0 hz1 hz2 rfl (by decide) v k vs hown' ⟨q, 0, none⟩ 1 1 [y] rfl hs0 (fun u hu => by rw [List.mem_singleton.1 hu]; exact hy1) (by simp only [maxLen]; omega) (by omega) (Nat.le_trans hbase (Below.size hg))
    obtain ⟨A3, c3, rfl⟩ := own_form hown2
    have hx18 : a'.eval (.tmp 18) = v := e0
    have hx22 : a'.eval (.tmp 22) = .slice (some ⟨q, 0, none⟩) 1 1 := e4
    refine step_run (o := oAL5 p) (v := .slice A3 (k + 1) c3) (w' := W2) rfl rfl (by intro c h; cases h) (by simp [Oper.about, oAL5, resolve, Target.leads, Sem.run_pure]) (by
      unfold execOp
      simp only [oAL5, resolve, invoke, builtin, Sem.run_bind, Sem.run_pure, Result.andThen_ok, List.map_toArray, List.map_cons, List.map_nil, hx18, hx22, hrun]) ?_
    have hty := own_typed hown'
    have hb5' : w'.heap[B5]? = some (.cells #[v] 75 (0, 0)) := SameT.grew (T := []) hg _ _ _ (by simp) hb5
    have hb52 : W2.heap[B5]? = some (.cells #[v] 75 (0, 0)) := SameT.grown hg2 hty _ _ _ (by decide) hb5'
    have hn' : (a'.put (some 23) (.slice A3 (k + 1) c3)).tmps.size = 31 := size_put.trans (hF.size.trans hN)
    have hx5 : (a'.put (some 23) (.slice A3 (k + 1) c3)).eval (.tmp 5) = .pointer (some ⟨B5, 0, none⟩) := (getD_put_ne (by decide)).trans (hF.at 5 rfl h5)
    have hx23 : (a'.put (some 23) (.slice A3 (k + 1) c3)).eval (.tmp 23) = .slice A3 (k + 1) c3 := getD_put_same (by rw [hF.size, hN]; decide)
    refine step_skip (o := oAL6 p) (w' := W2.setCell ⟨B5, 0, none⟩ (.slice A3 (k + 1) c3)) rfl rfl (by intro c h; cases h) (by simp [Oper.about, oAL6]) (by
      have hst := run_stBB W2 B5 A3 (k + 1) c3 v (by simpa using blk_cell hb52 0) (blk_frozen hb52 0)
      have h5x : (a'.put (oAL5 p).dst (.slice A3 (k + 1) c3)).eval (.tmp 5) = .pointer (some ⟨B5, 0, none⟩) := hx5
      have h23x : (a'.put (oAL5 p).dst (.slice A3 (k + 1) c3)).eval (.tmp 23) = .slice A3 (k + 1) c3 := hx23
      unfold execOp
      simp only [oAL6, h5x, h23x, Sem.run_bind, hst, Result.andThen_ok]
      rfl) ?_
    have hput : a'.put (some 23) (.slice A3 (k + 1) c3) = puts [(18, v), (19, .pointer (some ⟨D, 0, none⟩)), (20, .slice A2 L2 c2), (21, a'.tmps.getD 21 undef), (22, .slice (some ⟨q, 0, none⟩) 1 1), (23, .slice A3 (k + 1) c3)] a := by
      have h1 := hF.puts [(18, v), (19, .pointer (some ⟨D, 0, none⟩)), (20, .slice A2 L2 c2), (21, a'.tmps.getD 21 undef), (22, .slice (some ⟨q, 0, none⟩) 1 1)] (by
        intro x hx
        simp only [List.mem_cons, List.not_mem_nil, or_false] at hx
        rcases hx with rfl | rfl | rfl | rfl | rfl
        · exact e0
        · exact e1
        · exact e2
        · rfl
        · exact e4) rfl (by rw [hN]; rfl)
      conv => lhs; rw [h1]
      rfl
    show Q .normal (a'.put (some 23) (.slice A3 (k + 1) c3)) _
    rw [hput]
    exact hQ _ y _ q w' W2 hg hy hown2 hg2
end Go.Proofs.YtdiihaeelcbjbaaGreatDoor

-- FrAll
namespace Go.Proofs.YtdiihaeelcbjbaaGreatDoor
open Go.RowKit Go.Shelf
attribute [local go_sem] Oper.semAt_some

set_option maxHeartbeats 1000000 in
theorem frames_in (n : Nat) (A : Option Addr) (L c : Nat) (w : World) :
    CallsIn Fence.wide n Tryz.prog 129 #[.slice A L c] w fun e w' => e = .returned (.func (.func 134) #[] #[.pointer (some ⟨w.heap.size, 0, none⟩)]) ∧ w' = w.alloc (.cells #[.slice A L c] 39) := by
  refine callsIn_of_wp Tryz.func129 rfl trivial ?_ rfl
  simp only [Tryz.ntmps129, List.size_toArray, List.length_cons, List.length_nil, Nat.reduceAdd, Nat.reduceSub, Array.replicate_succ, Array.replicate_zero, List.push_toArray, List.append_toArray, List.nil_append, List.cons_append]
  gi_wp2
  go_ret
  exact ⟨rfl, rfl⟩

theorem AS.err {w W : World} {p : Nat} {dn : List (List UInt8)} (h : AS w p dn 0 W) (e : Nat) : AS w p dn e (W.setCell ⟨w.heap.size + 2, 0, none⟩ (.int .i64 (e : Int))) := by
  obtain ⟨⟨v, vs, h1, h2, h3⟩, h4, h5, hB⟩ := h
  have hs := SameT.set (i := 0) h5 (.int .i64 (e : Int))
  refine ⟨⟨v, vs, hs _ _ _ (by decide) h1, hs.own h2 (by decide), h3.mono fun _ _ h => h.same hs (by decide)⟩, hs _ _ _ (by decide) h4, ?_, hB.setCell (p := ⟨w.heap.size + 2, 0, none⟩) (by simp) _⟩
  rw [blk_set h5]; rfl

/-- What frame.All gives back, with whose memory it is: all of it new. -/
def AllNew (w : World) (bs : List UInt8) (e : Ending) (W' : World) : Prop :=
  ∃ v vs, e = .returned (.tuple #[v, .int .i64 ((al bs).2.1 : Int), .int .i64 ((al bs).2.2 : Int)]) ∧ W'.ownsRow w.heap.size 39 1 v (al bs).1.length vs ∧ AllB (IsD w.heap.size W') vs (al bs).1 ∧ Below w.heap.size w W'
theorem AllNew.post {w : World} {bs : List UInt8} {e : Ending} {W' : World} (h : AllNew w bs e W') : AllPost w bs e W' := by
  obtain ⟨v, vs, he, ho, ha, hb⟩ := h
  exact ⟨v, he, IsBB.own ho (ha.mono fun v X h => h.isB), hb⟩
/-- What is handed back, when the loop's own record is closed. -/
theorem all_end {w W : World} {p e D n : Nat} {dn : List (List UInt8)} {v : Value} {vs : List Value} (hD : w.heap.size ≤ D) (h : AS w p dn e W) (ho : W.ownsRow w.heap.size 39 1 v n vs) (ha : AllB (IsD w.heap.size W) vs dn) (hK : W.heap[D]? = some (.deferred (some []))) :
    (W.drew.putObj D (.deferred none)).ownsRow w.heap.size 39 1 v n vs ∧ AllB (IsD w.heap.size (W.drew.putObj D (.deferred none))) vs dn ∧ Below w.heap.size w (W.drew.putObj D (.deferred none)) := by
  have hr : ∀ r, some D = some r → w.heap.size ≤ r ∧ ∃ o, W.drew.heap[r]? = some o ∧ o.isCells = false := fun r e => by cases e; exact ⟨hD, _, hK, rfl⟩
  have hs : SameT [] W (W.drew.putObj D (.deferred none)) := (SameT.drew (T := []) W).trans (SameT.abides (T := []) (grownBy_putObj' W.drew D _) hr)
  refine ⟨hs.own ho (by simp), ha.mono fun _ _ h => h.same hs (by simp), ?_⟩
  exact Abides.below (Nat.le_refl _) (Nat.le_refl _) W.drew _ (some D) h.2.2.2.drew (grownBy_putObj' W.drew D _) hr

/-- The frame of a round: the part's block is D'. -/
def frA (w : World) (A : Option Addr) (L c : Nat) (x : Yp) (D' : Nat) : Act :=
  { tmps := #[.slice A L c, undef, .slice none 0 0, .int .i64 0, .int .i64 0, .pointer (some ⟨w.heap.size, 0, none⟩), .pointer (some ⟨w.heap.size + 1, 0, none⟩), .pointer (some ⟨w.heap.size + 1 + 1, 0, none⟩), .pointer (some ⟨D', 0, none⟩), .int .i64 (x.e : Int), .slice A L c, .func (.func 134) #[] #[.pointer (some ⟨w.heap.size + 1 + 1 + 1, 0, none⟩)], .agg x.part, .int .i64 (x.e : Int), undef, undef, undef, undef, undef, undef, undef, undef, undef, undef, undef, undef, undef, undef, undef, undef, undef], defers := [] }
def AftA (w : World) (bs : List UInt8) (A : Option Addr) (L c : Nat) (x : Yp) (a : Act) (W : World) : Prop :=
  ∃ D', a = frA w A L c x D' ∧ YIy w bs x W ∧ W.heap[D']? = some (.cells x.part 188 (0, 0))

set_option maxRecDepth 100000 in
set_option maxHeartbeats 4000000 in
theorem all_in (n : Nat) (hn : 4 ≤ n) (A : Option Addr) (L c : Nat) (bs : List UInt8) (w : World) (hL : L = bs.length) (hlen : L ≤ 200000) (hcap : L ≤ c) (hT : Tab w) (hA : HasA w w.heap.size A bs) :
    CallsIn Fence.wide n Tryz.prog 117 #[.slice A L c] w (AllNew w bs) := by
  have h1 : 1 ≤ n := by omega
  have HL := Lib.hid hL
  have HA := Lib.hid hA
  have HT := Lib.hid hT
  clear hL hA hT
  refine callsIn_of_wp_marks Tryz.func117 rfl trivial ?_ rfl
  simp only [Tryz.ntmps117, List.size_toArray, List.length_cons, List.length_nil, Nat.reduceAdd, Nat.reduceSub, Array.replicate_succ, Array.replicate_zero, List.push_toArray, List.append_toArray, List.nil_append, List.cons_append]
  refine wpIn_wide.2 ?_
  go_wp2
  go_step3
  go_wp2
  go_step3
  go_wp2_with fail
  refine ((callsIn_wide (n := 1)).1 (frames_in 1 A L c _)).mono ?_
  rintro e w' ⟨rfl, rfl⟩
  simp only [World.size_alloc]
  obtain ⟨W0, hW0⟩ : ∃ W0, W0 = (((w.alloc (Obj.cells #[Value.slice none 0 0] 75)).alloc (Obj.cells #[Value.int IntKind.i64 0] 3)).alloc (Obj.cells #[Value.int IntKind.i64 0] 43)).alloc (Obj.cells #[.slice A L c] 39) := ⟨_, rfl⟩
  have hsz : W0.heap.size = w.heap.size + 4 := by rw [hW0]; simp
  have hst0 : YI0 w A L c W0 := by
    have hn : ∀ (V : World) (o : Obj) (k : Nat), V.heap.size = k → (V.alloc o).heap[k]? = some o := fun V o k h => by subst h; exact World.alloc_heap_new V o
    have hk : ∀ (V : World) (o : Obj) (k : Nat), k < V.heap.size → (V.alloc o).heap[k]? = V.heap[k]? := fun V o k h => Below.heap_alloc _ _ _ h
    subst hW0
    refine ⟨⟨⟨.slice none 0 0, [], ?_, World.ownsRow_nil _ _ _ _, AllB.nil⟩, ?_, ?_, ?_⟩, ?_⟩
    · rw [hk _ _ _ (by simp <;> omega), hk _ _ _ (by simp <;> omega), hk _ _ _ (by simp)]; exact hn _ _ _ rfl
    · rw [hk _ _ _ (by simp <;> omega), hk _ _ _ (by simp)]; exact hn _ _ _ (by simp)
    · rw [hk _ _ _ (by simp)]; exact hn _ _ _ (by simp)
    · exact ((((Below.refl _ _).alloc (Nat.le_refl _) _).alloc (by simp) _).alloc (by simp <;> omega) _).alloc (by simp <;> omega) _
    · exact hn _ _ _ (by simp)
  rw [← hW0]
  have HST := Lib.hid hst0
  have HSZ := Lib.hid hsz
  have hle0 : w.heap.size ≤ W0.heap.size := by omega
  clear hst0 hW0 hsz
  go_wp2
  refine (wpIn_wide (n := 4)).1 ?_
  refine wpIn_rangeFunc_tied2 rfl (by omega) (gf := 134) (fb := #[]) (lb := #[.pointer (some ⟨w.heap.size + 3, 0, none⟩)]) rfl trivial (enters_of Tryz.func134 (by kernel_rfl) rfl) (encs := Yp.args) (fun _ => rfl)
    ((Abides.as hle0).and Abides.block) ?dn (fun x => (Abides.as hle0).and (Abides.block.and (Abides.pure _))) ?io ?lx1 ?lx2
    (frames_seq 3 (by omega) w A L c bs HL.out hlen hcap HT.out HA.out W0.heap.size) HST.out (AftA w bs A L c) ?aft ?assign ?body ?done ?stop
  case dn =>
    rintro W W' row ⟨p, dn, h, hp⟩ hg hr
    exact ⟨p, dn, Abides.as hle0 W W' row h hg hr, hp⟩
  case io =>
    rintro x W W' row ⟨h1, h2, X, h3, h4⟩ hg hr
    exact ⟨Abides.block W W' row h1 hg hr, h2, X, h3, Abides.as hle0 W W' row h4 hg hr⟩
  case lx1 =>
    rintro c W W' row ⟨h1, p, dn, e, h, hp⟩ hg hr
    exact ⟨h1, p, dn, e, Abides.as hle0 W W' row h hg hr, hp⟩
  case lx2 =>
    rintro c W W' row ⟨h1, p, dn, e, h, hp⟩ hg hr
    exact ⟨h1, p, dn, e, Abides.as hle0 W W' row h hg hr, hp⟩
  case aft =>
    rintro x a' W W' row ⟨D', h1, ⟨h2, h3, h4⟩, h5⟩ hg hr
    exact ⟨D', h1, ⟨Abides.as hle0 W W' row h2 hg hr, Abides.block W W' row h3 hg hr, h4⟩, Abides.block W W' row h5 hg hr⟩
  case assign =>
    rintro l x W K ⟨h1, h2, h3⟩ hle hK
    have H1 := Lib.hid h1
    have H2 := Lib.hid h2
    clear h1 h2
    simp only [Yp.args, Yp.part] at H2 ⊢
    gi_wp2
    have hga : Below W.heap.size W (W.alloc (.cells #[.slice x.A2 x.L2 x.c2, .int .i64 (x.n : Int)] 188)) := (Below.refl _ _).alloc (Nat.le_refl _) _
    exact hK _ _ (KeepsFrom.of_grownBy (grownBy_of_below (r := none) hga) (fun j e => by cases e)) ⟨W.heap.size, rfl, ⟨H1.out.grew hga, (SameT.grew (T := []) hga) _ _ _ (by simp) H2.out, h3⟩, World.alloc_heap_new W _⟩
  case body =>
    rintro l ⟨D, A2, L2, c2, m, e, p, dn⟩ a' W ⟨D', rfl, ⟨hst, hD, hyk⟩, hD'⟩ hlt
    simp only [Yp.part] at hD hD'
    have hc0 : W.cell? ⟨D', 0, none⟩ = some (.slice A2 L2 c2) := by simpa using blk_cell hD' 0
    have hc1 : W.cell? ⟨D', 1, none⟩ = some (.int .i64 (m : Int)) := by simpa using blk_cell hD' 1
    have HD := Lib.hid hD
    have HD' := Lib.hid hD'
    have HS := Lib.hid hst
    have hsz := hst.size
    obtain ⟨⟨v, vs, h5, hown, hall⟩, h6, h7, hB⟩ := hst
    have hp5 : W.cell? ⟨w.heap.size, 0, none⟩ = some v := by simpa using blk_cell h5 0
    have hp6 : W.cell? ⟨w.heap.size + 1, 0, none⟩ = some (.int .i64 (p : Int)) := by simpa using blk_cell h6 0
    have hp7 : W.cell? ⟨w.heap.size + 1 + 1, 0, none⟩ = some (.int .i64 0) := by simpa using blk_cell h7 0
    have hf5 := blk_frozen h5 0
    have hf6 := blk_frozen h6 0
    have hf7 : W.frozen? ⟨w.heap.size + 1 + 1, 0, none⟩ = false := blk_frozen h7 0
    have H5 := Lib.hid h5
    have H6 := Lib.hid h6
    have H7 := Lib.hid h7
    have HO := Lib.hid hown
    have HALL := Lib.hid hall
    have B0 := Lib.hid hB
    clear hD hD' h5 h6 h7 hown hall hB
    simp only [frA, Yp.part]
    rcases Nat.eq_zero_or_pos e with he | he
    · subst he
      obtain ⟨hso, hne, hcs⟩ := hyk.out
      obtain ⟨X, htk, hxl, hA2⟩ : ∃ X, tk (bs.drop p) = .ok X m ∧ L2 = X.length ∧ HasA w w.heap.size A2 X := by
        rcases hcs with ⟨_, X, h⟩ | ⟨h, _⟩
        · exact ⟨X, h⟩
        · exact absurd rfl h
      have hpL : p < L := by
        rcases Nat.lt_or_ge p L with h | h
        · exact h
        · exact absurd (List.drop_of_length_le (by rw [← HL.out]; exact h)) hne
      have hdl : dn.length ≤ 1000000 := by
        have h := al_count bs
        simp only [Sofar] at hso
        rw [hso] at h
        simp only [List.length_append] at h
        have := HL.out; omega
      have hpm : p + m ≤ L := by
        have h := (tk_pos htk).2
        rw [List.length_drop, ← HL.out] at h
        omega
      have hX2 : L2 ≤ 1000000 := by have := (tk_ok htk).1.2; omega
      have HTK := Lib.hid htk
      have HXL := Lib.hid hxl
      have HA2 := Lib.hid ((hA2.below B0.out).more B0.out.size)
      have HDL := Lib.hid hdl
      have hpmi : (p : Int) + (m : Int) ≤ 200000 := by omega
      clear hyk hso hne hcs htk hxl hA2 hdl
      gi_wp2
      refine all_region l w.heap.size w.heap.size D' w.heap.size dn.length v vs A2 L2 c2 X HXL.out hX2 HDL.out _ W _ rfl rfl rfl H5.out hc0 (Array.getElem?_eq_some_iff.1 HD'.out).1 HA2.out HO.out B0.out.size B0.out.size ?_
      intro u y v' q W1 W2 hg1 hy hown2 hg2
      have hs1 : SameT [] W W1 := SameT.grew hg1
      have hty := own_typed (own_below HO.out hg1)
      have hs2 : SameT [39] W1 W2 := SameT.grown hg2 hty
      have hs12 := hs1.trans hs2
      have h52 := hs12 _ _ _ (by decide) H5.out
      have hs3 : SameT [75] W2 (W2.setCell ⟨w.heap.size, 0, none⟩ v') := SameT.set h52 v'
      have hs := hs12.trans hs3
      have h63 := hs _ _ _ (by decide) H6.out
      have hD3 := hs _ _ _ (by decide) HD'.out
      have hc13 : (W2.setCell ⟨w.heap.size, 0, none⟩ v').cell? ⟨D', 1, none⟩ = some (.int .i64 (m : Int)) := by simpa using blk_cell hD3 1
      have hc63 : (W2.setCell ⟨w.heap.size, 0, none⟩ v').cell? ⟨w.heap.size + 1, 0, none⟩ = some (.int .i64 (p : Int)) := by simpa using blk_cell h63 0
      have hf63 := blk_frozen h63 0
      have hkeep : KeepsOthers W (W2.setCell ⟨w.heap.size, 0, none⟩ v') := ((KeepsOthers.of_grownBy (grownBy_of_below (r := none) hg1) (fun j o e => by cases e)).trans (KeepsOthers.of_grownBy hg2 (fun j o e ho => by
        obtain ⟨cs, hc⟩ := hty j e
        rw [hc] at ho; cases ho; rfl))).trans (KeepsOthers.setCell _ _ _)
      have hB3 : Below w.heap.size w (W2.setCell ⟨w.heap.size, 0, none⟩ v') := ((B0.out.trans (Below.mono hg1 B0.out.size)).grown hg2 (Nat.le_trans B0.out.size (Below.size hg1)) (fun k e => (HO.out.lt k e).1)).setCell (p := ⟨w.heap.size, 0, none⟩) (Nat.le_refl _) _
      have hb53 : (W2.setCell ⟨w.heap.size, 0, none⟩ v').heap[w.heap.size]? = some (.cells #[v'] 75 (0, 0)) := by rw [blk_set h52]; rfl
      have hown3 := hs3.own hown2 (by decide)
      have hall3 : AllB (IsD w.heap.size (W2.setCell ⟨w.heap.size, 0, none⟩ v')) (vs ++ [y]) (dn ++ [X]) := (HALL.out.mono fun _ _ h => h.same hs (by decide)).snoc ((hy.same hs2 (by decide)).same hs3 (by decide))
      have h73 := hs _ _ _ (by decide) H7.out
      have hDD3 := hs _ _ _ (by decide) HD.out
      obtain ⟨W3, hW3⟩ : ∃ W3, W3 = W2.setCell ⟨w.heap.size, 0, none⟩ v' := ⟨_, rfl⟩
      rw [← hW3] at hc13 hc63 hf63 hkeep hB3 hb53 hown3 hall3 h73 hDD3 h63 ⊢
      have HF := Lib.hid (show KeepsOthers W W3 ∧ Below w.heap.size w W3 ∧ W3.heap[w.heap.size]? = some (.cells #[v'] 75 (0, 0)) ∧ W3.ownsRow w.heap.size 39 1 v' (dn.length + 1) (vs ++ [y]) ∧ AllB (IsD w.heap.size W3) (vs ++ [y]) (dn ++ [X]) ∧ W3.heap[w.heap.size + 2]? = some (.cells #[.int .i64 ((0 : Nat) : Int)] 43 (0, 0)) ∧ W3.heap[D]? = some (.cells #[.slice A2 L2 c2, .int .i64 (m : Int)] 188 (0, 0)) ∧ W3.heap[w.heap.size + 1]? = some (.cells #[.int .i64 (p : Int)] 3 (0, 0)) from ⟨hkeep, hB3, hb53, hown3, hall3, h73, hDD3, h63⟩)
      clear hW3 hkeep hB3 hb53 hown3 hall3 h73 hDD3 h63 hs hs3 hs12 hs2 hs1 hty h52 hD3 hown2 hg2 hg1 hy hp5 hp6 hp7 hf5 hf6 hf7 hc0 hc1
      simp only [puts, List.foldl_cons, List.foldl_nil, Act.put, List.setIfInBounds_toArray, List.set_cons_succ, List.set_cons_zero]
      gi_wp2
      obtain ⟨k1, k2, k3, k4, k5, k6, k7, k8⟩ := HF.out
      have hs4 : SameT [3] W3 (W3.setCell ⟨w.heap.size + 1, 0, none⟩ (.int .i64 ((p : Int) + (m : Int)))) := SameT.set k8 _
      refine ⟨(k1.trans (KeepsOthers.setCell _ _ _)).from _, hs4 _ _ _ (by decide) k7, rfl, X, HTK.out, ⟨v', vs ++ [y], hs4 _ _ _ (by decide) k3, ?_, k5.mono fun _ _ h => h.same hs4 (by decide)⟩, ?_, hs4 _ _ _ (by decide) k6, k2.setCell (p := ⟨w.heap.size + 1, 0, none⟩) (by simp) _⟩
      · rw [List.length_append]; exact hs4.own k4 (by decide)
      · rw [blk_set k8]; rfl
    · have hei : ((e : Int) == 0) = false := by simp; omega
      gi_wp2
      have hal : al bs = (dn, p, e) := by
        obtain ⟨h1, h2, h3⟩ := hyk.out
        rcases h3 with ⟨h3, _⟩ | ⟨_, h3⟩
        · simp at h3; omega
        · simp only [Sofar] at h1
          rw [h1, al_err h2 h3]
          simp
      exact ⟨(KeepsOthers.setCell _ _ _).from _, rfl, p, dn, e, HS.out.err e, hal⟩
  case done =>
    rintro D W hD ⟨p, dn, hst, hal⟩ hK
    have HK := Lib.hid hK
    have HS := Lib.hid hst
    obtain ⟨⟨v, vs, h5, hown, hall⟩, h6, h7, hB⟩ := hst
    have hp5 : W.cell? ⟨w.heap.size, 0, none⟩ = some v := by simpa using blk_cell h5 0
    have hp6 : W.cell? ⟨w.heap.size + 1, 0, none⟩ = some (.int .i64 (p : Int)) := by simpa using blk_cell h6 0
    have hp7 : W.cell? ⟨w.heap.size + 1 + 1, 0, none⟩ = some (.int .i64 0) := by simpa using blk_cell h7 0
    have HO := Lib.hid hown
    have HALL := Lib.hid hall
    clear hK h5 h6 h7 hown hall hB
    obtain ⟨A9, c9, rfl⟩ := own_form HO.out
    go_wp2
    go_region
    go_wp2
    rw [Exit.noGoto_ret]
    obtain ⟨hbo, hba, hbe⟩ := all_end (D := D) (by have := HSZ.out; omega) HS.out HO.out HALL.out HK.out
    refine ⟨by simp, .inl ⟨_, _, rfl, run_takeDeferred (w := W.drew) HK.out, ?_⟩⟩
    refine ⟨_, by simp [results, Tryz.results117]; rfl, .slice A9 dn.length c9, vs, ?_, ?_, ?_, hbe⟩
    · rw [hal.out]; rfl
    · rw [hal.out]; exact hbo
    · rw [hal.out]; exact hba
  case stop =>
    rintro D c W hD ⟨hc, p, dn, e, hst, hal⟩ hK
    obtain rfl := hc.out
    have HK := Lib.hid hK
    have HS := Lib.hid hst
    obtain ⟨⟨v, vs, h5, hown, hall⟩, h6, h7, hB⟩ := hst
    have hp5 : W.cell? ⟨w.heap.size, 0, none⟩ = some v := by simpa using blk_cell h5 0
    have hp6 : W.cell? ⟨w.heap.size + 1, 0, none⟩ = some (.int .i64 (p : Int)) := by simpa using blk_cell h6 0
    have hp7 : W.cell? ⟨w.heap.size + 1 + 1, 0, none⟩ = some (.int .i64 (e : Int)) := by simpa using blk_cell h7 0
    have HO := Lib.hid hown
    have HALL := Lib.hid hall
    clear hK h5 h6 h7 hown hall hB
    obtain ⟨A9, c9, rfl⟩ := own_form HO.out
    refine wpIn_wide.2 ?_
    go_wp2
    go_region
    go_wp2
    rw [Exit.noGoto_ret]
    obtain ⟨hbo, hba, hbe⟩ := all_end (D := D) (by have := HSZ.out; omega) HS.out HO.out HALL.out HK.out
    refine ⟨by simp, .inl ⟨_, _, rfl, run_takeDeferred (w := W.drew) HK.out, ?_⟩⟩
    refine ⟨_, by simp [results, Tryz.results117]; rfl, .slice A9 dn.length c9, vs, ?_, ?_, ?_, hbe⟩
    · rw [hal.out]
    · rw [hal.out]; exact hbo
    · rw [hal.out]; exact hba
/-- frame.All. -/
theorem all_new (A : Option Addr) (L c : Nat) (bs : List UInt8) (w : World) (hL : L = bs.length) (hl : L ≤ 200000) (hlc : L ≤ c) (hT : Tab w) (hA : HasA w w.heap.size A bs) : Calls Tryz.prog 117 #[.slice A L c] w (AllNew w bs) := (callsIn_wide (n := 4)).1 (all_in 4 (by omega) A L c bs w hL hl hlc hT hA)
theorem all_any : AllSpec := fun A L c bs w hL hl hlc hT hA => (all_new A L c bs w hL hl hlc hT hA).mono fun _ _ h => h.post
end Go.Proofs.YtdiihaeelcbjbaaGreatDoor
