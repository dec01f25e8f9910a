/- The contract of frame.sumOf: the checksum's four bytes, the lowest first, as an array. -/
import Derived.Test.YtbhncffeoolhfaaDoorFrSpec
import Derived.Test.YtbhncffeoolhfaaDoorCrcCode
namespace Go.Proofs.YtbhncffeoolhfaaDoor
open Go.RowKit

/-- The four bytes of a sum as an array's value. -/
def sumV (s : Nat) : Value := .agg #[.int .u8 ((s : Int) % 256), .int .u8 ((s : Int) / 256 % 256), .int .u8 ((s : Int) / 65536 % 256), .int .u8 ((s : Int) / 16777216)]
/-- The bytes that are there behind k rounds. -/
def sumC (s k : Nat) : Array Value := #[.int .u8 (if 0 < k then (s : Int) % 256 else 0), .int .u8 (if 1 < k then (s : Int) / 256 % 256 else 0), .int .u8 (if 2 < k then (s : Int) / 65536 % 256 else 0), .int .u8 (if 3 < k then (s : Int) / 16777216 else 0)]
/-- What the loop keeps: both arrays. -/
def SK (w : World) (s k : Nat) (W : World) : Prop := Below w.heap.size w W ∧ W.heap[w.heap.size]? = some (.cells (sumC s 0) 39 (0, 0)) ∧ W.heap[w.heap.size + 1]? = some (.cells (sumC s k) 39 (0, 0))
theorem SK.step {w W : World} {s k : Nat} {u : Int} (h : SK w s k W) (hk : k < 4) (hu : (sumC s k).setIfInBounds k (.int .u8 u) = sumC s (k + 1)) : SK w s (k + 1) (W.setCell ⟨w.heap.size + 1, k, none⟩ (.int .u8 u)) := by
  obtain ⟨h1, h2, h3⟩ := h
  refine ⟨h1.setCell (p := ⟨w.heap.size + 1, k, none⟩) (by simp) _, (Below.heap_setCell _ _ _ _ (by simp)).trans h2, ?_⟩
  rw [blk_set h3, hu]

set_option maxHeartbeats 1000000 in
theorem sumOf_any (A : Option Addr) (L c : Nat) (bs : List UInt8) (hL : L = bs.length) (hlen : L ≤ 1000000) (w : World) (hT : Tab w) (hA : HasA w w.heap.size A bs) :
    Calls Tryd.prog 15 #[.slice A L c] w fun e w' => e = .returned (sumV (crcSum bs)) ∧ Below w.heap.size w w' := by
  have HL := Lib.hid hL
  have HA := Lib.hid hA
  have HT := Lib.hid hT
  clear hL hA hT
  go_enter Tryd.func15, Tryd.ntmps15
  go_wp2_with fail
  have hb0 : Below w.heap.size w ((w.alloc (.cells (sumC 0 0) 39)).alloc (.cells (sumC 0 0) 39)) := ((Below.refl _ _).alloc (Nat.le_refl _) _).alloc (by simp) _
  refine (Sum_any A L c bs HL.out (by omega) _ (HT.out.grew hb0) (HA.out.below' hb0)).mono ?_
  rintro e W1 ⟨rfl, hg1⟩
  obtain ⟨s, hs⟩ : ∃ s, s = crcSum bs := ⟨_, rfl⟩
  have hsl : s < 4294967296 := by rw [hs]; exact crcSum_lt bs
  have HS := Lib.hid hs
  have hk0 : SK w s 0 W1 := by
    refine ⟨hb0.trans (Below.mono hg1 (by simp; omega)), (Below.block hg1 w.heap.size (by simp; omega)).trans ((Below.heap_alloc _ _ _ (by simp)).trans (World.alloc_heap_new w _)), (Below.block hg1 (w.heap.size + 1) (by simp)).trans ?_⟩
    have := World.alloc_heap_new (w.alloc (.cells (sumC 0 0) 39)) (.cells (sumC 0 0) 39)
    rwa [World.size_alloc] at this
  have HK0 := Lib.hid hk0
  rw [← hs]
  clear hs hg1 hb0 hk0
  go_wp2
  go_loopw [8] (fun i wr => ∃ k : Nat, k ≤ 4 ∧ i = .int .i64 k ∧ Hid (SK w s k wr)) (fun i _ => 4 - (intOf i).toNat)
  case atStart =>
    exact ⟨0, Nat.zero_le _, rfl, HK0.out⟩
  case round =>
    obtain ⟨k, hk, rfl, hsk⟩ := hrel
    obtain ⟨-, hb1, hb2⟩ := hsk.out
    have b0 := blk_cell hb2 0
    have b1 := blk_cell hb2 1
    have b2 := blk_cell hb2 2
    have b3 := blk_cell hb2 3
    have z0 := blk_frozen hb2 0
    have z1 := blk_frozen hb2 1
    have z2 := blk_frozen hb2 2
    have z3 := blk_frozen hb2 3
    simp [sumC] at b0 b1 b2 b3
    have c0 := blk_cell hb1 0
    have c1 := blk_cell hb1 1
    have c2 := blk_cell hb1 2
    have c3 := blk_cell hb1 3
    have y0 := blk_frozen hb1 0
    have y1 := blk_frozen hb1 1
    have y2 := blk_frozen hb1 2
    have y3 := blk_frozen hb1 3
    simp [sumC] at c0 c1 c2 c3
    clear hb1 hb2
    rcases k with _ | _ | _ | _ | _ | k
    · simp at b0 b1 b2 b3
      go_wp2
      exact ⟨⟨1, by omega, rfl, hsk.out.step (by omega) rfl⟩, by simp [intOf]⟩
    · simp at b0 b1 b2 b3
      go_wp2
      exact ⟨⟨2, by omega, rfl, hsk.out.step (by omega) rfl⟩, by simp [intOf]⟩
    · simp at b0 b1 b2 b3
      go_wp2
      exact ⟨⟨3, by omega, rfl, hsk.out.step (by omega) rfl⟩, by simp [intOf]⟩
    · simp at b0 b1 b2 b3
      go_wp2
      exact ⟨⟨4, by omega, rfl, hsk.out.step (by omega) rfl⟩, by simp [intOf]⟩
    · simp at b0 b1 b2 b3
      go_wp2
      have hfin := blk_set (blk_set (blk_set (blk_set hsk.out.2.1 0 (.int .u8 ((s : Int) % 256))) 1 (.int .u8 ((s : Int) / 256 % 256))) 2 (.int .u8 ((s : Int) / 65536 % 256))) 3 (.int .u8 ((s : Int) / 16777216))
      have hB2 : Below w.heap.size w ((((wr.setCell ⟨w.heap.size, 0, none⟩ (.int .u8 ((s : Int) % 256))).setCell ⟨w.heap.size, 1, none⟩ (.int .u8 ((s : Int) / 256 % 256))).setCell ⟨w.heap.size, 2, none⟩ (.int .u8 ((s : Int) / 65536 % 256))).setCell ⟨w.heap.size, 3, none⟩ (.int .u8 ((s : Int) / 16777216))) :=
        (((hsk.out.1.setCell (p := ⟨w.heap.size, 0, none⟩) (Nat.le_refl _) _).setCell (p := ⟨w.heap.size, 1, none⟩) (Nat.le_refl _) _).setCell (p := ⟨w.heap.size, 2, none⟩) (Nat.le_refl _) _).setCell (p := ⟨w.heap.size, 3, none⟩) (Nat.le_refl _) _
      obtain ⟨W2, hW2⟩ : ∃ W2, W2 = (((wr.setCell ⟨w.heap.size, 0, none⟩ (.int .u8 ((s : Int) % 256))).setCell ⟨w.heap.size, 1, none⟩ (.int .u8 ((s : Int) / 256 % 256))).setCell ⟨w.heap.size, 2, none⟩ (.int .u8 ((s : Int) / 65536 % 256))).setCell ⟨w.heap.size, 3, none⟩ (.int .u8 ((s : Int) / 16777216)) := ⟨_, rfl⟩
      rw [← hW2] at hfin hB2 ⊢
      have d0 := blk_cell hfin 0
      have d1 := blk_cell hfin 1
      have d2 := blk_cell hfin 2
      have d3 := blk_cell hfin 3
      simp [sumC] at d0 d1 d2 d3
      clear hW2 b0 b1 b2 b3 z0 z1 z2 z3 c0 c1 c2 c3 y0 y1 y2 y3
      exact bodyPost_ret (v := sumV s) (by simp [results, Tryd.results15, go_sem, sumV, d0, d1, d2, d3]) rfl ⟨by rw [HS.out], hB2⟩
    · omega
end Go.Proofs.YtbhncffeoolhfaaDoor
