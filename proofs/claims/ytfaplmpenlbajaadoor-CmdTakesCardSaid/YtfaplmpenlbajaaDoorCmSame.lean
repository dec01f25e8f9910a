/- The reference's Same. -/
import Derived.Test.YtfaplmpenlbajaaDoorCmSpec
import Derived.Deep.DeepCutAuto
namespace Go.Proofs.YtfaplmpenlbajaaDoor
open Go.RowKit

theorem toList_inj {a b : ByteArray} : a.toList = b.toList ↔ a = b :=
  ⟨fun h => by rw [ByteArray.toList_eq, ByteArray.toList_eq] at h; exact ByteArray.ext (Array.ext' h), fun h => by rw [h]⟩

set_option maxRecDepth 100000 in
set_option maxHeartbeats 4000000 in
theorem refSame_any (a b : CmdV) (w : World) (ha : a.ok w) (hb : b.ok w) : Calls Tryd.prog 15 #[a.val, b.val] w fun e W' => e = .returned (.bool (a.same b)) ∧ Below w.heap.size w W' := by
  obtain ⟨acl, asq, akd, A, L, c, ks, old, new, n⟩ := a
  obtain ⟨bcl, bsq, bkd, A', L', c', ks', old', new', n'⟩ := b
  have KA := Lib.hid ha
  have KB := Lib.hid hb
  have hL : (L : Int) ≤ 140737488351232 := by have := ha.max; simp only at this; omega
  have hL' : (L' : Int) ≤ 140737488351232 := by have := hb.max; simp only at this; omega
  clear ha hb
  simp only [CmdV.val, CmdV.cells]
  by_cases hne : L = L'
  · subst hne
    go_enter Tryd.func15, Tryd.ntmps15
    go_upto_region 3 with (fail)
    obtain ⟨W2, hW2⟩ : ∃ W2, W2 = ((w.alloc (Obj.cells #[.int .u32 (acl : Int), .int .u32 (asq : Int), .int .u8 (akd : Int), .slice A L c, .string old, .string new, .int .i64 n] 26)).alloc (Obj.cells #[.int .u32 (bcl : Int), .int .u32 (bsq : Int), .int .u8 (bkd : Int), .slice A' L c', .string old', .string new', .int .i64 n'] 26)) := ⟨_, rfl⟩
    rw [← hW2]
    obtain ⟨p, hp⟩ : ∃ p, p = w.heap.size := ⟨_, rfl⟩
    have hB : Below w.heap.size w W2 := by rw [hW2]; exact ((Below.refl _ w).alloc (Nat.le_refl _) _).alloc (by simp) _
    have k1 : W2.heap[p]? = some (.cells #[.int .u32 (acl : Int), .int .u32 (asq : Int), .int .u8 (akd : Int), .slice A L c, .string old, .string new, .int .i64 n] 26 (0, 0)) := by
      rw [hW2, hp, Below.heap_alloc _ _ _ (by simp)]; exact World.alloc_heap_new w _
    have k2 : W2.heap[p + 1]? = some (.cells #[.int .u32 (bcl : Int), .int .u32 (bsq : Int), .int .u8 (bkd : Int), .slice A' L c', .string old', .string new', .int .i64 n'] 26 (0, 0)) := by
      have := World.alloc_heap_new (w.alloc (Obj.cells #[.int .u32 (acl : Int), .int .u32 (asq : Int), .int .u8 (akd : Int), .slice A L c, .string old, .string new, .int .i64 n] 26)) (Obj.cells #[.int .u32 (bcl : Int), .int .u32 (bsq : Int), .int .u8 (bkd : Int), .slice A' L c', .string old', .string new', .int .i64 n'] 26)
      rw [hW2, hp]; simpa using this
    rw [← hp]
    have K1 := Lib.hid (And.intro k1 k2)
    have HB := Lib.hid hB
    clear hB k1 k2 hW2 hp
    go_wp2
    go_loopw [5] (fun i wr => ∃ k : Nat, k ≤ L ∧ i = .int .i64 (k : Int) ∧ Hid (Below W2.heap.size W2 wr ∧ ∀ j (h1 : j < ks.length) (h2 : j < ks'.length), j < k → ks[j] = ks'[j])) (fun i _ => L - (intOf i).toNat)
    case atStart => exact ⟨0, Nat.zero_le _, rfl, Lib.hid ⟨Below.refl _ _, fun j _ _ h => by omega⟩⟩
    case round =>
      obtain ⟨k, hk, rfl, hb⟩ := hrel
      have r1 := (hb.out.1.block _ (Array.getElem?_eq_some_iff.1 K1.out.1).1).trans K1.out.1
      have r2 := (hb.out.1.block _ (Array.getElem?_eq_some_iff.1 K1.out.2).1).trans K1.out.2
      have R := Lib.hid (And.intro r1 r2)
      clear r1 r2
      have x3 := blk_cell R.out.1 3
      have y3 := blk_cell R.out.2 3
      simp at x3 y3
      by_cases hlt : k < L
      · have hki : (k : Int) < L := by omega
        have hk1 : k < ks.length := by have := KA.out.len; simp only at this; omega
        have hk2 : k < ks'.length := by have := KB.out.len; simp only at this; omega
        obtain ⟨b1, o1, e1, l1, f1⟩ := KA.out.has (by intro e; simp only at e; rw [e] at hk1; simp at hk1)
        obtain ⟨b2, o2, e2, l2, f2⟩ := KB.out.has (by intro e; simp only at e; rw [e] at hk2; simp at hk2)
        simp only at e1 e2
        subst e1 e2
        have hw : Below w.heap.size w wr := HB.out.trans (Below.mono hb.out.1 HB.out.size)
        have g1 := (hw.cell (p := ⟨b1, o1 + k, none⟩) l1).trans (f1 k hk1)
        have g2 := (hw.cell (p := ⟨b2, o2 + k, none⟩) l2).trans (f2 k hk2)
        obtain ⟨X, hX⟩ : ∃ X, X = ks[k] := ⟨_, rfl⟩
        obtain ⟨Y, hY⟩ : ∃ Y, Y = ks'[k] := ⟨_, rfl⟩
        simp only at g1 g2
        rw [← hX] at g1
        rw [← hY] at g2
        have HXY := Lib.hid (And.intro hX hY)
        clear hX hY f1 f2 hw
        by_cases hxy : X = Y
        · subst hxy
          go_upto_region 6 with (fail)
          go_region
          go_wp2
          exact ⟨⟨k + 1, by omega, by congr 1, Lib.hid ⟨hb.out.1.drew, fun j h1 h2 hj => by
            rcases Nat.lt_or_ge j k with h | h
            · exact hb.out.2 j h1 h2 h
            · have : j = k := by omega
              subst this
              exact HXY.out.1.symm.trans HXY.out.2⟩⟩, by simp only [intOf]; omega⟩
        · have HN := Lib.hid hxy
          have hf : CmdV.same ⟨acl, asq, akd, some ⟨b1, o1, none⟩, L, c, ks, old, new, n⟩ ⟨bcl, bsq, bkd, some ⟨b2, o2, none⟩, L, c', ks', old', new', n'⟩ = false := by
            simp only [CmdV.same, decide_eq_false_iff_not]
            rintro ⟨e, _⟩
            subst e
            exact HN.out (HXY.out.1.trans HXY.out.2.symm)
          have HF := Lib.hid hf
          clear hf hxy
          go_upto_region 6 with (fail)
          go_region
          go_wp2
          · go_ret
            exact ⟨by rw [HF.out]; rfl, by first | exact (HB.out.trans (Below.mono hb.out.1 HB.out.size)).drew | exact HB.out.trans (Below.mono hb.out.1 HB.out.size)⟩
          · exfalso
            have hx2 : ¬ X = Y := HN.out
            rename_i hsame
            simp [toList_inj] at hsame
            exact hx2 hsame
      · obtain rfl : k = L := by omega
        have hki : ¬ (k : Int) < k := by omega
        have x0 := blk_cell R.out.1 0
        have y0 := blk_cell R.out.2 0
        have x1 := blk_cell R.out.1 1
        have y1 := blk_cell R.out.2 1
        have x2 := blk_cell R.out.1 2
        have y2 := blk_cell R.out.2 2
        have x4 := blk_cell R.out.1 4
        have y4 := blk_cell R.out.2 4
        have x5 := blk_cell R.out.1 5
        have y5 := blk_cell R.out.2 5
        have x6 := blk_cell R.out.1 6
        have y6 := blk_cell R.out.2 6
        simp at x0 x1 x2 x4 x5 x6 y0 y1 y2 y4 y5 y6
        have hks : ks = ks' := List.ext_getElem (by have := KA.out.len; have := KB.out.len; simp only at *; omega) fun j h1 h2 => hb.out.2 j h1 h2 (by have := KA.out.len; simp only at this; omega)
        have hw : Below w.heap.size w wr := HB.out.trans (Below.mono hb.out.1 HB.out.size)
        have HK := Lib.hid (And.intro hks hw)
        clear hks hw
        go_wp2
        all_goals
          go_ret
          refine ⟨Eq.trans (b := .returned (.bool _)) rfl (congrArg (fun b => Ending.returned (.bool b)) ?_), by first | exact HK.out.2 | exact HK.out.2.drew⟩
          simp only [CmdV.same, HK.out.1, true_and]
          clear x0 x1 x2 x3 x4 x5 x6 y0 y1 y2 y3 y4 y5 y6
        all_goals
          simp only [toList_inj, Int.natCast_inj] at *
          first | (simp [*]; done) | (rw [Bool.eq_iff_iff]; simp [*]; done) | (simp_all; done) | trace_state
  · have hnei : ¬ (L : Int) = L' := by omega
    go_enter Tryd.func15, Tryd.ntmps15
    have hf : CmdV.same ⟨acl, asq, akd, A, L, c, ks, old, new, n⟩ ⟨bcl, bsq, bkd, A', L', c', ks', old', new', n'⟩ = false := by
      simp only [CmdV.same, decide_eq_false_iff_not]
      rintro ⟨e, _⟩
      have h1 := KA.out.len
      have h2 := KB.out.len
      simp only at h1 h2
      rw [e] at h1
      omega
    have HF := Lib.hid hf
    clear hf
    go_wp2
    go_ret
    exact ⟨by rw [HF.out]; rfl, ((Below.refl _ w).alloc (Nat.le_refl _) _).alloc (by simp) _⟩
end Go.Proofs.YtfaplmpenlbajaaDoor
