/- A ring's slots (elements string), for a range over a function. -/
import Derived.Test.YteeiiaahhoeohaaRqBS
import Derived.RangeFuncBox
import Derived.Shelf.Abstract
import Derived.Shelf.RegionOpen
import Derived.WalkKit
import Derived.OwnWalkIn
import Derived.TacticsInMore
import Derived.LoopNIn
import Derived.LoopIn
import Derived.WalkMore
namespace Go.Proofs.Yteeiiaahhoeohaa
open Go.RowKit Go.Shelf
attribute [local go_sem] Oper.semAt_some

/-- The slots' numbers. -/
def slotVS (b : Nat) (i : Nat) : Array Value := #[.int .u64 ((b : Int) + 1 + (i : Int))]

set_option maxRecDepth 100000 in
set_option maxHeartbeats 2000000 in
theorem slots_S (n : Nat) (hn : 1 ≤ n) (R G b N E : Nat) (hb : b < 18446744073709551616) (hN : N ≤ 4096) (hE : E = min N (18446744073709551615 - b)) (J : Nat → World → Prop) (X : Code → World → Prop)
    (hJ : ∀ W, J 0 W → ∃ m, W.heap[R]? = some (.cells #[.int .u64 (b : Int), .int .u64 m, .slice (some ⟨G, 0, none⟩) N N] 49 (0, 0))) (B : Nat) :
    TiedSeq Fence.wide n Try.prog 20 #[.pointer (some ⟨R, 0, none⟩)] #[] (slotVS b) B
      (J 0) (J E) (fun i W => J i W ∧ i < E) (fun i W => J (i + 1) W) X X := by
  intro l G' Gx hG hGx hY W h0 hGW
  refine callsIn_of_wp Try.func20 rfl trivial ?_ rfl
  simp only [Try.ntmps20, List.size_toArray, List.length_cons, List.length_nil, Nat.reduceAdd, Nat.reduceSub, Array.replicate_succ, Array.replicate_zero, List.push_toArray, List.append_toArray, List.nil_append, List.cons_append]
  obtain ⟨m, hm⟩ := hJ W h0
  have b0 := blk_cell hm 0
  have b2 := blk_cell hm 2
  simp at b0 b2
  have hEi : min (N : Int) (18446744073709551615 - (b : Int)) = (E : Int) := by omega
  have hE1 : E ≤ 4096 := by omega
  have hE2 : b + E ≤ 18446744073709551615 := by omega
  have HY := Lib.hid hY
  have H0 := Lib.hid h0
  have HG := Lib.hid hG
  have HE := Lib.hid hE
  clear hY h0 hJ hm hG hGx hE
  gi_wp2
  gi_loopw [21] (fun v wr => ∃ i : Nat, v = .int .u64 (i : Int) ∧ i ≤ E ∧ Hid (J i wr) ∧ Hid (G' wr))
    (fun v _ => E - (intOf v).toNat)
  case atStart =>
    exact ⟨0, rfl, Nat.zero_le _, H0.out, hGW⟩
  case round =>
    obtain ⟨i, rfl, hi, hj, hg⟩ := hrel
    by_cases hiE : i < E
    · have hiEi : (i : Int) < (E : Int) := by omega
      have hbi : (b : Int) + 1 + (i : Int) < 18446744073709551616 := by omega
      obtain ⟨fn, tmps, assign, body, hy, hRR⟩ := HY.out i wr ⟨hj.out, hiE⟩ hg.out
      replace hy := show (Instr.yield l #[.int .u64 ((b : Int) + 1 + (i : Int))]).run Try.prog wr = _ from hy
      gi_wp2
      refine hRR.mono ?_
      rintro e W3 (⟨rfl, hIo, hG3⟩ | ⟨rfl, cc, hIx, hGx3⟩)
      · have HIo := Lib.hid hIo
        have HG3 := Lib.hid hG3
        clear hIo hG3 hy
        gi_wp2
        refine ⟨⟨i + 1, by congr 1, by omega, HIo.out, HG3.out⟩, by simp only [intOf]; omega⟩
      · have HIx := Lib.hid hIx
        have HGx3 := Lib.hid hGx3
        clear hIx hGx3 hy
        gi_wp2
        refine bodyPost_ret (results_none rfl _ _ _) rfl ?_
        exact ⟨⟨_, rfl⟩, .inr ⟨cc, HIx.out, HGx3.out⟩⟩
    · have hiEi : ¬ (i : Int) < (E : Int) := by omega
      obtain rfl : i = E := by omega
      gi_wp2
      go_end0
      exact ⟨⟨_, rfl⟩, .inl ⟨hj.out, hg.out⟩⟩
end Go.Proofs.Yteeiiaahhoeohaa
