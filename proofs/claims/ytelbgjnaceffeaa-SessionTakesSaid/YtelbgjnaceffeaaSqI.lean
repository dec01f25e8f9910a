/- inOrder: a table's clients in their order with their sessions, for a range over a function. -/
import Derived.Test.YtelbgjnaceffeaaSqO
import Derived.Test.YtelbgjnaceffeaaSqB
import Derived.RangeFuncBox
import Derived.Shelf.Abstract
import Derived.Shelf.RegionOpen
import Derived.WalkMore
import Derived.Test.YtelbgjnaceffeaaConcat
namespace Go.Proofs.Ytelbgjnaceffeaa
open Go.RowKit Go.Maps Go.Sort Go.Shelf
attribute [local go_sem] Oper.semAt_some

def eAt (l : List SE) (i : Nat) : SE := l[i]?.getD ⟨0, 0, 0, ⟨#[]⟩⟩
theorem eAt_at {l : List SE} {i : Nat} (h : i < l.length) : eAt l i = l[i] := by simp [eAt, h]
/-- A round: the entry's place, and the row of the clients. -/
def pairE (l : List SE) (x : Nat × Value) : Array Value := #[cV (eAt l x.1).cl, sessV (eAt l x.1)]
def KeysW (l : List SE) (v : Value) (W : World) : Prop := W.ownsRow 0 34 1 v l.length ((l.map (·.cl)).map cV)
theorem lookS_at {l : List SE} (hs : SortedE l) {j : Nat} (hj : j < l.length) : lookS l l[j].cl = some l[j] := by
  unfold lookS
  rw [List.find?_eq_some_iff_getElem]
  refine ⟨by simp, j, hj, rfl, fun i hi => ?_⟩
  have := List.pairwise_iff_getElem.1 hs i j (by omega) hj hi
  simp
  omega
theorem valS_at {l : List SE} (hs : SortedE l) {j : Nat} (hj : j < l.length) : valS l l[j].cl = l[j] := by rw [valS, lookS_at hs hj, Option.getD_some]
set_option maxRecDepth 100000 in
set_option maxHeartbeats 4000000 in
theorem order_seq (n : Nat) (hn : 1 ≤ n) (w0 : World) (a : Value) (p : Option Nat) (l : List SE) (h : MapO w0 p l) (hall : ∀ W, Go.RowKit.Below w0.heap.size w0 W → Calls Try.prog 26 #[a] W fun e W' => e = .returned (.map p) ∧ W' = W) (hs : SortedE l) (hl : l.length ≤ 1000000) (hcl : ∀ e ∈ l, e.cl < 4294967296) (B : Nat) (J : Nat → World → Prop)
    (hJb : ∀ i W, J i W → Go.RowKit.Below w0.heap.size w0 W) (hJ0 : ∀ W W', J 0 W → Go.RowKit.Below W.heap.size W W' → J 0 W') :
    TiedSeq Fence.wide n Try.prog 22 #[a] #[] (pairE l) B
      (J 0) (J l.length) (fun x W => J x.1 W ∧ KeysW l x.2 W ∧ x.1 < l.length) (fun x W => J (x.1 + 1) W ∧ KeysW l x.2 W) (fun _ _ => False) (fun _ _ => False) := by
  intro y G Gx hG hGx hY W h0 hGW
  refine callsIn_of_wp Try.func22 rfl trivial ?_ rfl
  simp only [Try.ntmps22, List.size_toArray, List.length_cons, List.length_nil, Nat.reduceAdd, Nat.reduceSub, Array.replicate_succ, Array.replicate_zero, List.push_toArray, List.append_toArray, List.nil_append, List.cons_append]
  have HY := Lib.hid hY
  have H0 := Lib.hid h0
  have HG := Lib.hid hG
  have HGW := Lib.hid hGW
  have HST := Lib.hid h
  have HJB := Lib.hid hJb
  have HJ0 := Lib.hid hJ0
  have HSL := Lib.hid (And.intro hs (And.intro hl hcl))
  have HA := Lib.hid (hall W (hJb 0 W h0))
  have HK := Lib.hid (keys_any p W)
  have HSO := Lib.hid (sorted_any (h.below (hJb 0 W h0)) hs hl)
  clear hY h0 hG hGx hGW h hall hJb hJ0 hs hl hcl
  gi_wp2_with fail
  refine ⟨trivial, ?_⟩
  refine (callsIn_wide.2 HA.out).mono ?_
  rintro e W1 ⟨rfl, rfl⟩
  gi_wp2_with fail
  refine ⟨trivial, ?_⟩
  refine (callsIn_wide.2 HK.out).mono ?_
  rintro e W2 ⟨rfl, rfl⟩
  gi_wp2_with fail
  refine ⟨trivial, ?_⟩
  refine (callsIn_wide.2 HSO.out).mono ?_
  rintro e W3 ⟨v, rfl, ho, hb3⟩
  obtain ⟨A3, c3, rfl⟩ := own_form ho
  obtain ⟨N, hN⟩ : ∃ N, N = l.length := ⟨_, rfl⟩
  rw [← hN] at ho ⊢
  have HO := Lib.hid (show KeysW l (.slice A3 N c3) W3 by unfold KeysW; rw [← hN]; exact ownU_mono ho (Nat.zero_le _))
  have HJ3 := Lib.hid (HJ0.out _ _ H0.out hb3)
  have HG3 := Lib.hid (HG.out _ _ HGW.out (KeepsFrom.of_grownBy (grownBy_of_below (r := none) hb3) (fun j e => by cases e)))
  have HNL := Lib.hid hN
  have hNi : (N : Int) ≤ 1000000 := by have := HSL.out.2.1; omega
  clear ho hb3 hN HA HK HSO H0 HGW
  gi_wp2
  gi_loopw [13] (fun i wr => ∃ j : Nat, i = .int .i64 (j : Int) ∧ j ≤ N ∧ Hid (J j wr) ∧ Hid (KeysW l (.slice A3 N c3) wr) ∧ Hid (G wr)) (fun i _ => N - (intOf i).toNat)
  case atStart => exact ⟨0, rfl, Nat.zero_le _, HJ3.out, HO.out, HG3.out⟩
  case round =>
    obtain ⟨j, rfl, hj, hJ, hK, hg⟩ := hrel
    by_cases hlt : j < N
    · have hji : (j : Int) < (N : Int) := by omega
      have hjl : j < l.length := by have := HNL.out; omega
      have hOj := hK.out
      obtain ⟨kb, ke⟩ : ∃ kb, A3 = some ⟨kb, 0, none⟩ := by
        rcases hOj.2 with ⟨_, e0⟩ | ⟨g, cap, cur, e, _⟩
        · omega
        · cases e; exact ⟨g, rfl⟩
      subst ke
      have g1 : wr.cell? ⟨kb, j, none⟩ = some (.int .u32 (l[j].cl : Int)) := by
        have := World.ownsRow.cells hOj (g := kb) rfl j (cV l[j].cl) (by simp [hjl])
        rwa [addr_add, Nat.zero_add] at this
      have hget := (HST.out.below (HJB.out j wr hJ.out)).get (c := l[j].cl) (HSL.out.2.2 _ (List.getElem_mem hjl))
      rw [valS_at HSL.out.1 hjl] at hget
      obtain ⟨fn, tmps, assign, body, hy, hRR⟩ := HY.out (j, .slice (some ⟨kb, 0, none⟩) N c3) wr ⟨hJ.out, hK.out, hjl⟩ hg.out
      have hpv : pairE l (j, .slice (some ⟨kb, 0, none⟩) N c3) = #[.int .u32 (l[j].cl : Int), sessV l[j]] := by
        simp only [pairE, eAt_at hjl, cV]
      rw [hpv] at hy
      obtain ⟨c, hc⟩ : ∃ c, c = l[j].cl := ⟨_, rfl⟩
      obtain ⟨u, hu⟩ : ∃ u, u = sessV l[j] := ⟨_, rfl⟩
      rw [← hc] at hy hget g1
      rw [← hu] at hy hget
      clear hOj hc hu hpv
      gi_wp2
      refine hRR.mono ?_
      rintro e W4 (⟨rfl, hIo, hG4⟩ | ⟨rfl, cc, hf, _⟩)
      · have HIo := Lib.hid hIo
        have HG4 := Lib.hid hG4
        clear hIo hG4 hy
        gi_wp2
        refine ⟨⟨j + 1, by congr 1, by omega, HIo.out.1, HIo.out.2, HG4.out⟩, by simp only [intOf]; omega⟩
      · exact hf.elim
    · have hji : ¬ (j : Int) < (N : Int) := by omega
      obtain rfl : j = N := by omega
      gi_wp2
      go_end0
      exact ⟨⟨_, rfl⟩, by rw [← HNL.out]; exact hJ.out, hg.out⟩
end Go.Proofs.Ytelbgjnaceffeaa
