/- maps.Keys of a map of clients: its iterator gives each client once, in some order. -/
import Derived.Test.YtelbgjnaceffeaaSqA
import Derived.Test.YtelbgjnaceffeaaLoop3
import Derived.OwnWalkIn
import Derived.TacticsInMore
import Derived.RegionIn
import Derived.LoopNIn
import Derived.LoopIn
import Derived.WalkKit
import Derived.Shelf.SlIter.Nil
namespace Go.Proofs.Ytelbgjnaceffeaa
open Go.RowKit Go.Maps

/-- What has come so far: each client of the map that is no longer to come, once. -/
def ColQ (l : List SE) (left : Lit → Bool) (ss : List Nat) : Prop := ss.Nodup ∧ ∀ c, c ∈ ss ↔ (has (mapS l) (kyS c) = true ∧ left (kyS c) = false)
theorem ColQ.start (l : List SE) : ColQ l (has (mapS l)) [] := ⟨List.nodup_nil, fun c => by cases has (mapS l) (kyS c) <;> simp⟩
theorem ColQ.step {l : List SE} {left : Lit → Bool} {ss : List Nat} (h : ColQ l left ss) {c : Nat} {y : DataW Unit} (hlk : left (kyS c) = true) (hat : ∀ zd, (mapS l).atKey (kyS c) zd = y) : ColQ l (fun z => left z && !z.sameKey (kyS c)) (ss ++ [c]) := by
  have hhas : has (mapS l) (kyS c) = true := has_true_of_atKey hat
  have hnew : c ∉ ss := fun hx => by have := ((h.2 c).1 hx).2; rw [hlk] at this; cases this
  refine ⟨List.nodup_append.2 ⟨h.1, by simp, fun a ha b hb => by simp at hb; subst hb; exact fun e => hnew (e ▸ ha)⟩, fun y => ?_⟩
  by_cases hy : y = c
  · subst hy; simp [hhas, same_kyS]
  · simp [h.2 y, hy, same_kyS]
theorem ColQ.done {l : List SE} {left : Lit → Bool} {ss : List Nat} (h : ColQ l left ss) (hs : SortedE l) (hl : ∀ z, left z = false) : ss.Perm (l.map (·.cl)) := by
  refine (List.perm_ext_iff_of_nodup h.1 ?_).2 fun c => ?_
  · exact List.pairwise_map.2 (hs.imp fun h e => by omega)
  · rw [h.2 c, hl, mapS_has, lookS, List.find?_isSome, List.mem_map]
    simp
theorem keyU_inv {v : Value} {kl : Lit} (h : keyOf Try.prog 34 v = some kl) : ∃ c : Nat, v = .int .u32 (c : Int) ∧ kl = kyS c ∧ c < 4294967296 := by
  rw [keyOf_int Try.underlying34] at h
  unfold mapKey at h
  rw [Try.underlying34] at h
  split at h
  · rename_i e; cases e
  · rename_i q q' n e
    cases e
    split at h
    · rename_i hc
      obtain ⟨rfl, hw⟩ := hc
      cases h
      simp [Lit.wf, IntKind.min, IntKind.max, IntKind.signed, IntKind.bits] at hw
      exact ⟨n.toNat, by rw [Int.toNat_of_nonneg hw.1], by rw [kyS, Int.toNat_of_nonneg hw.1], by omega⟩
    · cases h
  · rename_i e; cases e
  · cases h
/-- A round: the clients that came before, the client, the walk's block and what is left. -/
structure KeyX where
  ss : List Nat
  c : Nat
  r : Nat
  left : Lit → Bool
  cnt : Nat
abbrev RangeQ (W : World) (b : Nat) (l : List SE) (r : Nat) (left : Lit → Bool) (cnt : Nat) : Prop := W.ranges Try.prog 34 sessR b r l.length (mapS l) left cnt
set_option maxRecDepth 100000 in
set_option maxHeartbeats 4000000 in
theorem keys_seq (n : Nat) (hn : 1 ≤ n) (g b : Nat) (l : List SE) (hso : SortedE l) (B : Nat) (J : List Nat → World → Prop)
    (hJ : ∀ ss W W' row, J ss W → W.grownBy W' row → (∀ r, row = some r → B ≤ r ∧ ∃ o : Obj, W.heap[r]? = some o ∧ o.isWalk = true) → J ss W') :
    TiedSeqL Fence.wide n Try.prog 38 #[] #[.pointer (some ⟨g, 0, none⟩)] (fun x : KeyX => #[.int .u32 (x.c : Int)]) B
      (fun W => J [] W ∧ B ≤ W.heap.size ∧ MapQ W b l ∧ W.cell? ⟨g, 0, none⟩ = some (.map (some b))) (fun W => ∃ ss, ss.Perm (l.map (·.cl)) ∧ J ss W)
      (fun x W => (J x.ss W ∧ x.ss.length < l.length) ∧ RangeQ W b l x.r x.left x.cnt) (fun x W => J (x.ss ++ [x.c]) W ∧ RangeQ W b l x.r x.left x.cnt) (fun _ _ => False) (fun _ _ => False) := by
  intro y G Gx hG hGx hY W h0 hGW
  obtain ⟨hJ0, hBW, hown, hc0⟩ := h0
  refine callsIn_of_wp Try.func38 rfl trivial ?_ rfl
  simp only [Try.ntmps38, List.size_toArray, List.length_cons, List.length_nil, Nat.reduceAdd, Nat.reduceSub, Array.replicate_succ, Array.replicate_zero, List.push_toArray, List.append_toArray, List.nil_append, List.cons_append]
  have HY := Lib.hid hY
  have HG := Lib.hid hG
  have HGW := Lib.hid hGW
  have HJ := Lib.hid hJ
  have HJ0 := Lib.hid hJ0
  have HB := Lib.hid hBW
  have HSO := Lib.hid hso
  have HOWN := Lib.hid hown
  clear hY hG hGx hGW hJ hJ0 hBW hso hown
  gi_wp2_with (first
    | (gi_at_range; refine wpListIn_range_own _ rfl _ 64 rfl 34 58 keyedU Try.underlying64 _ b l.length _ rfl HOWN.out ?_; intro W1 hrg1 hg1 hs1; have HR1 := Lib.hid hrg1; have HG1 := Lib.hid hg1; clear hrg1 hg1 hs1)
    | gi_in)
  gi_loopw [3] (fun _ wr => ∃ (left : Lit → Bool) (cnt : Nat) (ss : List Nat), Hid (RangeQ wr b l W.heap.size left cnt ∧ ss.length + cnt ≤ l.length ∧ ColQ l left ss ∧ J ss wr ∧ G wr)) (fun _ wr => wr.rangeLeft b W.heap.size)
  case atStart =>
    refine ⟨_, _, [], Lib.hid ⟨HR1.out, by rw [mapS_size]; simp, ColQ.start l, HJ.out [] W W1 none HJ0.out HG1.out (fun r e => by cases e), HG.out W W1 HGW.out (KeepsL.of_grownBy HG1.out (fun r e => by cases e))⟩⟩
  case round =>
    obtain ⟨left, cnt, ss, HI⟩ := hrel
    gi_wp2_with (first
      | (gi_at_next; refine wpListIn_next_ranges _ rfl _ rfl 34 keyedU sessR (fun c : Nat => Value.int .u32 (c : Int)) id (fun key kl hk => by obtain ⟨c, hc, _⟩ := keyU_inv hk; exact ⟨c, hc⟩) (fun v _ _ => ⟨v, rfl⟩) b W.heap.size l.length _ _ _ rfl HI.out.1 ?_ ?_)
      | gi_in)
    · intro hc0 hl0
      have HL0 := Lib.hid hl0
      clear hc0 hl0
      gi_wp2
      go_end0
      exact ⟨⟨_, rfl⟩, .inl ⟨⟨ss, HI.out.2.2.1.done HSO.out HL0.out, HI.out.2.2.2.1⟩, HI.out.2.2.2.2⟩⟩
    · intro c v kl yv yp w2 cnt2 hkey hlk hv hat hrg2 hlt hg2 hs2 hen
      obtain ⟨c', ec, rfl, _⟩ := keyU_inv hkey
      have ecc : c = c' := by
        have := Value.int.inj ec
        omega
      subst ecc
      have hw2 : ∀ r, some W.heap.size = some r → B ≤ r ∧ ∃ o : Obj, wr.heap[r]? = some o ∧ o.isWalk = true := fun r e => by cases e; exact ⟨HB.out, HI.out.1.iter_walk⟩
      have hJ2 := HJ.out ss wr w2 (some W.heap.size) HI.out.2.2.2.1 hg2 hw2
      have hG2 := HG.out wr w2 HI.out.2.2.2.2 (KeepsL.of_grownBy hg2 (fun r e => (hw2 r e).2))
      obtain ⟨fn, tmps, assign, body, hy, hRR⟩ := HY.out ⟨ss, c, W.heap.size, fun z => left z && !z.sameKey (kyS c), cnt2⟩ w2 ⟨⟨hJ2, by have := HI.out.2.1; show ss.length < l.length; omega⟩, hrg2⟩ hG2
      have HC2 := Lib.hid (HI.out.2.2.1.step hlk hat)
      have HLT := Lib.hid (And.intro hlt HI.out.2.1)
      have hleft := Lib.hid (And.intro HI.out.1.left_eq hrg2.left_eq)
      have HRG2 := Lib.hid hrg2
      clear hkey hlk hv hat hrg2 hlt hg2 hs2 hw2 hJ2 hG2 ec
      dsimp only at hy hRR
      gi_wp2
      refine hRR.mono ?_
      rintro e W4 (⟨rfl, ⟨hJ4, hrg4⟩, hG4⟩ | ⟨rfl, cc, hf, _⟩)
      · have H4 := Lib.hid (And.intro hrg4 (And.intro hJ4 hG4))
        clear hrg4 hJ4 hG4 hy
        gi_wp2
        refine ⟨⟨_, cnt2, ss ++ [c], Lib.hid ⟨H4.out.1, by have := HLT.out; rw [List.length_append, List.length_singleton]; omega, HC2.out, H4.out.2.1, H4.out.2.2⟩⟩, ?_⟩
        rw [H4.out.1.left_eq, hleft.out.1]
        exact HLT.out.1
      · exact hf.elim
set_option maxRecDepth 100000 in
set_option maxHeartbeats 4000000 in
/-- The iterator over no map gives nothing. -/
theorem keys_nil_seq (n g B : Nat) (J : World → Prop)
    (hJ : ∀ W W' row, J W → W.grownBy W' row → (∀ r, row = some r → B ≤ r ∧ ∃ o : Obj, W.heap[r]? = some o ∧ o.isWalk = true) → J W') :
    TiedSeqL Fence.wide n Try.prog 38 #[] #[.pointer (some ⟨g, 0, none⟩)] (fun x : KeyX => #[.int .u32 (x.c : Int)]) B
      (fun W => J W ∧ W.cell? ⟨g, 0, none⟩ = some (.map none)) J (fun _ _ => False) (fun _ _ => False) (fun _ _ => False) (fun _ _ => False) := by
  intro y G Gx hG hGx hY W h0 hGW
  obtain ⟨hJ0, hc0⟩ := h0
  refine callsIn_of_wp Try.func38 rfl trivial ?_ rfl
  simp only [Try.ntmps38, List.size_toArray, List.length_cons, List.length_nil, Nat.reduceAdd, Nat.reduceSub, Array.replicate_succ, Array.replicate_zero, List.push_toArray, List.append_toArray, List.nil_append, List.cons_append]
  have hrg := run_range_nilMap (P := Try.prog) W 64 34 58 Try.underlying64
  have hnx : ∀ ty, (Instr.next (.pointer (some ⟨W.heap.size, 0, none⟩)) false ty).run Try.prog (W.alloc (.mapIter none 0 #[] 0)) = _ := fun ty => run_next_nilMap _ ty 0 0 #[]
  have HF : Hid (J (W.alloc (.mapIter none 0 #[] 0)) ∧ G (W.alloc (.mapIter none 0 #[] 0))) := Lib.hid ⟨hJ W _ none hJ0 (World.grownBy_alloc W _ none) (fun r e => by cases e), hG W _ hGW (KeepsL.of_grownBy (World.grownBy_alloc W _ none) (fun r e => by cases e))⟩
  clear hG hGx hY hGW hJ hJ0
  gi_wp2
  refine wpIn_loop_rounds 1 ?_
  rw [roundsIn_succ]
  gi_wp2
  go_end0
  exact ⟨⟨_, rfl⟩, .inl HF.out⟩
end Go.Proofs.Ytelbgjnaceffeaa
