/- maps.Keys of a map of clients: its iterator gives each client once, in some order. The sorted clients of a map: slices.AppendSeq, Collect, Sort, Sorted at what maps.Keys gives. slices.Sort of a row of numbers that the call owns, slices.Collect, slices.Sorted of a map's clients. -/
import Derived.Test.YthmmbopibpdpiaaGreatDoorMSqA
import Derived.Test.YthmmbopibpdpiaaGreatDoorLoop3
import Derived.OwnWalkIn
import Derived.TacticsInMore
import Derived.RegionIn
import Derived.LoopNIn
import Derived.LoopIn
import Derived.WalkKit
import Derived.Shelf.SlIter.Nil
import Derived.Test.YthmmbopibpdpiaaGreatDoorMSoF
import Derived.Test.YthmmbopibpdpiaaGreatDoorSameT
import Derived.Maps.AppendAt
import Derived.Test.YthmmbopibpdpiaaGreatDoorShelfL
-- SqK
namespace Go.Proofs.YthmmbopibpdpiaaGreatDoor
open Go.RowKit Go.Maps

/-- What has come so far: each client of the map that is no longer to come, once. -/
def ColQ (l : List SE) (left : Lit → Bool) (ss : List Nat) : Prop := ss.Nodup ∧ ∀ c, c ∈ ss ↔ (has (mapS l) (kyS c) = true ∧ left (kyS c) = false)
theorem ColQ.start (l : List SE) : ColQ l (has (mapS l)) [] := ⟨List.nodup_nil, fun c => by cases has (mapS l) (kyS c) <;> simp⟩
theorem ColQ.step {l : List SE} {left : Lit → Bool} {ss : List Nat} (h : ColQ l left ss) {c : Nat} {y : DataW Unit} (hlk : left (kyS c) = true) (hat : ∀ zd, (mapS l).atKey (kyS c) zd = y) : ColQ l (fun z => left z && !z.sameKey (kyS c)) (ss ++ [c]) := by
  have hhas : has (mapS l) (kyS c) = true := has_true_of_atKey hat
  have hnew : c ∉ ss := fun hx => by have := ((h.2 c).1 hx).2; rw [hlk] at this; cases this
  refine ⟨List.nodup_append.2 ⟨h.1, by simp, fun a ha b hb => by simp at hb; subst hb; exact fun e => hnew (e ▸ ha)⟩, fun y => ?_⟩
  by_cases hy : y = c
  · subst hy; simp [hhas, same_kyS]
  · simp [h.2 y, hy, same_kyS]
theorem ColQ.done {l : List SE} {left : Lit → Bool} {ss : List Nat} (h : ColQ l left ss) (hs : SortedE l) (hl : ∀ z, left z = false) : ss.Perm (l.map (·.cl)) := by
  refine (List.perm_ext_iff_of_nodup h.1 ?_).2 fun c => ?_
  · exact List.pairwise_map.2 (hs.imp fun h e => by omega)
  · rw [h.2 c, hl, mapS_has, lookS, List.find?_isSome, List.mem_map]
    simp
theorem keyU_inv {v : Value} {kl : Lit} (h : keyOf Tryz.prog 31 v = some kl) : ∃ c : Nat, v = .int .u32 (c : Int) ∧ kl = kyS c ∧ c < 4294967296 := by
  rw [keyOf_int Tryz.underlying31] at h
  unfold mapKey at h
  rw [Tryz.underlying31] at h
  split at h
  · rename_i e; cases e
  · rename_i q q' n e
    cases e
    split at h
    · rename_i hc
      obtain ⟨rfl, hw⟩ := hc
      cases h
      simp [Lit.wf, IntKind.min, IntKind.max, IntKind.signed, IntKind.bits] at hw
      exact ⟨n.toNat, by rw [Int.toNat_of_nonneg hw.1], by rw [kyS, Int.toNat_of_nonneg hw.1], by omega⟩
    · cases h
  · rename_i e; cases e
  · cases h
/-- A round: the clients that came before, the client, the walk's block and what is left. -/
structure KeyX where
  ss : List Nat
  c : Nat
  r : Nat
  left : Lit → Bool
  cnt : Nat
abbrev RangeQ (W : World) (b : Nat) (l : List SE) (r : Nat) (left : Lit → Bool) (cnt : Nat) : Prop := W.ranges Tryz.prog 31 sessR b r l.length (mapS l) left cnt
set_option maxRecDepth 100000 in
set_option maxHeartbeats 4000000 in
theorem keys_seq (n : Nat) (hn : 1 ≤ n) (g b : Nat) (l : List SE) (hso : SortedE l) (B : Nat) (J : List Nat → World → Prop)
    (hJ : ∀ ss W W' row, J ss W → W.grownBy W' row → (∀ r, row = some r → B ≤ r ∧ ∃ o : Obj, W.heap[r]? = some o ∧ o.isWalk = true) → J ss W') :
    TiedSeqL Fence.wide n Tryz.prog 67 #[] #[.pointer (some ⟨g, 0, none⟩)] (fun x : KeyX => #[.int .u32 (x.c : Int)]) B
      (fun W => J [] W ∧ B ≤ W.heap.size ∧ MapQS W b l ∧ W.cell? ⟨g, 0, none⟩ = some (.map (some b))) (fun W => ∃ ss, ss.Perm (l.map (·.cl)) ∧ J ss W)
      (fun x W => (J x.ss W ∧ x.ss.length < l.length) ∧ RangeQ W b l x.r x.left x.cnt) (fun x W => J (x.ss ++ [x.c]) W ∧ RangeQ W b l x.r x.left x.cnt) (fun _ _ => False) (fun _ _ => False) := by
  intro y G Gx hG hGx hY W h0 hGW
  obtain ⟨hJ0, hBW, hown, hc0⟩ := h0
  refine callsIn_of_wp Tryz.func67 rfl trivial ?_ rfl
  simp only [Tryz.ntmps67, List.size_toArray, List.length_cons, List.length_nil, Nat.reduceAdd, Nat.reduceSub, Array.replicate_succ, Array.replicate_zero, List.push_toArray, List.append_toArray, List.nil_append, List.cons_append]
  have HY := Lib.hid hY
  have HG := Lib.hid hG
  have HGW := Lib.hid hGW
  have HJ := Lib.hid hJ
  have HJ0 := Lib.hid hJ0
  have HB := Lib.hid hBW
  have HSO := Lib.hid hso
  have HOWN := Lib.hid hown
  clear hY hG hGx hGW hJ hJ0 hBW hso hown
  gi_wp2_with (first
    | (gi_at_range; refine wpListIn_range_own _ rfl _ 93 rfl 31 82 keyedU32 Tryz.underlying93 _ b l.length _ rfl HOWN.out ?_; intro W1 hrg1 hg1 hs1; have HR1 := Lib.hid hrg1; have HG1 := Lib.hid hg1; clear hrg1 hg1 hs1)
    | gi_in)
  gi_loopw [3] (fun _ wr => ∃ (left : Lit → Bool) (cnt : Nat) (ss : List Nat), Hid (RangeQ wr b l W.heap.size left cnt ∧ ss.length + cnt ≤ l.length ∧ ColQ l left ss ∧ J ss wr ∧ G wr)) (fun _ wr => wr.rangeLeft b W.heap.size)
  case atStart =>
    refine ⟨_, _, [], Lib.hid ⟨HR1.out, by rw [mapS_size]; simp, ColQ.start l, HJ.out [] W W1 none HJ0.out HG1.out (fun r e => by cases e), HG.out W W1 HGW.out (KeepsL.of_grownBy HG1.out (fun r e => by cases e))⟩⟩
  case round =>
    obtain ⟨left, cnt, ss, HI⟩ := hrel
    gi_wp2_with (first
      | (gi_at_next; refine wpListIn_next_ranges _ rfl _ rfl 31 keyedU32 sessR (fun c : Nat => Value.int .u32 (c : Int)) id (fun key kl hk => by obtain ⟨c, hc, _⟩ := keyU_inv hk; exact ⟨c, hc⟩) (fun v _ _ => ⟨v, rfl⟩) b W.heap.size l.length _ _ _ rfl HI.out.1 ?_ ?_)
      | gi_in)
    · intro hc0 hl0
      have HL0 := Lib.hid hl0
      clear hc0 hl0
      gi_wp2
      go_end0
      exact ⟨⟨_, rfl⟩, .inl ⟨⟨ss, HI.out.2.2.1.done HSO.out HL0.out, HI.out.2.2.2.1⟩, HI.out.2.2.2.2⟩⟩
    · intro c v kl yv yp w2 cnt2 hkey hlk hv hat hrg2 hlt hg2 hs2 hen
      obtain ⟨c', ec, rfl, _⟩ := keyU_inv hkey
      have ecc : c = c' := by
        have := Value.int.inj ec
        omega
      subst ecc
      have hw2 : ∀ r, some W.heap.size = some r → B ≤ r ∧ ∃ o : Obj, wr.heap[r]? = some o ∧ o.isWalk = true := fun r e => by cases e; exact ⟨HB.out, HI.out.1.iter_walk⟩
      have hJ2 := HJ.out ss wr w2 (some W.heap.size) HI.out.2.2.2.1 hg2 hw2
      have hG2 := HG.out wr w2 HI.out.2.2.2.2 (KeepsL.of_grownBy hg2 (fun r e => (hw2 r e).2))
      obtain ⟨fn, tmps, assign, body, hy, hRR⟩ := HY.out ⟨ss, c, W.heap.size, fun z => left z && !z.sameKey (kyS c), cnt2⟩ w2 ⟨⟨hJ2, by have := HI.out.2.1; show ss.length < l.length; omega⟩, hrg2⟩ hG2
      have HC2 := Lib.hid (HI.out.2.2.1.step hlk hat)
      have HLT := Lib.hid (And.intro hlt HI.out.2.1)
      have hleft := Lib.hid (And.intro HI.out.1.left_eq hrg2.left_eq)
      have HRG2 := Lib.hid hrg2
      clear hkey hlk hv hat hrg2 hlt hg2 hs2 hw2 hJ2 hG2 ec
      dsimp only at hy hRR
      gi_wp2
      refine hRR.mono ?_
      rintro e W4 (⟨rfl, ⟨hJ4, hrg4⟩, hG4⟩ | ⟨rfl, cc, hf, _⟩)
      · have H4 := Lib.hid (And.intro hrg4 (And.intro hJ4 hG4))
        clear hrg4 hJ4 hG4 hy
        gi_wp2
        refine ⟨⟨_, cnt2, ss ++ [c], Lib.hid ⟨H4.out.1, by have := HLT.out; rw [List.length_append, List.length_singleton]; omega, HC2.out, H4.out.2.1, H4.out.2.2⟩⟩, ?_⟩
        rw [H4.out.1.left_eq, hleft.out.1]
        exact HLT.out.1
      · exact hf.elim
set_option maxRecDepth 100000 in
set_option maxHeartbeats 4000000 in
/-- The iterator over no map gives nothing. -/
theorem keys_nil_seq (n g B : Nat) (J : World → Prop)
    (hJ : ∀ W W' row, J W → W.grownBy W' row → (∀ r, row = some r → B ≤ r ∧ ∃ o : Obj, W.heap[r]? = some o ∧ o.isWalk = true) → J W') :
    TiedSeqL Fence.wide n Tryz.prog 67 #[] #[.pointer (some ⟨g, 0, none⟩)] (fun x : KeyX => #[.int .u32 (x.c : Int)]) B
      (fun W => J W ∧ W.cell? ⟨g, 0, none⟩ = some (.map none)) J (fun _ _ => False) (fun _ _ => False) (fun _ _ => False) (fun _ _ => False) := by
  intro y G Gx hG hGx hY W h0 hGW
  obtain ⟨hJ0, hc0⟩ := h0
  refine callsIn_of_wp Tryz.func67 rfl trivial ?_ rfl
  simp only [Tryz.ntmps67, List.size_toArray, List.length_cons, List.length_nil, Nat.reduceAdd, Nat.reduceSub, Array.replicate_succ, Array.replicate_zero, List.push_toArray, List.append_toArray, List.nil_append, List.cons_append]
  have hrg := run_range_nilMap (P := Tryz.prog) W 93 31 82 Tryz.underlying93
  have hnx : ∀ ty, (Instr.next (.pointer (some ⟨W.heap.size, 0, none⟩)) false ty).run Tryz.prog (W.alloc (.mapIter none 0 #[] 0)) = _ := fun ty => run_next_nilMap _ ty 0 0 #[]
  have HF : Hid (J (W.alloc (.mapIter none 0 #[] 0)) ∧ G (W.alloc (.mapIter none 0 #[] 0))) := Lib.hid ⟨hJ W _ none hJ0 (World.grownBy_alloc W _ none) (fun r e => by cases e), hG W _ hGW (KeepsL.of_grownBy (World.grownBy_alloc W _ none) (fun r e => by cases e))⟩
  clear hG hGx hY hGW hJ hJ0
  gi_wp2
  refine wpIn_loop_rounds 1 ?_
  rw [roundsIn_succ]
  gi_wp2
  go_end0
  exact ⟨⟨_, rfl⟩, .inl HF.out⟩
end Go.Proofs.YthmmbopibpdpiaaGreatDoor

-- SqN
namespace Go.Proofs.YthmmbopibpdpiaaGreatDoor
open Go.RowKit Go.Maps
attribute [local go_sem] Oper.semAt_some

theorem infoU : (Tryz.prog.info? 31).map (fun i => (i.zero, i.size, i.bytes)) = some (some (.int .u32 0), 1, 4) := by kernel_rfl
theorem infoU_parts : ∃ i, Tryz.prog.info? 31 = some i ∧ i.zero = some (.int .u32 0) ∧ i.size = 1 ∧ i.bytes = 4 := by
  have h := infoU
  cases hi : Tryz.prog.info? 31 with
  | none => rw [hi] at h; cases h
  | some i => rw [hi] at h; simp at h; exact ⟨i, rfl, h.1, h.2.1, h.2.2⟩
abbrev cV (c : Nat) : Value := .int .u32 (c : Int)
/-- What maps.Keys hands back: a function over a block that holds the map. -/
def keysVS (g : Nat) : Value := .func (.func 67) #[] #[.pointer (some ⟨g, 0, none⟩)]
theorem keys_anyS (p : Option Nat) (w : World) : Calls Tryz.prog 50 #[.map p] w fun e W' => e = .returned (keysVS w.heap.size) ∧ W' = w.alloc (.cells #[.map p] 93) := by
  go_enter Tryz.func50, Tryz.ntmps50
  go_wp2
  go_ret
  exact ⟨rfl, rfl⟩
/-- What AppendSeq has gathered so far. -/
def GatherJ (w : World) (gb : Nat) (ss : List Nat) (W : World) : Prop := Go.RowKit.Below w.heap.size w W ∧ w.heap.size ≤ gb ∧ ∃ v, W.heap[gb]? = some (.cells #[v] 112 (0, 0)) ∧ W.ownsRow w.heap.size 31 1 v ss.length (ss.map cV)
theorem GatherJ.walk {w : World} {gb B : Nat} (hB : w.heap.size ≤ B) (ss : List Nat) (W W' : World) (row : Option Nat) (h : GatherJ w gb ss W) (hg : W.grownBy W' row) (hr : ∀ r, row = some r → B ≤ r ∧ ∃ o : Obj, W.heap[r]? = some o ∧ o.isWalk = true) : GatherJ w gb ss W' := by
  obtain ⟨h1, h2, v, h3, h4⟩ := h
  have hn : ∀ r, row = some r → B ≤ r ∧ ∃ o : Obj, W.heap[r]? = some o ∧ o.isCells = false := fun r e => ⟨(hr r e).1, by obtain ⟨o, k1, k2⟩ := (hr r e).2; exact ⟨o, k1, Obj.not_cells_of_walk k2⟩⟩
  exact ⟨Abides.below (Nat.le_refl _) hB W W' row h1 hg hn, h2, v, Abides.block W W' row h3 hg hn, Abides.own W W' row h4 hg hn⟩
theorem GatherJ.abides {w : World} {gb B : Nat} (hB : w.heap.size ≤ B) (ss : List Nat) : AbidesL B (GatherJ w gb ss) :=
  Abides.l ((Abides.below (Nat.le_refl _) hB).and ((Abides.pure _).and (Abides.ex fun _ => Abides.block.and Abides.own)))
set_option maxRecDepth 100000 in
set_option maxHeartbeats 8000000 in
theorem apps_in (g b : Nat) (l : List SE) (hso : SortedE l) (hl : l.length ≤ 1000000) (w : World) (hm : MapQS w b l) (hg : w.heap[g]? = some (.cells #[.map (some b)] 93 (0, 0))) :
    CallsIn Fence.wide 5 Tryz.prog 81 #[.slice none 0 0, keysVS g] w fun e W' => ∃ (v : Value) (ss : List Nat), e = .returned v ∧ ss.Perm (l.map (·.cl)) ∧ W'.ownsRow w.heap.size 31 1 v ss.length (ss.map cV) ∧ Go.RowKit.Below w.heap.size w W' := by
  have HM := Lib.hid hm
  have HGB := Lib.hid hg
  have HSL := Lib.hid (And.intro hso hl)
  clear hm hg hso hl
  unfold keysVS
  refine callsIn_of_wp_marks Tryz.func81 rfl trivial ?_ rfl
  simp only [Tryz.ntmps81, List.size_toArray, List.length_cons, List.length_nil, Nat.reduceAdd, Nat.reduceSub, Array.replicate_succ, Array.replicate_zero, List.push_toArray, List.append_toArray, List.nil_append, List.cons_append]
  gi_wp2
  obtain ⟨W0, hW0⟩ : ∃ W0, W0 = w.alloc (.cells #[.slice none 0 0] 112) := ⟨_, rfl⟩
  rw [← hW0]
  have hb0 : Go.RowKit.Below w.heap.size w W0 := by rw [hW0]; exact (Go.RowKit.Below.refl _ w).alloc (Nat.le_refl _) _
  have k0 : W0.heap[w.heap.size]? = some (.cells #[.slice none 0 0] 112 (0, 0)) := by rw [hW0]; exact World.alloc_heap_new w _
  obtain ⟨gb, hgb⟩ : ∃ q, q = w.heap.size := ⟨_, rfl⟩
  rw [← hgb] at k0
  rw [← hgb]
  have HB0 := Lib.hid (And.intro hb0 (And.intro k0 (And.intro hgb (show W0.heap.size = w.heap.size + 1 by rw [hW0]; exact Array.size_push _))))
  have hBW : w.heap.size ≤ W0.heap.size := hb0.size
  have hglt : g < w.heap.size := (Array.getElem?_eq_some_iff.1 HGB.out).1
  have hJ0 : GatherJ w gb [] W0 := ⟨hb0, by rw [hgb]; exact Nat.le_refl _, _, k0, World.ownsRow_nil _ _ _ _⟩
  have hc0 : W0.cell? ⟨g, 0, none⟩ = some (.map (some b)) := by
    have := blk_cell ((hb0.block g hglt).trans HGB.out) 0
    simpa using this
  have hm0 : MapQS W0 b l := HM.out.below hb0
  have HI0 := Lib.hid (And.intro hJ0 (And.intro (Nat.le_refl W0.heap.size) (And.intro hm0 hc0)))
  clear hb0 k0 hgb hJ0 hc0 hm0 hW0 hglt
  have hSz : AbidesL W0.heap.size (fun W => W0.heap.size ≤ W.heap.size) := fun _ _ _ h hg _ => Nat.le_trans h hg.size
  refine wpIn_rangeFunc_tiedL rfl (by omega) (gf := 67) (fb := #[]) (lb := #[.pointer (some ⟨g, 0, none⟩)]) rfl trivial (enters_of Tryz.func67 (by kernel_rfl) rfl) (encs := fun x : KeyX => #[.int .u32 (x.c : Int)]) (fun _ => rfl)
    ((GatherJ.abides hBW []).and (hSz.and (AbidesL.owns.and Abides.cell.l))) (AbidesL.ex fun ss => (Abides.pure _).l.and (GatherJ.abides hBW ss)) (fun x => ((GatherJ.abides hBW x.ss).and (Abides.pure _).l).and AbidesL.ranges) (fun x => (GatherJ.abides hBW (x.ss ++ [x.c])).and AbidesL.ranges) (fun _ => (Abides.pure _).l) (fun _ => (Abides.pure _).l)
    (keys_seq 4 (by omega) g b l HSL.out.1 W0.heap.size (GatherJ w gb) (fun ss W W' row h hg hr => GatherJ.walk hBW ss W W' row h hg hr)) HI0.out
    (fun x => { tmps := #[.slice none 0 0, .func (.func 67) #[] #[.pointer (some ⟨g, 0, none⟩)], .pointer (some ⟨gb, 0, none⟩), undef, .slice none 0 0, .int .u32 (x.c : Int), .func (.func 67) #[] #[.pointer (some ⟨g, 0, none⟩)], .int .u32 (x.c : Int), undef, undef, undef, undef, undef], defers := [] }) ?assign ?body ?done ?stop
  case assign =>
    intro y x W K hK
    gi_wp2
    exact hK
  case body =>
    rintro y ⟨ss, c, r, left, cnt⟩ W ⟨⟨hJ, hlen⟩, hrg⟩ hlt
    dsimp only at hJ hlen hrg ⊢
    obtain ⟨hb, hg, v, hv, ho⟩ := hJ
    obtain ⟨i0, hi, hz0, hz1, hz2⟩ := infoU_parts
    have hc : W.cell? ⟨gb, 0, none⟩ = some v := by simpa using blk_cell hv 0
    have hf : W.frozen? ⟨gb, 0, none⟩ = false := blk_frozen hv 0
    have hgl : gb < W.heap.size := (Array.getElem?_eq_some_iff.1 hv).1
    have HL := Lib.hid (And.intro hlen HSL.out.2)
    have HRG := Lib.hid hrg
    clear hrg hlen
    obtain ⟨n1, hn1⟩ : ∃ q, q = ss.length := ⟨_, rfl⟩
    rw [← hn1] at ho
    have HN1 := Lib.hid hn1
    have hn1m : n1 + 1 ≤ 1000000 := by have := HL.out; omega
    clear hn1
    gi_wp2_with (first
      | (gi_at_builtin
         refine wpListIn_append_own _ rfl _ _ 112 rfl w.heap.size 31 i0 (.int .u32 0) 1 4 Tryz.underlying112 hi hz0 hz1 hz2 rfl (by decide) v n1 (ss.map cV) rfl (ho.alloc _) ⟨W.heap.size, 0, none⟩ 1 1 [cV c] rfl rfl (cell_one_new _ _ _) (by simp [Value.oneCell', cV]) (by simp only [maxLen]; omega) (by omega) (by have := hb.size; simp; omega) ?_
         intro v' w3 hown' hg3 _
         obtain ⟨A3, c3, rfl⟩ := own_form hown'
         have hv3 : w3.heap[gb]? = some (.cells #[v] 112 (0, 0)) := SameT.grown hg3 (own_typed (ho.alloc _)) _ _ _ (by decide) ((Go.RowKit.Below.heap_alloc _ _ gb hgl).trans hv)
         have hc3 : w3.cell? ⟨gb, 0, none⟩ = some v := by simpa using blk_cell hv3 0
         have hf3 : w3.frozen? ⟨gb, 0, none⟩ = false := blk_frozen hv3 0
         have HW3 := Lib.hid (And.intro hown' (And.intro hg3 hv3))
         clear hown' hg3 hv3)
      | gi_in)
    obtain ⟨hown', hg3, hv3⟩ := HW3.out
    have kA : KeepsOthers W (W.alloc (.cells #[cV c] 31)) := KeepsOthers.alloc _ _
    have kB : KeepsOthers (W.alloc (.cells #[cV c] 31)) w3 := KeepsOthers.of_grownBy hg3 (fun j o e ho' => by
      obtain ⟨cs, hcs⟩ := own_typed (ho.alloc _) j e
      rw [hcs] at ho'
      cases ho'
      rfl)
    have kC := kA.trans (kB.trans (KeepsOthers.setCell w3 ⟨gb, 0, none⟩ (.slice A3 (n1 + 1) c3)))
    have hb3 : Go.RowKit.Below w.heap.size w w3 := (hb.alloc hb.size _).grown hg3 (by have := hb.size; simp; omega) (fun k e => (ho.lt k e).1)
    refine ⟨kC.from _, ⟨hb3.setCell (p := ⟨gb, 0, none⟩) hg _, hg, _, blk_set hv3 0 _, ?_⟩, HRG.out.of_walks kC.walks⟩
    have ho4 := (SameT.set (i := 0) hv3 (.slice A3 (n1 + 1) c3)).own hown' (by decide)
    rw [List.length_append, List.length_singleton, ← HN1.out, List.map_append]
    exact ho4
  case done =>
    rintro D W hD ⟨ss, hp, hb, hg, v, hv, ho⟩ hK
    have hc := blk_cell hv 0
    simp at hc
    obtain ⟨A9, c9, rfl⟩ := own_form ho
    obtain ⟨n9, hn9⟩ : ∃ q, q = ss.length := ⟨_, rfl⟩
    rw [← hn9] at ho hc
    have HD := Lib.hid (And.intro hp (And.intro hb (And.intro ho (And.intro hn9 hK))))
    have hDw : w.heap.size ≤ D := Nat.le_trans hBW hD
    clear hp hb ho hn9 hK hv hg
    gi_wp2
    have hr : ∀ r, some D = some r → w.heap.size ≤ r ∧ ∃ o, W.heap[r]? = some o ∧ o.isCells = false := fun r e => by
      cases e
      exact ⟨hDw, _, HD.out.2.2.2.2, rfl⟩
    have e1 := Abides.own (B := w.heap.size) W _ (some D) HD.out.2.2.1 (grownBy_putObj' W D (.deferred none)) hr
    have e2 := Abides.below (Nat.le_refl w.heap.size) (Nat.le_refl w.heap.size) W _ (some D) HD.out.2.1 (grownBy_putObj' W D (.deferred none)) hr
    refine ⟨by simp, .inl ⟨_, _, rfl, run_takeDeferred HD.out.2.2.2.2, ?_⟩⟩
    refine ⟨.slice A9 n9 c9, (results_tmp (fn := Tryz.f81) (t := 4) rfl _ _ _).trans rfl, .slice A9 n9 c9, ss, rfl, HD.out.1, ?_, e2⟩
    rw [← HD.out.2.2.2.1]
    exact e1
  case stop =>
    intro D cc W hD hf
    exact hf.elim
set_option maxRecDepth 100000 in
set_option maxHeartbeats 8000000 in
theorem apps_nil_in (g : Nat) (w : World) (hg : w.heap[g]? = some (.cells #[.map none] 93 (0, 0))) :
    CallsIn Fence.wide 5 Tryz.prog 81 #[.slice none 0 0, keysVS g] w fun e W' => e = .returned (.slice none 0 0) ∧ Go.RowKit.Below w.heap.size w W' := by
  have HGB := Lib.hid hg
  clear hg
  unfold keysVS
  refine callsIn_of_wp_marks Tryz.func81 rfl trivial ?_ rfl
  simp only [Tryz.ntmps81, List.size_toArray, List.length_cons, List.length_nil, Nat.reduceAdd, Nat.reduceSub, Array.replicate_succ, Array.replicate_zero, List.push_toArray, List.append_toArray, List.nil_append, List.cons_append]
  gi_wp2
  obtain ⟨W0, hW0⟩ : ∃ W0, W0 = w.alloc (.cells #[.slice none 0 0] 112) := ⟨_, rfl⟩
  rw [← hW0]
  have hb0 : Go.RowKit.Below w.heap.size w W0 := by rw [hW0]; exact (Go.RowKit.Below.refl _ w).alloc (Nat.le_refl _) _
  have k0 : W0.heap[w.heap.size]? = some (.cells #[.slice none 0 0] 112 (0, 0)) := by rw [hW0]; exact World.alloc_heap_new w _
  obtain ⟨gb, hgb⟩ : ∃ q, q = w.heap.size := ⟨_, rfl⟩
  rw [← hgb] at k0
  rw [← hgb]
  have hBW : w.heap.size ≤ W0.heap.size := hb0.size
  have hglt : g < w.heap.size := (Array.getElem?_eq_some_iff.1 HGB.out).1
  obtain ⟨J, hJd⟩ : ∃ J : World → Prop, J = fun W => Go.RowKit.Below w.heap.size w W ∧ W.heap[gb]? = some (.cells #[.slice none 0 0] 112 (0, 0)) := ⟨_, rfl⟩
  have hJa : Abides W0.heap.size J := by rw [hJd]; exact (Abides.below (Nat.le_refl _) hBW).and Abides.block
  have hc0 : W0.cell? ⟨g, 0, none⟩ = some (.map none) := by
    have := blk_cell ((hb0.block g hglt).trans HGB.out) 0
    simpa using this
  have HI0 := Lib.hid (And.intro (show J W0 by rw [hJd]; exact ⟨hb0, k0⟩) hc0)
  have HJD := Lib.hid hJd
  clear hb0 k0 hc0 hW0 hglt hJd hgb
  refine wpIn_rangeFunc_tiedL rfl (by omega) (gf := 67) (fb := #[]) (lb := #[.pointer (some ⟨g, 0, none⟩)]) rfl trivial (enters_of Tryz.func67 (by kernel_rfl) rfl) (encs := fun x : KeyX => #[.int .u32 (x.c : Int)]) (fun _ => rfl)
    (hJa.l.and Abides.cell.l) hJa.l (fun _ => (Abides.pure _).l) (fun _ => (Abides.pure _).l) (fun _ => (Abides.pure _).l) (fun _ => (Abides.pure _).l)
    (keys_nil_seq 4 g W0.heap.size J (fun W W' row h hg hr => hJa W W' row h hg (fun r e => ⟨(hr r e).1, by obtain ⟨o, k1, k2⟩ := (hr r e).2; exact ⟨o, k1, Obj.not_cells_of_walk k2⟩⟩))) HI0.out
    (fun x => { tmps := #[.slice none 0 0, .func (.func 67) #[] #[.pointer (some ⟨g, 0, none⟩)], .pointer (some ⟨gb, 0, none⟩), undef, .slice none 0 0, .int .u32 (x.c : Int), .func (.func 67) #[] #[.pointer (some ⟨g, 0, none⟩)], .int .u32 (x.c : Int), undef, undef, undef, undef, undef], defers := [] }) ?assign ?body ?done ?stop
  case assign =>
    intro y x W K hK
    gi_wp2
    exact hK
  case body =>
    intro y x W hf
    exact hf.elim
  case done =>
    intro D W hD hJW hK
    rw [HJD.out] at hJW
    obtain ⟨hb, hv⟩ := hJW
    have hc := blk_cell hv 0
    simp at hc
    have HD := Lib.hid (And.intro hb hK)
    have hDw : w.heap.size ≤ D := Nat.le_trans hBW hD
    clear hb hK hv hJa
    gi_wp2
    have hr : ∀ r, some D = some r → w.heap.size ≤ r ∧ ∃ o, W.heap[r]? = some o ∧ o.isCells = false := fun r e => by
      cases e
      exact ⟨hDw, _, HD.out.2, rfl⟩
    have e2 := Abides.below (Nat.le_refl w.heap.size) (Nat.le_refl w.heap.size) W _ (some D) HD.out.1 (grownBy_putObj' W D (.deferred none)) hr
    refine ⟨by simp, .inl ⟨_, _, rfl, run_takeDeferred HD.out.2, ?_⟩⟩
    exact ⟨.slice none 0 0, (results_tmp (fn := Tryz.f81) (t := 4) rfl _ _ _).trans rfl, rfl, e2⟩
  case stop =>
    intro D cc W hD hf
    exact hf.elim
end Go.Proofs.YthmmbopibpdpiaaGreatDoor

-- SqO
namespace Go.Proofs.YthmmbopibpdpiaaGreatDoor
open Go.RowKit Go.Maps Go.Sort

set_option maxHeartbeats 4000000 in
theorem ins_nil (w : World) : Calls Tryz.prog 90 #[.slice none 0 0, .int .i64 0, .int .i64 0] w fun e W' => e = .returned (.tuple #[]) ∧ W' = w := by
  go_enter Tryz.func90, Tryz.ntmps90
  go_wp2
  refine wp_loop_rounds 1 ?_
  rw [rounds_succ]
  go_wp2
  go_end0
  exact ⟨rfl, rfl⟩
set_option maxHeartbeats 4000000 in
theorem pdq_nil (w : World) (lim : Nat) : Calls Tryz.prog 82 #[.slice none 0 0, .int .i64 0, .int .i64 0, .int .i64 (lim : Int)] w fun e W' => e = .returned (.tuple #[]) ∧ W' = w := by
  go_enter Tryz.func82, Tryz.ntmps82
  go_wp2
  refine wp_loop_rounds 1 ?_
  rw [rounds_succ]
  go_wp2_with (go_at_call 90; refine (ins_nil w).mono ?_; rintro e1 W1 ⟨rfl, rfl⟩)
  go_returns
  exact ⟨rfl, rfl⟩
theorem ownU_mono {w : World} {b b' n : Nat} {e : TypeId} {v : Value} {xs : List Value} (h : w.ownsRow b e 1 v n xs) (hb : b' ≤ b) : w.ownsRow b' e 1 v n xs :=
  ⟨h.1, h.2.imp id fun ⟨g, cap, cur, e, h1, r⟩ => ⟨g, cap, cur, e, Nat.le_trans hb h1, r⟩⟩
def SortedN (ss : List Nat) : Prop := ss.Pairwise (· ≤ ·)
theorem sorted_of {n : Nat} {ss : List Nat} {d : Array Int} (hn : d.size = n) (hp : PermIn 0 n (ss.map Int.ofNat).toArray d) (hs : SortedIn ltInt 0 n d) (hl : ss.length = n) : ∃ ss' : List Nat, ss'.Perm ss ∧ SortedN ss' ∧ d.toList.map nV = ss'.map cV := by
  have h1 : d.toList.Perm (ss.map Int.ofNat) := by
    have := hp.2.2
    rw [← hn] at this
    rw [Array.extract_size] at this
    rw [hn, ← hl, show ss.length = ((ss.map Int.ofNat).toArray).size by simp, Array.extract_size] at this
    simpa using this
  have h2 : ∀ x ∈ d.toList, 0 ≤ x := fun x hx => by
    obtain ⟨a, _, rfl⟩ := List.mem_map.1 ((h1.mem_iff).1 hx)
    exact Int.natCast_nonneg a
  refine ⟨d.toList.map Int.toNat, ?_, ?_, ?_⟩
  · have := h1.map Int.toNat
    rw [List.map_map, show Int.toNat ∘ Int.ofNat = id from rfl, List.map_id] at this
    exact this
  · unfold SortedN
    rw [List.pairwise_map, List.pairwise_iff_getElem]
    intro i j hi hj hij
    have hi' : i < d.size := by simpa using hi
    have hj' : j < d.size := by simpa using hj
    have := hs i j (Nat.zero_le _) hij (by omega)
    rw [getElem!_pos d i hi', getElem!_pos d j hj'] at this
    simp only [ltInt, decide_eq_false_iff_not] at this
    simp only [Array.getElem_toList]
    omega
  · rw [List.map_map]
    apply List.map_congr_left
    intro x hx
    have := h2 x hx
    simp only [Function.comp, nV, cV]
    congr 1
    omega
set_option maxHeartbeats 4000000 in
theorem sort_any {w : World} {base : Nat} {v : Value} {ss : List Nat} (h : w.ownsRow base 31 1 v ss.length (ss.map cV)) (hl : ss.length ≤ 1000000) :
    Calls Tryz.prog 66 #[v] w fun e W' => e = .returned (.tuple #[]) ∧ ∃ ss' : List Nat, ss'.Perm ss ∧ SortedN ss' ∧ W'.ownsRow base 31 1 v ss.length (ss'.map cV) ∧ w.grownBy W' v.ownBlock := by
  obtain ⟨n, hn⟩ : ∃ n, n = ss.length := ⟨_, rfl⟩
  rw [← hn] at h hl ⊢
  have hbl : Lib.bitLen n ≤ 64 := Lib.bitLen_le n 64 (Nat.le_refl _) (by omega)
  obtain ⟨lim, hlim⟩ : ∃ x, x = Lib.bitLen n := ⟨_, rfl⟩
  have hbits : ∀ W : World, Calls Tryz.prog 83 #[.int .u64 (n : Int)] W fun e w' => e = .returned (.int .i64 (lim : Int)) ∧ w' = W := fun W => by
    have := lay_bits_Len (n : Int) W (by omega) (by omega)
    rw [Int.toNat_natCast, ← hlim] at this
    exact this
  rw [← hlim] at hbl
  rcases h.2 with ⟨rfl, h0⟩ | ⟨g, cap, cur, rfl, hbg, hg, hnc, hcm, hcs, htk⟩
  · subst h0
    have hss : ss = [] := List.length_eq_zero_iff.1 hn.symm
    subst hss
    clear hn h
    have HB := Lib.hid hbits
    clear hbits hlim hbl
    go_enter Tryz.func66, Tryz.ntmps66
    go_wp2_with (first
      | (go_at_call 83; refine (HB.out _).mono ?_; rintro e1 W1 ⟨rfl, rfl⟩)
      | (go_at_call 82; refine (pdq_nil _ lim).mono ?_; rintro e1 W1 ⟨rfl, rfl⟩))
    go_end0
    exact ⟨rfl, [], List.Perm.refl _, List.Pairwise.nil, World.ownsRow_nil _ _ _ _, ⟨rfl, rfl, rfl, Nat.le_refl _, fun _ _ _ => rfl⟩⟩
  · have hcur : cur = rowZ [] (ss.map Int.ofNat).toArray (cur.toList.drop n) := by
      unfold rowZ
      have e1 : (ss.map Int.ofNat).toArray.toList.map nV = ss.map cV := by simp [cV, nV]
      rw [e1, ← htk, Nat.mul_one, List.nil_append, List.take_append_drop]
    have hsr : SR w g 0 n [] (cur.toList.drop n) (ss.map Int.ofNat).toArray w := ⟨by simp [hn], rfl, by rw [← hcur]; exact hg, ⟨rfl, rfl, rfl, Nat.le_refl _, fun _ _ _ => rfl⟩⟩
    have HP := Lib.hid (pdq_n (by omega) (n + 1) cap 0 n lim _ w (by omega) hsr (Nat.zero_le _) (Nat.le_refl _) (by omega) (.inl rfl))
    have HB := Lib.hid hbits
    have HH := Lib.hid (And.intro hn (And.intro hbg (And.intro hnc (And.intro hcm (And.intro hcs hl)))))
    have hn60 : n ≤ 1000000 := hl
    clear hbits hlim hbl h hg hn hbg hnc hcm hcs htk hcur hsr hl
    go_enter Tryz.func66, Tryz.ntmps66
    go_wp2_with (first
      | (go_at_call 83; refine (HB.out _).mono ?_; rintro e1 W1 ⟨rfl, rfl⟩)
      | (go_at_call 82; refine HP.out.mono ?_; rintro e1 W1 ⟨rfl, hs⟩))
    go_end0
    obtain ⟨hn, hbg, hnc, hcm, hcs, _⟩ := HH.out
    obtain ⟨d', hp, hso, hr⟩ := hs
    obtain ⟨ss', q1, q2, q3⟩ := sorted_of hr.size hp hso hn.symm
    have hlen : (ss'.map cV).length = n := by rw [List.length_map, q1.length_eq, hn]
    refine ⟨rfl, ss', q1, q2, ⟨by rw [hlen, Nat.mul_one], .inr ⟨g, cap, _, rfl, hbg, hr.row, hnc, hcm, ?_, ?_⟩⟩, hr.grown⟩
    · unfold rowZ
      rw [q3]
      simp only [List.size_toArray, List.length_append, List.length_nil, hlen, List.length_drop, Array.length_toList, hcs]
      omega
    · unfold rowZ
      rw [q3, Nat.mul_one, List.nil_append, List.toList_toArray, ← hlen, List.take_left']
      rfl
set_option maxHeartbeats 4000000 in
theorem collect_any {w : World} {p : Option Nat} {l : List SE} (h : MapOS w p l) (hs : SortedE l) (hl : l.length ≤ 1000000) :
    Calls Tryz.prog 65 #[keysVS w.heap.size] (w.alloc (.cells #[.map p] 93)) fun e W' => ∃ (v : Value) (ss : List Nat), e = .returned v ∧ ss.Perm (l.map (·.cl)) ∧ W'.ownsRow (w.heap.size + 1) 31 1 v ss.length (ss.map cV) ∧ Go.RowKit.Below (w.heap.size + 1) (w.alloc (.cells #[.map p] 93)) W' := by
  have hsz : (w.alloc (.cells #[.map p] 93)).heap.size = w.heap.size + 1 := Array.size_push _
  have hnew := World.alloc_heap_new w (.cells #[.map p] 93)
  have hbel : Go.RowKit.Below w.heap.size w (w.alloc (.cells #[.map p] 93)) := (Go.RowKit.Below.refl _ w).alloc (Nat.le_refl _) _
  have hmo := MapOS.below h hbel
  obtain ⟨W0, hW0⟩ : ∃ W0, W0 = w.alloc (.cells #[.map p] 93) := ⟨_, rfl⟩
  rw [← hW0] at hsz hnew hmo ⊢
  obtain ⟨g, hg⟩ : ∃ g, g = w.heap.size := ⟨_, rfl⟩
  rw [← hg] at hnew hsz ⊢
  clear hW0 hbel h
  have hA : Calls Tryz.prog 81 #[.slice none 0 0, keysVS g] W0 fun e W' => ∃ (v : Value) (ss : List Nat), e = .returned v ∧ ss.Perm (l.map (·.cl)) ∧ W'.ownsRow (g + 1) 31 1 v ss.length (ss.map cV) ∧ Go.RowKit.Below (g + 1) W0 W' := by
    cases p with
    | none =>
      obtain rfl : l = [] := hmo
      refine ((callsIn_wide (n := 5)).1 (apps_nil_in g W0 hnew)).mono ?_
      rintro e W' ⟨rfl, hb⟩
      exact ⟨_, [], rfl, List.Perm.refl _, World.ownsRow_nil _ _ _ _, by rw [← hsz]; exact hb⟩
    | some b =>
      refine ((callsIn_wide (n := 5)).1 (apps_in g b l hs hl W0 hmo hnew)).mono ?_
      rintro e W' ⟨v, ss, rfl, hp, ho, hb⟩
      exact ⟨v, ss, rfl, hp, by rw [← hsz]; exact ho, by rw [← hsz]; exact hb⟩
  have HA := Lib.hid hA
  clear hA hmo hnew hsz hs hl hg
  unfold keysVS at HA ⊢
  go_enter Tryz.func65, Tryz.ntmps65
  go_wp2_with (go_at_call 81; refine HA.out.mono ?_; rintro e1 W1 ⟨v, ss, rfl, hr⟩)
  go_returns
  exact ⟨v, ss, rfl, hr⟩
theorem clients_eq {l : List SE} (hs : SortedE l) {ss : List Nat} (hp : ss.Perm (l.map (·.cl))) (h : SortedN ss) : ss = l.map (·.cl) := by
  refine List.Perm.eq_of_pairwise (le := (· ≤ ·)) (fun a b _ _ h1 h2 => Nat.le_antisymm h1 h2) h ?_ hp
  rw [List.pairwise_map]
  exact hs.imp fun h => Nat.le_of_lt h
set_option maxHeartbeats 4000000 in
theorem sorted_anyS {w : World} {p : Option Nat} {l : List SE} (h : MapOS w p l) (hs : SortedE l) (hl : l.length ≤ 1000000) :
    Calls Tryz.prog 49 #[keysVS w.heap.size] (w.alloc (.cells #[.map p] 93)) fun e W' => ∃ v, e = .returned v ∧ W'.ownsRow w.heap.size 31 1 v l.length ((l.map (·.cl)).map cV) ∧ Go.RowKit.Below w.heap.size w W' := by
  have HC := Lib.hid (collect_any h hs hl)
  have hsz : (w.alloc (.cells #[.map p] 93)).heap.size = w.heap.size + 1 := Array.size_push _
  have hbel : Go.RowKit.Below w.heap.size w (w.alloc (.cells #[.map p] 93)) := (Go.RowKit.Below.refl _ w).alloc (Nat.le_refl _) _
  obtain ⟨W0, hW0⟩ : ∃ W0, W0 = w.alloc (.cells #[.map p] 93) := ⟨_, rfl⟩
  rw [← hW0] at hsz hbel HC ⊢
  have HH := Lib.hid (And.intro hsz (And.intro hbel (And.intro hs hl)))
  clear hW0 hsz hbel h hs hl
  obtain ⟨g, hg⟩ : ∃ g, g = w.heap.size := ⟨_, rfl⟩
  rw [← hg] at HC HH ⊢
  clear hg
  unfold keysVS at HC ⊢
  go_enter Tryz.func49, Tryz.ntmps49
  go_wp2_with (first
    | (go_at_call 65; refine HC.out.mono ?_; rintro e1 W1 ⟨v, ss, rfl, hp, ho, hb⟩
       have hlen : ss.length = l.length := by rw [hp.length_eq, List.length_map]
       have HO := Lib.hid (And.intro hp (And.intro ho (And.intro hb hlen)))
       have HS := Lib.hid (sort_any ho (by rw [hlen]; exact HH.out.2.2.2))
       clear hp ho hb hlen)
    | (go_at_call 66; refine HS.out.mono ?_; rintro e2 W2 ⟨rfl, hr⟩))
  go_returns
  obtain ⟨ss', q1, q2, q3, q4⟩ := hr
  obtain ⟨hp, ho, hb, hlen⟩ := HO.out
  obtain ⟨hsz, hbel, hs, hl⟩ := HH.out
  have e1 := clients_eq hs (q1.trans hp) q2
  rw [e1, hlen] at q3
  refine ⟨v, rfl, ownU_mono q3 (Nat.le_succ g), ?_⟩
  exact (hbel.trans (Go.RowKit.Below.mono hb (Nat.le_succ g))).grown q4 (by have := hbel.size; have := hb.size; omega) fun k e => Nat.le_of_succ_le (ho.lt k e).1
end Go.Proofs.YthmmbopibpdpiaaGreatDoor
