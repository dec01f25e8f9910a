/- The library's Equal of two rows of texts. The program's Same: whether two commands are alike. The library's EqualFunc of two commands; the program's Same. The program's Same. -/
import Derived.Test.YtfaplmpenlbajaaDoorCmK
import Derived.Test.YtfaplmpenlbajaaDoorCmSame
import Derived.Test.YtfaplmpenlbajaaDoorMCqA
-- CqE
namespace Go.Proofs.YtfaplmpenlbajaaDoor
open Go.RowKit

set_option maxRecDepth 100000 in
set_option maxHeartbeats 4000000 in
theorem equal_s (A A' : Option Addr) (L L' c c' : Nat) (ks ks' : List ByteArray) (hL : L = ks.length) (hL' : L' = ks'.length) (hm : L ≤ 140737488351232) (hm' : L' ≤ 140737488351232) (w : World) (hA : HasS w A ks) (hA' : HasS w A' ks') :
    Calls Tryd.prog 33 #[.slice A L c, .slice A' L' c'] w fun e W' => e = .returned (.bool (decide (ks = ks'))) ∧ Below w.heap.size w W' := by
  have HL := Lib.hid (And.intro hL hL')
  have HA := Lib.hid (And.intro hA hA')
  have hLi : (L : Int) ≤ 140737488351232 := by omega
  have hLi' : (L' : Int) ≤ 140737488351232 := by omega
  clear hL hL' hA hA' hm hm'
  by_cases hne : L = L'
  · subst hne
    go_enter Tryd.func33, Tryd.ntmps33
    go_wp2
    go_loopw [5, 13] (fun v5 i wr => ∃ k : Nat, k ≤ L ∧ i = .int .i64 (k : Int) ∧ Hid (Below w.heap.size w wr ∧ ∀ j (h1 : j < ks.length) (h2 : j < ks'.length), j < k → ks[j] = ks'[j])) (fun _ i _ => L - (intOf i).toNat)
    case atStart => exact ⟨0, Nat.zero_le _, rfl, Lib.hid ⟨Below.refl _ _, fun j _ _ h => by omega⟩⟩
    case round =>
      obtain ⟨k, hk, rfl, hb⟩ := hrel
      by_cases hlt : k < L
      · have hki : (k : Int) < L := by omega
        have hk1 : k < ks.length := by have := HL.out.1; omega
        have hk2 : k < ks'.length := by have := HL.out.2; omega
        obtain ⟨b1, o1, e1, l1, f1⟩ := HA.out.1 (by intro e; rw [e] at hk1; simp at hk1)
        obtain ⟨b2, o2, e2, l2, f2⟩ := HA.out.2 (by intro e; rw [e] at hk2; simp at hk2)
        subst e1 e2
        have g1 := (hb.out.1.cell (p := ⟨b1, o1 + k, none⟩) l1).trans (f1 k hk1)
        have g2 := (hb.out.1.cell (p := ⟨b2, o2 + k, none⟩) l2).trans (f2 k hk2)
        obtain ⟨X, hX⟩ : ∃ X, X = ks[k] := ⟨_, rfl⟩
        obtain ⟨Y, hY⟩ : ∃ Y, Y = ks'[k] := ⟨_, rfl⟩
        rw [← hX] at g1
        rw [← hY] at g2
        have HXY := Lib.hid (And.intro hX hY)
        clear hX hY f1 f2 l1 l2
        by_cases hxy : X = Y
        · subst hxy
          go_upto_region 6 with (fail)
          go_region
          go_wp2
          exact ⟨⟨k + 1, by omega, by congr 1, Lib.hid ⟨hb.out.1.drew, fun j h1 h2 hj => by
            rcases Nat.lt_or_ge j k with h | h
            · exact hb.out.2 j h1 h2 h
            · have : j = k := by omega
              subst this
              exact HXY.out.1.symm.trans HXY.out.2⟩⟩, by simp only [intOf]; omega⟩
        · have HN := Lib.hid hxy
          have hf : decide (ks = ks') = false := by
            simp only [decide_eq_false_iff_not]
            rintro rfl
            exact HN.out (HXY.out.1.trans HXY.out.2.symm)
          have HF := Lib.hid hf
          clear hf hxy
          go_upto_region 6 with (fail)
          go_region
          go_wp2
          all_goals first
            | (exfalso
               have hx2 : ¬ X = Y := HN.out
               rename_i hsame
               simp [toList_inj] at hsame
               exact hx2 hsame)
            | (go_ret
               exact ⟨by rw [HF.out]; rfl, by first | exact hb.out.1.drew | exact hb.out.1⟩)
      · obtain rfl : k = L := by omega
        have hki : ¬ (k : Int) < k := by omega
        have hks : decide (ks = ks') = true := by
          rw [decide_eq_true_eq]
          exact List.ext_getElem (by have := HL.out; omega) fun j h1 h2 => hb.out.2 j h1 h2 (by have := HL.out; omega)
        have HK := Lib.hid hks
        clear hks
        go_wp2
        go_ret
        exact ⟨by rw [HK.out]; rfl, hb.out.1⟩
  · have hf : decide (ks = ks') = false := by
      simp only [decide_eq_false_iff_not]
      rintro rfl
      exact hne (HL.out.1.trans HL.out.2.symm)
    have HF := Lib.hid hf
    have hnei : ((L : Int) == (L' : Int)) = false := by simp; omega
    clear hf hne
    go_enter Tryd.func33, Tryd.ntmps33
    go_wp2
    all_goals
      go_ret
      exact ⟨by rw [HF.out]; rfl, Below.refl _ _⟩
end Go.Proofs.YtfaplmpenlbajaaDoor

-- CqS
namespace Go.Proofs.YtfaplmpenlbajaaDoor
open Go.RowKit

set_option maxRecDepth 100000 in
set_option maxHeartbeats 4000000 in
theorem same1_any (a b : CmdV) (w : World) (ha : a.ok w) (hb : b.ok w) : Calls Tryd.prog 32 #[a.val, b.val] w fun e W' => e = .returned (.bool (a.same b)) ∧ Below w.heap.size w W' := by
  have HQ : Hid (∀ W, Below w.heap.size w W → Calls Tryd.prog 33 #[.slice a.A a.L a.c, .slice b.A b.L b.c] W fun e W' => e = .returned (.bool (decide (a.ks = b.ks))) ∧ Below W.heap.size W W') := Lib.hid (fun W h => equal_s a.A b.A a.L b.L a.c b.c a.ks b.ks ha.len hb.len ha.max hb.max W (ha.has.below h) (hb.has.below h))
  obtain ⟨acl, asq, akd, A, L, c, ks, old, new, n⟩ := a
  obtain ⟨bcl, bsq, bkd, A', L', c', ks', old', new', n'⟩ := b
  simp only at HQ
  obtain ⟨q, hq⟩ : ∃ q, q = decide (ks = ks') := ⟨_, rfl⟩
  rw [← hq] at HQ
  have HE := Lib.hid hq
  have hm := ha.max
  have hm' := hb.max
  simp only at hm hm'
  simp only [CmdV.val, CmdV.cells]
  clear ha hb hq
  go_enter Tryd.func32, Tryd.ntmps32
  go_upto_region 1 with (fail)
  obtain ⟨W2, hW2⟩ : ∃ W2, W2 = ((w.alloc (Obj.cells #[.int .u32 (acl : Int), .int .u32 (asq : Int), .int .u8 (akd : Int), .slice A L c, .string old, .string new, .int .i64 n] 26)).alloc (Obj.cells #[.int .u32 (bcl : Int), .int .u32 (bsq : Int), .int .u8 (bkd : Int), .slice A' L' c', .string old', .string new', .int .i64 n'] 26)) := ⟨_, rfl⟩
  rw [← hW2]
  obtain ⟨p, hp⟩ : ∃ p, p = w.heap.size := ⟨_, rfl⟩
  have hB : Below w.heap.size w W2 := by rw [hW2]; exact ((Below.refl _ w).alloc (Nat.le_refl _) _).alloc (by simp) _
  have k1 : W2.heap[p]? = some (.cells #[.int .u32 (acl : Int), .int .u32 (asq : Int), .int .u8 (akd : Int), .slice A L c, .string old, .string new, .int .i64 n] 26 (0, 0)) := by
    rw [hW2, hp, Below.heap_alloc _ _ _ (by simp)]; exact World.alloc_heap_new w _
  have k2 : W2.heap[p + 1]? = some (.cells #[.int .u32 (bcl : Int), .int .u32 (bsq : Int), .int .u8 (bkd : Int), .slice A' L' c', .string old', .string new', .int .i64 n'] 26 (0, 0)) := by
    have := World.alloc_heap_new (w.alloc (Obj.cells #[.int .u32 (acl : Int), .int .u32 (asq : Int), .int .u8 (akd : Int), .slice A L c, .string old, .string new, .int .i64 n] 26)) (Obj.cells #[.int .u32 (bcl : Int), .int .u32 (bsq : Int), .int .u8 (bkd : Int), .slice A' L' c', .string old', .string new', .int .i64 n'] 26)
    rw [hW2, hp]; simpa using this
  rw [← hp]
  have FF : Hid (∀ W, Below W2.heap.size W2 W → (∀ i u, (#[.int .u32 (acl : Int), .int .u32 (asq : Int), .int .u8 (akd : Int), .slice A L c, .string old, .string new, .int .i64 n] : Array Value)[i]? = some u → W.cell? ⟨p, i, none⟩ = some u) ∧ (∀ i u, (#[.int .u32 (bcl : Int), .int .u32 (bsq : Int), .int .u8 (bkd : Int), .slice A' L' c', .string old', .string new', .int .i64 n'] : Array Value)[i]? = some u → W.cell? ⟨p + 1, i, none⟩ = some u)) := Lib.hid (fun W h => ⟨fun i u hu => (h.cell (p := ⟨p, i, none⟩) (Array.getElem?_eq_some_iff.1 k1).1).trans (by rw [blk_cell k1 i]; simpa using hu), fun i u hu => (h.cell (p := ⟨p + 1, i, none⟩) (Array.getElem?_eq_some_iff.1 k2).1).trans (by rw [blk_cell k2 i]; simpa using hu)⟩)
  have BW := Lib.hid hB
  have HP := Lib.hid hp
  clear hW2 hp hB k1 k2
  have F0 := FF.out W2 (Below.refl _ _)
  have x0 := F0.1 0 _ rfl
  have x1 := F0.1 1 _ rfl
  have x2 := F0.1 2 _ rfl
  have x3 := F0.1 3 _ rfl
  have y0 := F0.2 0 _ rfl
  have y1 := F0.2 1 _ rfl
  have y2 := F0.2 2 _ rfl
  have y3 := F0.2 3 _ rfl
  clear F0
  go_wp2_with (go_at_call 33; refine (HQ.out W2 BW.out).mono ?_; rintro e W3 ⟨rfl, hb3⟩; have B3 := Lib.hid (BW.out.trans (Below.mono hb3 BW.out.size)); have x4 := (FF.out W3 hb3).1 4 _ rfl; have x5 := (FF.out W3 hb3).1 5 _ rfl; have x6 := (FF.out W3 hb3).1 6 _ rfl; have y4 := (FF.out W3 hb3).2 4 _ rfl; have y5 := (FF.out W3 hb3).2 5 _ rfl; have y6 := (FF.out W3 hb3).2 6 _ rfl; clear hb3 x0 x1 x2 x3 y0 y1 y2 y3)
  all_goals
    go_ret
    refine ⟨Eq.trans (b := .returned (.bool _)) rfl (congrArg (fun b => Ending.returned (.bool b)) ?_), by first | exact B3.out | exact BW.out⟩
    have e := HE.out
    simp only [CmdV.same]
    clear HE FF HQ
    try clear x0 x1 x2 x3 y0 y1 y2 y3
    try clear x4 x5 x6 y4 y5 y6
  all_goals
    simp only [toList_inj, Int.natCast_inj] at *
    first | (simp [*]; done) | (rw [Bool.eq_iff_iff]; simp [*]; done) | (simp_all; done) | (have e2 : ks = ks' := (by apply of_decide_eq_true; rw [← e]; assumption); clear e; rw [Bool.eq_iff_iff]; simp [*]; done) | trace_state
end Go.Proofs.YtfaplmpenlbajaaDoor

-- CqM
namespace Go.Proofs.YtfaplmpenlbajaaDoor
open Go.RowKit

set_option maxRecDepth 100000 in
set_option maxHeartbeats 4000000 in
theorem equalFunc_one (p q : Nat) (a b : CmdV) (w : World) (ha : a.ok w) (hb : b.ok w) (hp : w.heap[p]? = some (.cells a.cells 26 (0, 0))) (hq : w.heap[q]? = some (.cells b.cells 26 (0, 0))) :
    Calls Tryd.prog 34 #[.slice (some ⟨p, 0, none⟩) 1 1, .slice (some ⟨q, 0, none⟩) 1 1, .func (.func 32) #[] #[]] w fun e W' => e = .returned (.bool (a.same b)) ∧ Below w.heap.size w W' := by
  have HQ : Hid (∀ W, Below w.heap.size w W → Calls Tryd.prog 32 #[a.val, b.val] W fun e W' => e = .returned (.bool (a.same b)) ∧ Below W.heap.size W W') := Lib.hid (fun W h => same1_any a b W (ha.below h) (hb.below h))
  obtain ⟨r, hr⟩ : ∃ r, r = a.same b := ⟨_, rfl⟩
  rw [← hr] at HQ ⊢
  obtain ⟨acl, asq, akd, A, L, c, ks, old, new, n⟩ := a
  obtain ⟨bcl, bsq, bkd, A', L', c', ks', old', new', n'⟩ := b
  simp only [CmdV.val, CmdV.cells] at HQ hp hq
  have FF : Hid (∀ W, Below w.heap.size w W → (∀ i u, (#[.int .u32 (acl : Int), .int .u32 (asq : Int), .int .u8 (akd : Int), .slice A L c, .string old, .string new, .int .i64 n] : Array Value)[i]? = some u → W.cell? ⟨p, i, none⟩ = some u) ∧ (∀ i u, (#[.int .u32 (bcl : Int), .int .u32 (bsq : Int), .int .u8 (bkd : Int), .slice A' L' c', .string old', .string new', .int .i64 n'] : Array Value)[i]? = some u → W.cell? ⟨q, i, none⟩ = some u)) := Lib.hid (fun W h => ⟨fun i u hu => (h.cell (p := ⟨p, i, none⟩) (Array.getElem?_eq_some_iff.1 hp).1).trans (by rw [blk_cell hp i]; simpa using hu), fun i u hu => (h.cell (p := ⟨q, i, none⟩) (Array.getElem?_eq_some_iff.1 hq).1).trans (by rw [blk_cell hq i]; simpa using hu)⟩)
  have HPQ := Lib.hid (And.intro hp hq)
  clear ha hb hr hp hq
  go_enter Tryd.func34, Tryd.ntmps34
  go_wp2
  go_loopw [7, 8, 9, 17] (fun v7 v8 v9 i wr => ∃ k : Nat, k ≤ 1 ∧ i = .int .i64 (k : Int) ∧ Hid (Below w.heap.size w wr ∧ (k = 1 → r = true))) (fun _ _ _ i _ => 1 - (intOf i).toNat)
  case atStart => exact ⟨0, Nat.zero_le _, rfl, Lib.hid ⟨Below.refl _ _, fun h => by cases h⟩⟩
  case round =>
    obtain ⟨k, hk, rfl, hB⟩ := hrel
    have hk01 : k = 0 ∨ k = 1 := by omega
    rcases hk01 with rfl | rfl
    · have F0 := FF.out wr hB.out.1
      have x0 := F0.1 0 _ rfl
      have x1 := F0.1 1 _ rfl
      have x2 := F0.1 2 _ rfl
      have x3 := F0.1 3 _ rfl
      have x4 := F0.1 4 _ rfl
      have x5 := F0.1 5 _ rfl
      have x6 := F0.1 6 _ rfl
      have y0 := F0.2 0 _ rfl
      have y1 := F0.2 1 _ rfl
      have y2 := F0.2 2 _ rfl
      have y3 := F0.2 3 _ rfl
      have y4 := F0.2 4 _ rfl
      have y5 := F0.2 5 _ rfl
      have y6 := F0.2 6 _ rfl
      clear F0
      go_upto_region 6 with (fail)
      obtain ⟨W2, hW2⟩ : ∃ W2, W2 = wr.alloc (Obj.cells #[.int .u32 (acl : Int), .int .u32 (asq : Int), .int .u8 (akd : Int), .slice A L c, .string old, .string new, .int .i64 n] 26) := ⟨_, rfl⟩
      rw [← hW2]
      obtain ⟨hB2, k2⟩ := boxed hW2
      obtain ⟨s, hs⟩ : ∃ s, s = wr.heap.size := ⟨_, rfl⟩
      rw [← hs] at k2 ⊢
      have K2 := Lib.hid k2
      have BW2 := Lib.hid (hB.out.1.trans (Below.mono hB2 hB.out.1.size))
      clear hW2 hB2 k2 hs x0 x1 x2 x3 x4 x5 x6 y0 y1 y2 y3 y4 y5 y6
      have F0 := FF.out W2 BW2.out
      have y0 := F0.2 0 _ rfl
      have y1 := F0.2 1 _ rfl
      have y2 := F0.2 2 _ rfl
      have y3 := F0.2 3 _ rfl
      have y4 := F0.2 4 _ rfl
      have y5 := F0.2 5 _ rfl
      have y6 := F0.2 6 _ rfl
      clear F0
      go_upto_region 7 with (fail)
      obtain ⟨W3, hW3⟩ : ∃ W3, W3 = W2.alloc (Obj.cells #[.int .u32 (bcl : Int), .int .u32 (bsq : Int), .int .u8 (bkd : Int), .slice A' L' c', .string old', .string new', .int .i64 n'] 26) := ⟨_, rfl⟩
      rw [← hW3]
      obtain ⟨hB3, k3⟩ := boxed hW3
      obtain ⟨s3, hs3⟩ : ∃ s, s = W2.heap.size := ⟨_, rfl⟩
      rw [← hs3] at k3 ⊢
      have k23 := (hB3.block s (Array.getElem?_eq_some_iff.1 K2.out).1).trans K2.out
      have BW3 := Lib.hid (BW2.out.trans (Below.mono hB3 BW2.out.size))
      clear hW3 hB3 hs3 y0 y1 y2 y3 y4 y5 y6
      have x0 := blk_cell k23 0
      have x1 := blk_cell k23 1
      have x2 := blk_cell k23 2
      have x3 := blk_cell k23 3
      have x4 := blk_cell k23 4
      have x5 := blk_cell k23 5
      have x6 := blk_cell k23 6
      have y0 := blk_cell k3 0
      have y1 := blk_cell k3 1
      have y2 := blk_cell k3 2
      have y3 := blk_cell k3 3
      have y4 := blk_cell k3 4
      have y5 := blk_cell k3 5
      have y6 := blk_cell k3 6
      simp at x0 x1 x2 x3 x4 x5 x6 y0 y1 y2 y3 y4 y5 y6
      clear k3 k23 K2
      go_wp2_with fail
      refine (HQ.out W3 BW3.out).mono ?_
      rintro e W4 ⟨rfl, hb4⟩
      have BW4 := Lib.hid (BW3.out.trans (Below.mono hb4 BW3.out.size))
      clear hb4 x0 x1 x2 x3 x4 x5 x6 y0 y1 y2 y3 y4 y5 y6
      cases r
      · go_wp2
        go_ret
        exact ⟨rfl, BW4.out⟩
      · go_wp2
        exact ⟨⟨1, by omega, by congr 1, Lib.hid ⟨BW4.out, fun _ => by first | rfl | trivial⟩⟩, by simp only [intOf]; omega⟩
    · have hr := hB.out.2 rfl
      subst hr
      go_wp2
      go_ret
      exact ⟨rfl, hB.out.1⟩
end Go.Proofs.YtfaplmpenlbajaaDoor

-- CqMm
namespace Go.Proofs.YtfaplmpenlbajaaDoor
open Go.RowKit

set_option maxRecDepth 100000 in
set_option maxHeartbeats 4000000 in
theorem Same_any (a b : CmdV) (w : World) (ha : a.ok w) (hb : b.ok w) : Calls Tryd.prog 14 #[a.val, b.val] w fun e W' => e = .returned (.bool (a.same b)) ∧ Below w.heap.size w W' := by
  have HQ : Hid (∀ W (p q : Nat), Below w.heap.size w W → W.heap[p]? = some (.cells a.cells 26 (0, 0)) → W.heap[q]? = some (.cells b.cells 26 (0, 0)) → Calls Tryd.prog 34 #[.slice (some ⟨p, 0, none⟩) 1 1, .slice (some ⟨q, 0, none⟩) 1 1, .func (.func 32) #[] #[]] W fun e W' => e = .returned (.bool (a.same b)) ∧ Below W.heap.size W W') := Lib.hid (fun W p q h hp hq => equalFunc_one p q a b W (ha.below h) (hb.below h) hp hq)
  obtain ⟨r, hr⟩ : ∃ r, r = a.same b := ⟨_, rfl⟩
  rw [← hr] at HQ ⊢
  obtain ⟨acl, asq, akd, A, L, c, ks, old, new, n⟩ := a
  obtain ⟨bcl, bsq, bkd, A', L', c', ks', old', new', n'⟩ := b
  simp only [CmdV.val, CmdV.cells] at HQ ⊢
  clear ha hb hr
  go_enter Tryd.func14, Tryd.ntmps14
  go_upto_region 1 with (fail)
  obtain ⟨W2, hW2⟩ : ∃ W2, W2 = ((w.alloc (Obj.cells #[.int .u32 (acl : Int), .int .u32 (asq : Int), .int .u8 (akd : Int), .slice A L c, .string old, .string new, .int .i64 n] 26)).alloc (Obj.cells #[.int .u32 (bcl : Int), .int .u32 (bsq : Int), .int .u8 (bkd : Int), .slice A' L' c', .string old', .string new', .int .i64 n'] 26)) := ⟨_, rfl⟩
  rw [← hW2]
  obtain ⟨p, hp⟩ : ∃ p, p = w.heap.size := ⟨_, rfl⟩
  have hB : Below w.heap.size w W2 := by rw [hW2]; exact ((Below.refl _ w).alloc (Nat.le_refl _) _).alloc (by simp) _
  have k1 : W2.heap[p]? = some (.cells #[.int .u32 (acl : Int), .int .u32 (asq : Int), .int .u8 (akd : Int), .slice A L c, .string old, .string new, .int .i64 n] 26 (0, 0)) := by
    rw [hW2, hp, Below.heap_alloc _ _ _ (by simp)]; exact World.alloc_heap_new w _
  have k2 : W2.heap[p + 1]? = some (.cells #[.int .u32 (bcl : Int), .int .u32 (bsq : Int), .int .u8 (bkd : Int), .slice A' L' c', .string old', .string new', .int .i64 n'] 26 (0, 0)) := by
    have := World.alloc_heap_new (w.alloc (Obj.cells #[.int .u32 (acl : Int), .int .u32 (asq : Int), .int .u8 (akd : Int), .slice A L c, .string old, .string new, .int .i64 n] 26)) (Obj.cells #[.int .u32 (bcl : Int), .int .u32 (bsq : Int), .int .u8 (bkd : Int), .slice A' L' c', .string old', .string new', .int .i64 n'] 26)
    rw [hW2, hp]; simpa using this
  rw [← hp]
  have x0 := blk_cell k1 0
  have x1 := blk_cell k1 1
  have x2 := blk_cell k1 2
  have x3 := blk_cell k1 3
  have x4 := blk_cell k1 4
  have x5 := blk_cell k1 5
  have x6 := blk_cell k1 6
  have y0 := blk_cell k2 0
  have y1 := blk_cell k2 1
  have y2 := blk_cell k2 2
  have y3 := blk_cell k2 3
  have y4 := blk_cell k2 4
  have y5 := blk_cell k2 5
  have y6 := blk_cell k2 6
  simp at x0 x1 x2 x3 x4 x5 x6 y0 y1 y2 y3 y4 y5 y6
  have lt2 := (Array.getElem?_eq_some_iff.1 k2).1
  obtain ⟨O1, hO1⟩ : ∃ O, O = Obj.cells #[.int .u32 (acl : Int), .int .u32 (asq : Int), .int .u8 (akd : Int), .slice A L c, .string old, .string new, .int .i64 n] 26 := ⟨_, rfl⟩
  have z0 := (World.cell?_alloc_lt W2 O1 ⟨p + 1, 0, none⟩ lt2).trans y0
  have z1 := (World.cell?_alloc_lt W2 O1 ⟨p + 1, 1, none⟩ lt2).trans y1
  have z2 := (World.cell?_alloc_lt W2 O1 ⟨p + 1, 2, none⟩ lt2).trans y2
  have z3 := (World.cell?_alloc_lt W2 O1 ⟨p + 1, 3, none⟩ lt2).trans y3
  have z4 := (World.cell?_alloc_lt W2 O1 ⟨p + 1, 4, none⟩ lt2).trans y4
  have z5 := (World.cell?_alloc_lt W2 O1 ⟨p + 1, 5, none⟩ lt2).trans y5
  have z6 := (World.cell?_alloc_lt W2 O1 ⟨p + 1, 6, none⟩ lt2).trans y6
  rw [hO1] at z0 z1 z2 z3 z4 z5 z6
  have BW := Lib.hid hB
  have HP := Lib.hid hp
  clear hW2 hp hB k1 k2 lt2 hO1 y0 y1 y2 y3 y4 y5 y6
  go_wp2_with fail
  obtain ⟨W3, hW3⟩ : ∃ W3, W3 = W2.alloc (Obj.cells #[.int .u32 (acl : Int), .int .u32 (asq : Int), .int .u8 (akd : Int), .slice A L c, .string old, .string new, .int .i64 n] 26) := ⟨_, rfl⟩
  rw [← hW3]
  obtain ⟨hB3, k3⟩ := boxed hW3
  obtain ⟨W4, hW4⟩ : ∃ W4, W4 = W3.alloc (Obj.cells #[.int .u32 (bcl : Int), .int .u32 (bsq : Int), .int .u8 (bkd : Int), .slice A' L' c', .string old', .string new', .int .i64 n'] 26) := ⟨_, rfl⟩
  rw [← hW4]
  obtain ⟨hB4, k4⟩ := boxed hW4
  have k34 := (hB4.block _ (Array.getElem?_eq_some_iff.1 k3).1).trans k3
  have h3 := BW.out.trans (Below.mono hB3 BW.out.size)
  have h4 := h3.trans (Below.mono hB4 h3.size)
  have e3 : W3.heap.size = W2.heap.size + 1 := by rw [hW3]; simp
  rw [e3] at k4
  refine (HQ.out W4 W2.heap.size (W2.heap.size + 1) h4 k34 k4).mono ?_
  rintro e W5 ⟨rfl, hb5⟩
  have B5 := Lib.hid (h4.trans (Below.mono hb5 h4.size))
  clear hb5 h4 h3 k34 k4 k3 hB3 hB4 hW3 hW4 e3 x0 x1 x2 x3 x4 x5 x6 z0 z1 z2 z3 z4 z5 z6
  go_wp2
  go_ret
  exact ⟨rfl, B5.out⟩
end Go.Proofs.YtfaplmpenlbajaaDoor
