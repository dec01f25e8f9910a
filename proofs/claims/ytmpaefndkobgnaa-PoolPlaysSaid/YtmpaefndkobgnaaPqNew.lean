/- The contracts of the program's New. -/
import Derived.Test.YtmpaefndkobgnaaPqNewR
namespace Go.Proofs.Ytmpaefndkobgnaa
open Go.RowKit

theorem madeCells_get (z : Array Value) (n i : Nat) (h : i < n) : (madeCells z n)[i]? = some (z[i % z.size]!) := by
  simp [madeCells, h]
/-- A pool under way: so many buffers are cut, so many indices are on the stack. -/
structure NW (w : World) (R gU gB gF n sz kU kF : Nat) (W : World) : Prop where
  blk : W.heap[R]? = some (.cells #[.slice (some ⟨gU, 0, none⟩) n n, .slice (some ⟨gF, 0, none⟩) n n] 57 (0, 0))
  hU : ∃ cur, W.heap[gU]? = some (.cells cur 59 (0, 0)) ∧ ∀ i, i < n → cur[i * 3]? = some (if i < kU then .slice (some ⟨gB, i * sz, none⟩) 0 sz else .slice none 0 0) ∧ cur[i * 3 + 1]? = some (.int .u32 0) ∧ cur[i * 3 + 2]? = some (.bool false)
  hF : ∃ cur, W.heap[gF]? = some (.cells cur 3 (0, 0)) ∧ cur.size = n ∧ ∀ i, i < n → cur[i]? = some (.int .i64 (if i < kF then ((n - 1 - i : Nat) : Int) else 0))
  hB : ∃ cur, W.heap[gB]? = some (.cells cur 5 (0, 0)) ∧ cur.size = n * sz
  base : ∀ k, FL R gU gB gF k → w.heap.size ≤ k
  below : Below w.heap.size w W
section
variable {w W : World} {R gU gB gF n sz kU kF : Nat}
theorem NW.ne (h : NW w R gU gB gF n sz kU kF W) : gU ≠ R ∧ gB ≠ R ∧ gF ≠ R ∧ gU ≠ gB ∧ gU ≠ gF ∧ gB ≠ gF := by
  obtain ⟨c1, h1, _⟩ := h.hU
  obtain ⟨c2, h2, _⟩ := h.hB
  obtain ⟨c3, h3, _⟩ := h.hF
  exact ⟨blk_ne h1 h.blk (by decide), blk_ne h2 h.blk (by decide), blk_ne h3 h.blk (by decide), blk_ne h1 h2 (by decide), blk_ne h1 h3 (by decide), blk_ne h2 h3 (by decide)⟩
theorem NW.drew (h : NW w R gU gB gF n sz kU kF W) : NW w R gU gB gF n sz kU kF W.drew := ⟨h.blk, h.hU, h.hF, h.hB, h.base, h.below.drew⟩
theorem NW.stepU (h : NW w R gU gB gF n sz kU kF W) (hk : kU < n) : NW w R gU gB gF n sz (kU + 1) kF (W.setCell ⟨gU, kU * 3, none⟩ (.slice (some ⟨gB, kU * sz, none⟩) 0 sz)) := by
  obtain ⟨n1, n2, n3, n4, n5, n6⟩ := h.ne
  obtain ⟨c1, h1, hc⟩ := h.hU
  obtain ⟨c2, h2, h2'⟩ := h.hB
  obtain ⟨c3, h3, h3'⟩ := h.hF
  refine ⟨blk_keep h.blk (Ne.symm n1), ⟨_, blk_set h1 _ _, fun i hi => ?_⟩, ⟨c3, blk_keep h3 (Ne.symm n5), h3'⟩, ⟨c2, blk_keep h2 (Ne.symm n4), h2'⟩, h.base, h.below.setCell (h.base gU (.inr (.inl rfl))) _⟩
  obtain ⟨e1, e2, e3⟩ := hc i hi
  have k1 := set_get (hc kU hk).1
  refine ⟨?_, ?_, ?_⟩
  · rw [k1]
    by_cases hii : i = kU
    · subst hii; rw [if_pos rfl, if_pos (by omega)]
    · rw [if_neg (by omega), e1]
      by_cases hlt : i < kU
      · rw [if_pos hlt, if_pos (by omega)]
      · rw [if_neg hlt, if_neg (by omega)]
  · rw [k1, if_neg (by omega)]; exact e2
  · rw [k1, if_neg (by omega)]; exact e3
theorem NW.stepF (h : NW w R gU gB gF n sz kU kF W) (hk : kF < n) : NW w R gU gB gF n sz kU (kF + 1) (W.setCell ⟨gF, kF, none⟩ (.int .i64 ((n - 1 - kF : Nat) : Int))) := by
  obtain ⟨n1, n2, n3, n4, n5, n6⟩ := h.ne
  obtain ⟨c1, h1, h1'⟩ := h.hU
  obtain ⟨c2, h2, h2'⟩ := h.hB
  obtain ⟨c3, h3, h3s, hc⟩ := h.hF
  refine ⟨blk_keep h.blk (Ne.symm n3), ⟨c1, blk_keep h1 n5, h1'⟩, ⟨_, blk_set h3 _ _, by simpa using h3s, fun i hi => ?_⟩, ⟨c2, blk_keep h2 n6, h2'⟩, h.base, h.below.setCell (h.base gF (.inr (.inr (.inr rfl)))) _⟩
  rw [set_get (hc kF hk)]
  by_cases hii : i = kF
  · subst hii; rw [if_pos rfl, if_pos (by omega)]
  · rw [if_neg hii, hc i hi]
    by_cases hlt : i < kF
    · rw [if_pos hlt, if_pos (by omega)]
    · rw [if_neg hlt, if_neg (by omega)]
theorem NW.done (h : NW w R gU gB gF n sz n n W) (hn0 : 0 < n) (hn : n ≤ 4096) (hs0 : 0 < sz) (hsz : sz ≤ 65536) : LQ W R gU n gB gF n (QS.new n sz) := by
  obtain ⟨c1, h1, hc⟩ := h.hU
  obtain ⟨c2, h2, h2s⟩ := h.hB
  obtain ⟨c3, h3, h3s, hf⟩ := h.hF
  have eB : ∀ i, (QS.new n sz).B.getD i [] = [] := fun i => by
    show (List.replicate n []).getD i [] = []
    by_cases hi : i < n <;> simp [List.getD, List.getElem?_replicate, hi]
  have eN : (QS.new n sz).N.length = n := by simp [QS.new]
  refine ⟨?_, ⟨c1, h1, fun i hi => ?_⟩, ⟨c2, h2, h2s, fun i hi j hj => ?_⟩, ?_, by simp [QS.new], by simp [QS.new], by simp [QS.new], fun i hi => ?_, hn, hs0, hsz, by simp [QS.new], hn0, fun i hi => by simpa [QS.new] using hi, fun g hg => by simp [QS.new] at hg; omega⟩
  · rw [eN]; exact h.blk
  · obtain ⟨e1, e2, e3⟩ := hc i hi
    have hi' : i < n := hi
    rw [if_pos hi'] at e1
    rw [eB]
    refine ⟨e1, ?_, ?_⟩
    · rw [e2]; simp [QS.new, List.getD, List.getElem?_replicate, hi', gV]
    · rw [e3]; simp [QS.new, List.getD, List.getElem?_replicate, hi', bV]
  · rw [eB] at hj; simp at hj
  · rw [eN]
    refine ⟨by simp [QS.new], .inr ⟨gF, n, c3, rfl, Nat.zero_le _, h3, Nat.le_refl _, by simp only [maxLen]; omega, by omega, ?_⟩⟩
    apply List.ext_getElem?
    intro i
    by_cases hi : i < n
    · rw [Nat.mul_one, List.getElem?_take, if_pos hi, Array.getElem?_toList, hf i hi, if_pos hi]
      simp [QS.new, hi, iV]
    · rw [List.getElem?_eq_none (by simp; omega), List.getElem?_eq_none (by simp [QS.new]; omega)]
  · rw [eB]; exact Nat.zero_le _
end

set_option maxHeartbeats 2000000 in
theorem l_New_bad (n sz : Int) (hn : InI n) (hsz : InI sz) (hbad : ¬ (1 ≤ n ∧ n ≤ 4096 ∧ 1 ≤ sz ∧ sz ≤ 65536)) (w : World) : Calls Try.prog 5 #[.int .i64 n, .int .i64 sz] w fun e w' => e = .returned (.tuple #[.pointer none, .int .i64 1]) ∧ Below w.heap.size w w' := by
  have hcs : (n < 1) ∨ (¬ n < 1 ∧ 4096 < n) ∨ (¬ n < 1 ∧ ¬ 4096 < n ∧ sz < 1) ∨ (¬ n < 1 ∧ ¬ 4096 < n ∧ ¬ sz < 1 ∧ 65536 < sz) := by omega
  clear hbad
  go_enter Try.func5, Try.ntmps5
  rcases hcs with h1 | ⟨h1, h2⟩ | ⟨h1, h2, h3⟩ | ⟨h1, h2, h3, h4⟩
  all_goals go_wp2
  all_goals exact bodyPost_ret (v := .tuple #[.pointer none, .int .i64 1]) (by simp [results, Try.results5, go_sem]) rfl ⟨rfl, Below.refl _ _⟩

theorem mkB1 (w : World) (M : Nat) (hM : M ≤ 268435456) : (Instr.makeSlice 32 (.int .i64 (M : Int)) (.int .i64 (M : Int))).run Try.prog w = .ok (.slice (some ⟨w.heap.size, 0, none⟩) M M) (w.alloc (.cells (madeCells #[.int .u8 0] M) 5)) := by
  obtain ⟨i, hi, hz, hs, hb⟩ := info_parts info5
  have := run_make (P := Try.prog) w 32 5 i _ Try.underlying32 hi hz .i64 .i64 (M : Int) (M : Int) (by omega) (by omega) (by rw [hb]; omega) (by omega)
  rw [hs, Nat.mul_one] at this
  exact this

/-- 'make([]byte, n)' of up to the greatest pool's bytes, in a plain walk. -/
theorem wpList_makeB {w : World} {ops : Array Oper} {rest : List Oper} {o : Oper} {a : Act} {Q : Exit → Act → World → Prop}
    (hg : o.guard = none) (l c : Operand) (hop : o.op = Op.makeSlice 32 l c) (M : Nat) (hl : a.eval l = .int .i64 (M : Int)) (hc : a.eval c = .int .i64 (M : Int)) (hM : M ≤ 268435456)
    (hK : wpList Try.prog ops Q rest (a.put o.dst (.slice (some ⟨w.heap.size, 0, none⟩) M M)) (w.alloc (.cells (madeCells #[.int .u8 0] M) 5))) :
    wpList Try.prog ops Q (o :: rest) a w := by
  refine wpList_plain hg fun K hK' => ?_
  unfold Oper.wp
  simp [execOp, hop, hl, hc, mkB1 w M hM, Result.andThen]
  exact hK' _ _ hK

set_option maxRecDepth 100000 in
set_option maxHeartbeats 4000000 in
theorem l_New_ok (n sz : Nat) (hn0 : 0 < n) (hn : n ≤ 4096) (hs0 : 0 < sz) (hsz : sz ≤ 65536) (w : World) : Calls Try.prog 5 #[.int .i64 (n : Int), .int .i64 (sz : Int)] w fun e w' =>
    ∃ R gU gB gF, e = .returned (.tuple #[.pointer (some ⟨R, 0, none⟩), .int .i64 0]) ∧ LQ w' R gU n gB gF n (QS.new n sz) ∧ (∀ k, FL R gU gB gF k → w.heap.size ≤ k) ∧ Below w.heap.size w w' := by
  have a1 : ¬ (n : Int) < 1 := by omega
  have a2 : ¬ (4096 : Int) < n := by omega
  have a3 : ¬ (sz : Int) < 1 := by omega
  have a4 : ¬ (65536 : Int) < sz := by omega
  obtain ⟨M, hM⟩ : ∃ M, M = n * sz := ⟨_, rfl⟩
  have hMl : M ≤ 268435456 := by
    rw [hM]
    calc n * sz ≤ 4096 * 65536 := Nat.mul_le_mul hn hsz
      _ = 268435456 := rfl
  have hMi : (n : Int) * (sz : Int) = (M : Int) := by rw [hM, Int.natCast_mul]
  have HM := Lib.hid hM
  clear hM
  go_enter Try.func5, Try.ntmps5
  go_upto_region 3 with (fail)
  refine new_region w.heap.size n hn _ _ _ rfl rfl (Nat.le_refl _) ?_
  intro v25 v27 v28 v29 v6 W1 _ _ _ _ h6 hg1
  obtain ⟨R, va, vb, rfl, hblk, hbR, ⟨gU, rfl, hU, hbU⟩, ⟨gF, rfl, hF, hbF⟩⟩ := h6
  simp only [puts, List.foldl_cons, List.foldl_nil, Act.put, List.setIfInBounds_toArray, List.set_cons_succ, List.set_cons_zero]
  have HB := Lib.hid (show Below w.heap.size w W1 from hg1)
  have HBK := Lib.hid (And.intro hblk (And.intro hU hF))
  have HBB := Lib.hid (And.intro hbR (And.intro hbU hbF))
  clear hg1 hblk hU hF hbR hbU hbF
  go_wp2_with (at_make; refine wpList_makeB rfl _ _ rfl M rfl rfl hMl ?_)
  have hnw0 : NW w R gU W1.heap.size gF n sz 0 0 (W1.alloc (.cells (madeCells #[.int .u8 0] M) 5)) := by
    obtain ⟨h1, h2, h3⟩ := HBK.out
    have keep : ∀ {g : Nat} {o : Obj}, W1.heap[g]? = some o → (W1.alloc (.cells (madeCells #[.int .u8 0] M) 5)).heap[g]? = some o := fun h => (Below.heap_alloc _ _ _ (Array.getElem?_eq_some_iff.1 h).1).trans h
    refine ⟨keep h1, ⟨_, keep h2, fun i hi => ?_⟩, ⟨_, keep h3, by simp [intC, size_madeCells], fun i hi => ?_⟩, ⟨_, World.alloc_heap_new _ _, by rw [size_madeCells]; exact HM.out⟩, ?_, HB.out.alloc HB.out.size _⟩
    · refine ⟨?_, ?_, ?_⟩
      · rw [bufC, madeCells_get _ _ _ (by omega)]; simp
      · rw [bufC, madeCells_get _ _ _ (by omega)]; simp [Nat.mul_add_mod_self_right]
      · rw [bufC, madeCells_get _ _ _ (by omega)]; simp [Nat.mul_add_mod_self_right]
    · rw [intC, madeCells_get _ _ _ hi]; simp [Nat.mod_one]
    · obtain ⟨b1, b2, b3⟩ := HBB.out
      rintro k (rfl | rfl | rfl | rfl)
      · exact b1
      · exact b2
      · exact HB.out.size
      · exact b3
  have HNW0 := Lib.hid hnw0
  obtain ⟨gB, hgB⟩ : ∃ g, g = W1.heap.size := ⟨_, rfl⟩
  rw [← hgB] at HNW0 ⊢
  clear hnw0 hgB HBK HBB HB
  go_loopw [35] (fun i wr => ∃ k : Nat, k ≤ n ∧ i = .int .i64 (k : Int) ∧ Hid (NW w R gU gB gF n sz k k wr)) (fun i _ => n - (intOf i).toNat)
  case atStart => exact ⟨0, Nat.zero_le _, rfl, HNW0⟩
  case round =>
    obtain ⟨k, hk, rfl, hnw⟩ := hrel
    by_cases hlt : k < n
    · have hki : (k : Int) < n := by omega
      obtain ⟨K, hK⟩ : ∃ K, K = k * sz := ⟨_, rfl⟩
      have hKi : (k : Int) * (sz : Int) = (K : Int) := by rw [hK, Int.natCast_mul]
      have hKM : K + sz ≤ M := by
        rw [hK, HM.out]
        have h1 : (k + 1) * sz ≤ n * sz := Nat.mul_le_mul_right _ hlt
        rw [Nat.add_mul] at h1
        omega
      have hKMi : (K : Int) + (sz : Int) ≤ (M : Int) := by omega
      have hKM1 : (K : Int) ≤ (M : Int) := by omega
      have hK0 : (0 : Int) ≤ (K : Int) := by omega
      have hKs : (K : Int) ≤ (K : Int) + (sz : Int) := by omega
      obtain ⟨cu, hu, hcu⟩ := hnw.out.hU
      have f0 := blk_cell hnw.out.blk 0
      simp at f0
      have c0 := (blk_cell hu (k * 3)).trans (hcu k hlt).1
      rw [if_neg (Nat.lt_irrefl k)] at c0
      have z0 := blk_frozen hu (k * 3)
      have HK := Lib.hid hK
      clear hK hu hcu
      go_upto_region 9 with (fail)
      go_region
      have hq := (hnw.out.stepU hlt).drew
      rw [← HK.out] at hq
      obtain ⟨W2, hW2⟩ : ∃ W2, W2 = (wr.setCell ⟨gU, k * 3, none⟩ (.slice (some ⟨gB, K, none⟩) 0 sz)).drew := ⟨_, rfl⟩
      rw [← hW2] at hq ⊢
      obtain ⟨cf, hf, hfs, hcf⟩ := hq.hF
      have f1 := blk_cell hq.blk 1
      simp at f1
      have cF := (blk_cell hf k).trans (hcf k hlt)
      rw [if_neg (Nat.lt_irrefl k)] at cF
      have zF := blk_frozen hf k
      obtain ⟨j, hj⟩ : ∃ j, j = n - 1 - k := ⟨_, rfl⟩
      have hji : (n : Int) - 1 - (k : Int) = (j : Int) := by omega
      have hq3 := hq.stepF hlt
      rw [← hj] at hq3
      have HQ3 := Lib.hid hq3
      clear hq3 hq hf hfs hcf hW2 f0 c0 z0 hj
      go_wp2
      exact ⟨⟨k + 1, by omega, by congr 1, HQ3.out⟩, by simp only [intOf]; omega⟩
    · obtain rfl : n = k := by omega
      go_wp2
      exact bodyPost_ret (v := .tuple #[.pointer (some ⟨R, 0, none⟩), .int .i64 0]) (by simp [results, Try.results5, go_sem]) rfl ⟨R, gU, gB, gF, rfl, hnw.out.done hn0 hn hs0 hsz, hnw.out.base, hnw.out.below⟩
end Go.Proofs.Ytmpaefndkobgnaa
