/- The document's own Max. -/
import Derived.Test.YtkeaeahiokgkiaaBlMxR
namespace Go.Proofs.Ytkeaeahiokgkiaa
open Go.RowKit

/-- The rounds of Max: what lies, and the greatest one that was found so far. -/
structure MaxI (w : World) (g q : Nat) (l : List BA) (i : Nat) (W : World) : Prop where
  below : Below w.heap.size w W
  kg : W.heap[g]? = some (.cells #[.int .u64 0, .int .i64 0] 25 (0, 0))
  kq : ∃ m : BA, W.heap[q]? = some (.cells #[.int .u64 (m.n : Int), .int .i64 m.r] 25 (0, 0)) ∧ (m = maxB l ∨ (m = B0 ∧ ∀ x (h : x < l.length), x < i → l[x] ≠ maxB l))
theorem MaxI.grew {w W W' : World} {g q i : Nat} {l : List BA} (h : MaxI w g q l i W) (hb : Below W.heap.size W W') : MaxI w g q l i W' :=
  ⟨h.below.trans (Below.mono hb h.below.size), (hb.block g (Array.getElem?_eq_some_iff.1 h.kg).1).trans h.kg, by
    obtain ⟨m, h1, h2⟩ := h.kq
    exact ⟨m, (hb.block q (Array.getElem?_eq_some_iff.1 h1).1).trans h1, h2⟩⟩
set_option maxRecDepth 100000 in
set_option maxHeartbeats 4000000 in
theorem refMax_any (A : Option Addr) (L c : Nat) (l : List BA) (w : World) (hL : L = l.length) (hLm : L ≤ 1000) (hA : HasBA w A l) :
    Calls Try.prog 14 #[.slice A L c] w fun e W' => e = .returned (.agg #[.int .u64 ((maxB l).n : Int), .int .i64 (maxB l).r]) ∧ Below w.heap.size w W' := by
  have HL := Lib.hid hL
  have HA := Lib.hid hA
  have hLi : (L : Int) ≤ 1000 := by omega
  clear hL hA
  go_enter Try.func14, Try.ntmps14
  go_upto_region 2 with (fail)
  obtain ⟨W0, hW0⟩ : ∃ W0, W0 = w.alloc (.cells #[.int .u64 0, .int .i64 0] 25) := ⟨_, rfl⟩
  rw [← hW0]
  obtain ⟨W1, hW1⟩ : ∃ W1, W1 = W0.alloc (.cells #[.int .u64 0, .int .i64 0] 25) := ⟨_, rfl⟩
  rw [← hW1]
  obtain ⟨b0, k0, s0⟩ := boxBA hW0
  obtain ⟨b1, k1, s1⟩ := boxBA hW1
  have k0' := (b1.block _ (by omega)).trans k0
  obtain ⟨g, hg⟩ : ∃ p, p = w.heap.size := ⟨_, rfl⟩
  rw [s0] at k1
  rw [← hg] at k0' k1 ⊢
  obtain ⟨q, hq⟩ : ∃ p, p = g + 1 := ⟨_, rfl⟩
  rw [← hq] at k1 ⊢
  have S1 : Hid (MaxI w g q l 0 W1) := Lib.hid ⟨b0.trans (Below.mono b1 b0.size), k0', B0, k1, .inr ⟨rfl, fun _ _ h => by omega⟩⟩
  have HQ := Lib.hid (And.intro (show w.heap.size ≤ g by omega) (And.intro (show w.heap.size ≤ q by omega) (show g ≠ q by omega)))
  clear hW0 hW1 b0 b1 k0 k1 k0' s0 s1 hg hq
  go_wp2
  go_loopw [4, 5, 6] (fun v4 v5 v6 wr => ∃ i : Nat, i ≤ L ∧ v4 = .int .i64 (i : Int) ∧ Hid (MaxI w g q l i wr)) (fun i _ _ _ => L - (intOf i).toNat)
  case atStart => exact ⟨0, Nat.zero_le _, rfl, S1⟩
  case round =>
    obtain ⟨i, hi, rfl, HI⟩ := hrel
    by_cases hlt : i < L
    · have hii : (i : Int) < L := by omega
      have hi1 : i < l.length := by have := HL.out; omega
      obtain ⟨bb, o, e1, l1, f1⟩ := HA.out (by rintro rfl; simp at hi1)
      subst e1
      have HF := Lib.hid (And.intro l1 f1)
      obtain ⟨x, hx⟩ : ∃ x, x = l[i] := ⟨_, rfl⟩
      have HX := Lib.hid hx
      clear hx l1 f1
      go_wp2
      go_loopw [5, 6] (fun v5 v6 wr => ∃ (t : Bool) (k : Nat), k ≤ L ∧ v5 = .bool t ∧ v6 = .int .i64 (k : Int) ∧ Hid (t = true ↔ ∀ y (h : y < l.length), y < k → ¬ ltB x l[y]) ∧ Hid (MaxI w g q l i wr)) (fun _ k _ => L - (intOf k).toNat)
      case atStart => exact ⟨true, 0, Nat.zero_le _, rfl, rfl, Lib.hid ⟨fun _ _ _ h => by omega, fun _ => rfl⟩, HI⟩
      case round =>
        obtain ⟨t, k, hk, rfl, rfl, HT, HI⟩ := hrel
        by_cases hkl : k < L
        · have hki : (k : Int) < L := by omega
          have hk1 : k < l.length := by have := HL.out; omega
          obtain ⟨y, hy⟩ : ∃ y, y = l[k] := ⟨_, rfl⟩
          have hb := HI.out.below
          obtain ⟨_, a0, a1⟩ := HF.out.2 i hi1
          obtain ⟨_, c0, c1⟩ := HF.out.2 k hk1
          rw [← HX.out] at a0 a1
          rw [← hy] at c0 c1
          have d0 : wr.cell? ⟨bb, o + i * 2, none⟩ = some (.int .u64 (x.n : Int)) := (hb.cell (p := ⟨bb, _, none⟩) HF.out.1).trans a0
          have d1 : wr.cell? ⟨bb, o + i * 2 + 1, none⟩ = some (.int .i64 x.r) := (hb.cell (p := ⟨bb, _, none⟩) HF.out.1).trans a1
          have e0 : wr.cell? ⟨bb, o + k * 2, none⟩ = some (.int .u64 (y.n : Int)) := (hb.cell (p := ⟨bb, _, none⟩) HF.out.1).trans c0
          have e1 : wr.cell? ⟨bb, o + k * 2 + 1, none⟩ = some (.int .i64 y.r) := (hb.cell (p := ⟨bb, _, none⟩) HF.out.1).trans c1
          have HY := Lib.hid hy
          clear a0 a1 c0 c1
          have hbl : bb < wr.heap.size := Nat.lt_of_lt_of_le HF.out.1 hb.size
          clear hb
          cases t with
          | true =>
            go_upto_region 9 with (fail)
            refine refmax_t bb o L c i k x y _ wr _ rfl rfl rfl rfl rfl hbl hlt hkl d0 d1 e0 e1 ?_
            intro W5 h5
            have H5 := Lib.hid (HI.out.grew h5)
            simp only [puts, List.foldl_cons, List.foldl_nil, Act.put, List.setIfInBounds_toArray, List.set_cons_succ, List.set_cons_zero]
            have HT2 : Hid ((!decide (ltB x y)) = true ↔ ∀ z (h : z < l.length), z < k + 1 → ¬ ltB x l[z]) := Lib.hid ⟨fun h z hz hzk => by
              rcases Nat.lt_or_ge z k with h1 | h1
              · exact HT.out.1 rfl z hz h1
              · obtain rfl : z = k := by omega
                rw [← hy]
                simpa using h, fun h => by
              have := h k hk1 (by omega)
              rw [← hy] at this
              simpa using this⟩
            obtain ⟨t2, ht2⟩ : ∃ t, t = !decide (ltB x y) := ⟨_, rfl⟩
            rw [← ht2] at HT2 ⊢
            clear h5 d0 d1 e0 e1 ht2 hy
            go_wp2
            exact ⟨⟨t2, k + 1, by omega, rfl, by congr 1, HT2, H5⟩, by simp only [intOf]; omega⟩
          | false =>
            go_upto_region 9 with (fail)
            refine refmax_f (some ⟨bb, o, none⟩) L c i k _ wr _ rfl rfl rfl rfl rfl ?_
            intro W5 h5
            have H5 := Lib.hid (HI.out.grew h5)
            simp only [puts, List.foldl_cons, List.foldl_nil, Act.put, List.setIfInBounds_toArray, List.set_cons_succ, List.set_cons_zero]
            have HT2 : Hid (false = true ↔ ∀ z (h : z < l.length), z < k + 1 → ¬ ltB x l[z]) := Lib.hid ⟨(fun h => by cases h), fun h => HT.out.2 fun z hz hzk => h z hz (by omega)⟩
            clear h5 d0 d1 e0 e1 hy
            go_wp2
            exact ⟨⟨false, k + 1, by omega, rfl, by congr 1, HT2, H5⟩, by simp only [intOf]; omega⟩
        · have hki : ¬ (k : Int) < L := by omega
          have hall : t = true ↔ ∀ y ∈ l, ¬ ltB x y := ⟨fun h y hy => by
            obtain ⟨z, hz, rfl⟩ := List.getElem_of_mem hy
            exact HT.out.1 h z hz (by have := HL.out; omega), fun h => HT.out.2 fun z hz _ => h _ (List.getElem_mem hz)⟩
          have hxm : x ∈ l := by rw [HX.out]; exact List.getElem_mem hi1
          obtain ⟨m, kq, hm⟩ := HI.out.kq
          have hb := HI.out.below
          have kg := HI.out.kg
          cases t with
          | true =>
            have hxx : x = maxB l := maxB_of hxm (hall.1 rfl)
            obtain ⟨_, a0, a1⟩ := HF.out.2 i hi1
            rw [← HX.out] at a0 a1
            have d0 : wr.cell? ⟨bb, o + i * 2, none⟩ = some (.int .u64 (x.n : Int)) := (hb.cell (p := ⟨bb, _, none⟩) HF.out.1).trans a0
            have d1 : wr.cell? ⟨bb, o + i * 2 + 1, none⟩ = some (.int .i64 x.r) := (hb.cell (p := ⟨bb, _, none⟩) HF.out.1).trans a1
            have y0 := blk_cell kq 0
            have y1 := blk_cell kq 1
            have u0 := blk_frozen kq 0
            have u1 := blk_frozen kq 1
            simp at y0 y1
            obtain ⟨V, hV⟩ : ∃ V, V = (wr.setCell ⟨q, 0, none⟩ (.int .u64 (x.n : Int))).setCell ⟨q, 1, none⟩ (.int .i64 x.r) := ⟨_, rfl⟩
            obtain ⟨f1, _, _, f4⟩ := finBA hb kq HQ.out.2.1 _ _ V hV
            have kg2 : V.heap[g]? = some (.cells #[.int .u64 0, .int .i64 0] 25 (0, 0)) := by rw [hV]; exact setOther _ _ HQ.out.2.2 kg
            have H5 : Hid (MaxI w g q l (i + 1) V) := Lib.hid ⟨f1, kg2, x, f4, .inl hxx⟩
            clear f1 f4 kg2 hall hxm hm hb kg kq a0 a1 hxx
            go_wp2
            all_goals
              rw [← hV]
              exact ⟨⟨i + 1, by omega, by congr 1, H5⟩, by simp only [intOf]; omega⟩
          | false =>
            have hxx : x ≠ maxB l := fun e => by
              have := hall.2 (fun y hy => by rw [e]; exact maxB_top hy)
              cases this
            have H5 : Hid (MaxI w g q l (i + 1) wr) := Lib.hid ⟨hb, kg, m, kq, by
              rcases hm with h | ⟨h1, h2⟩
              · exact .inl h
              · refine .inr ⟨h1, fun z hz hzi => ?_⟩
                rcases Nat.lt_or_ge z i with h3 | h3
                · exact h2 z hz h3
                · obtain rfl : z = i := by omega
                  rw [← HX.out]; exact hxx⟩
            clear hall hxm hm hb kg kq hxx
            go_wp2
            exact ⟨⟨i + 1, by omega, by congr 1, H5⟩, by simp only [intOf]; omega⟩
    · have hii : ¬ (i : Int) < L := by omega
      obtain ⟨m, kq, hm⟩ := HI.out.kq
      have hmm : m = maxB l := by
        rcases hm with h | ⟨h1, h2⟩
        · exact h
        · by_cases hl : l = []
          · rw [h1, hl]; rfl
          · obtain ⟨z, hz, hz2⟩ := List.getElem_of_mem (maxB_mem hl)
            exact absurd hz2 (h2 z hz (by have := HL.out; omega))
      have kg := HI.out.kg
      have hb := HI.out.below
      rw [hmm] at kq
      have y0 := blk_cell kq 0
      have y1 := blk_cell kq 1
      have z0 := blk_cell kg 0
      have z1 := blk_cell kg 1
      have u0 := blk_frozen kg 0
      have u1 := blk_frozen kg 1
      simp at y0 y1 z0 z1
      obtain ⟨V, hV⟩ : ∃ V, V = (wr.setCell ⟨g, 0, none⟩ (.int .u64 ((maxB l).n : Int))).setCell ⟨g, 1, none⟩ (.int .i64 (maxB l).r) := ⟨_, rfl⟩
      obtain ⟨f1, f2, f3, _⟩ := finBA hb kg HQ.out.1 _ _ V hV
      have HF := Lib.hid f1
      clear f1 kg kq hb hm hmm
      go_wp2
      rw [← hV]
      exact bodyPost_ret (v := .agg #[.int .u64 ((maxB l).n : Int), .int .i64 (maxB l).r]) (by simp [results, Try.results14, go_sem, f2, f3]) rfl ⟨rfl, HF.out⟩
end Go.Proofs.Ytkeaeahiokgkiaa
