/- The program's sizesOf, empty: a group for each wave. -/
import Derived.Test.YtooaobadnainkaaKtF
import Derived.Test.YtooaobadnainkaaKsKg
import Derived.Laws.OwnMore
import Derived.Laws.MakeOwn
namespace Go.Proofs.Ytooaobadnainkaa
open Go.RowKit

/-- How many waves the first commands have. -/
def topN (l : List CM) (n : Nat) : Nat := (topW l n + 1).toNat
theorem topN_num (l : List CM) : topN l l.length = numW l := rfl
theorem topN_zero (l : List CM) : topN l 0 = 0 := by simp [topN, topW]
theorem wave_top {l : List CM} {n : Nat} (h : n < l.length) : waveI l n ≤ topN l n := by
  have h0 := topW_lo l n
  unfold topN
  rcases Nat.eq_zero_or_pos (waveI l n) with e | e
  · omega
  · obtain ⟨k, h1, h2⟩ := wave_prev h e
    have := topW_ge l n k h1
    omega
theorem topN_succ (l : List CM) (n : Nat) : topN l (n + 1) = max (topN l n) (waveI l n + 1) := by
  have h0 := topW_lo l n
  unfold topN
  simp only [topW]
  omega
theorem topN_le (l : List CM) : ∀ n, n ≤ l.length → topN l n ≤ n
  | 0, _ => by rw [topN_zero]; exact Nat.le_refl _
  | n + 1, h => by
    have h1 := topN_le l n (by omega)
    have h2 := waveI_le (l := l) n (by omega)
    rw [topN_succ]
    omega
section
variable {base : Nat} {W : World} {v : Value} {l : List Nat}
theorem OwnI.blk (h : OwnI base W v l) (hl : 0 < l.length) : ∃ g c, v = .slice (some ⟨g, 0, none⟩) l.length c ∧ base ≤ g ∧ g < W.heap.size ∧ l.length ≤ c ∧ (∀ j (hj : j < l.length), W.cell? ⟨g, j, none⟩ = some (.int .i64 (l[j] : Int))) ∧ ∀ j, W.frozen? ⟨g, j, none⟩ = false := by
  rcases h.2 with ⟨_, h0⟩ | ⟨g, cap, cur, e, hb, hg, hn, _⟩
  · omega
  · subst e
    refine ⟨g, cap, rfl, hb, (Array.getElem?_eq_some_iff.1 hg).1, hn, fun j hj => ?_, fun j => World.ownsRow.frozenAt h j⟩
    have c0 := World.ownsRow.cells h (g := g) rfl j (.int .i64 (l[j] : Int)) (by simp [cellsI, hj])
    rwa [addr_add, Nat.zero_add] at c0
theorem OwnI.store {g n c : Nat} (h : OwnI base W (.slice (some ⟨g, 0, none⟩) n c) l) (hn : n = l.length) (j x : Nat) {z : Int} (hz : z = (x : Int)) : OwnI base (W.setCell ⟨g, j, none⟩ (.int .i64 z)) (.slice (some ⟨g, 0, none⟩) n c) (l.set j x) ∧ W.grownBy (W.setCell ⟨g, j, none⟩ (.int .i64 z)) (some g) := by
  subst hz hn
  have := World.ownsRow.stored h j (.int .i64 (x : Int))
  refine ⟨?_, this.2⟩
  unfold OwnI
  rw [List.length_set, show cellsI (l.set j x) = (cellsI l).set j (.int .i64 (x : Int)) by simp [cellsI, List.map_set]]
  exact this.1
end
theorem set_all {l : List Nat} {j x n : Nat} (h : ∀ s ∈ l, s ≤ n) (hx : x ≤ n) : ∀ s ∈ l.set j x, s ≤ n := fun s hs => by
  rcases List.mem_or_eq_of_mem_set hs with h1 | h1
  · exact h s h1
  · omega
theorem snoc_at {ss : List Nat} {v : Nat} (h : ss.length = v) (h2 : v < (ss ++ [0]).length) : (ss ++ [0])[v] = 0 := by
  subst h
  simp
set_option maxRecDepth 100000 in
set_option maxHeartbeats 8000000 in
theorem sizes_any (A : Option Addr) (L c : Nat) (ms : List CM) (w : World) (hL : L = ms.length) (hm : L ≤ 1000) (hA : HasI w A (wavesI ms)) :
    Calls Try.prog 32 #[.slice A L c] w fun e W' => ∃ x, e = .returned x ∧ ∃ ss : List Nat, ss.length = numW ms ∧ (∀ s ∈ ss, s ≤ 1000) ∧ OwnI w.heap.size W' x ss ∧ Below w.heap.size w W' := by
  have HA := Lib.hid hA
  have HL := Lib.hid (And.intro hL hm)
  have hLi : (L : Int) ≤ 1000 := by omega
  clear hL hm hA
  go_enter Try.func32, Try.ntmps32
  go_wp2
  go_loopw [3, 8] (fun s3 i wr => ∃ (n t : Nat) (A3 : Option Addr) (c3 : Nat) (ss : List Nat), n ≤ L ∧ i = .int .i64 (n : Int) ∧ s3 = .slice A3 t c3 ∧ t = topN ms n ∧ Hid (ss.length = t ∧ (∀ s ∈ ss, s ≤ n) ∧ OwnI w.heap.size wr (.slice A3 t c3) ss ∧ Below w.heap.size w wr)) (fun _ i _ => L - (intOf i).toNat)
  case atStart => exact ⟨0, 0, none, 0, [], Nat.zero_le _, rfl, rfl, (topN_zero ms).symm, Lib.hid ⟨rfl, by simp, OwnI.nil _ _, Below.refl _ _⟩⟩
  case round =>
    obtain ⟨n, t, A3, c3, ss, hn, rfl, rfl, ht, HO⟩ := hrel
    by_cases hlt : n < L
    · have hni : (n : Int) < L := by omega
      have hnm : n < ms.length := by have := HL.out.1; omega
      have hnw : n < (wavesI ms).length := by rw [wavesI_len]; exact hnm
      obtain ⟨bb, o, e1, l1, f1⟩ := HA.out (by intro e; rw [e] at hnw; simp at hnw)
      subst e1
      have g1 := (HO.out.2.2.2.cell (p := ⟨bb, o + n, none⟩) l1).trans (f1 n hnw)
      rw [wavesI_at hnw] at g1
      have hvt := wave_top hnm
      have hts := topN_succ ms n
      have htl := topN_le ms n (by omega)
      rw [← ht] at hvt hts htl
      have hvl := waveI_le (l := ms) n hnm
      obtain ⟨v, hv⟩ : ∃ v, v = waveI ms n := ⟨_, rfl⟩
      rw [← hv] at g1 hvt hts hvl
      have HT := Lib.hid (And.intro ht (And.intro hts htl))
      have htc : (t : Int) ≤ 1000 := by omega
      clear f1 hnw hv hts htl hnm ht
      by_cases he : v = t
      · subst he
        have hvi : (v : Int) < 9223372036854775807 := by omega
        clear hvt hvl
        go_upto_region 6 with (fail)
        have hss : (ss ++ [0]).length = v + 1 := by rw [List.length_append, HO.out.1]; rfl
        have hz0 : ∀ h2, (ss ++ [0])[v]'h2 = 0 := fun h2 => snoc_at HO.out.1 h2
        have HSS := Lib.hid (And.intro hss hz0)
        have c1 := cell_one_new wr (.int .i64 ((0 : Nat) : Int)) 3 0 _ rfl
        have C1 := Lib.hid c1
        clear hss hz0 c1
        go_wp2_with (at_builtin; refine wpList_append_I rfl (.tmp 16) (.tmp 17) rfl w.heap.size (.slice A3 v c3) ss rfl (HO.out.2.2.1.below ((Below.refl _ wr).alloc (Nat.le_refl _) _)) wr.heap.size 1 0 rfl C1.out (by have := HO.out.1; have := HT.out.2.2; have := HL.out.2; omega) (by have := HO.out.2.2.2.size; simp; omega) ?_; intro v4 W4 ho4 hg4; obtain ⟨g4, c4, rfl, hb4, hl4, hc4, k4, z4⟩ := ho4.blk (by simp); have x4 := k4 v (by have := HSS.out.1; omega); have y4 := z4 v; rw [HSS.out.2 _] at x4; rw [HSS.out.1] at ho4 ⊢; have H4 := Lib.hid (And.intro ho4 (And.intro hg4 hb4)); clear ho4 hg4 hb4 hl4 hc4 k4 z4)
        obtain ⟨k1, k2⟩ := OwnI.store H4.out.1 HSS.out.1.symm v 1 (z := 1) rfl
        have hb4 : Below w.heap.size w W4 := (HO.out.2.2.2.alloc HO.out.2.2.2.size _).grown H4.out.2.1 (Nat.le_trans HO.out.2.2.2.size (by simp)) HO.out.2.2.1.ge
        exact ⟨⟨n + 1, v + 1, some ⟨g4, 0, none⟩, c4, (ss ++ [0]).set v 1, by omega, by congr 1, rfl, by rw [HT.out.2.1]; omega, Lib.hid ⟨by rw [List.length_set, HSS.out.1], set_all (fun s hs => by
          rcases List.mem_append.1 hs with h | h
          · have := HO.out.2.1 s h; omega
          · have : s = 0 := by simpa using h
            omega) (by omega), k1, hb4.setCell (p := ⟨g4, v, none⟩) H4.out.2.2 _⟩⟩, by simp only [intOf]; omega⟩
      · have hei : ¬ (v : Int) = t := by omega
        have hvi : (v : Int) < t := by omega
        have hvl2 : v < ss.length := by have := HO.out.1; omega
        obtain ⟨g4, c4, e4, hb4, hl4, hc4, k4, z4⟩ := HO.out.2.2.1.blk (by omega)
        obtain ⟨rfl, _, rfl⟩ : A3 = some ⟨g4, 0, none⟩ ∧ t = ss.length ∧ c3 = c4 := by injection e4 with a b c; exact ⟨a, b, c⟩
        have x4 := k4 v hvl2
        have y4 := z4 v
        have hs := HO.out.2.1 ss[v] (List.getElem_mem hvl2)
        obtain ⟨s, hsv⟩ : ∃ s, s = ss[v] := ⟨_, rfl⟩
        rw [← hsv] at x4 hs
        have hsi : (s : Int) ≤ 1000 := by have := HL.out.2; omega
        have HG := Lib.hid (And.intro hb4 (And.intro hs hlt))
        clear hb4 hl4 hc4 k4 z4 hsv hvl2 e4 hvt hvl hs
        go_wp2
        obtain ⟨k1, k2⟩ := OwnI.store HO.out.2.2.1 HO.out.1.symm v (s + 1) (z := (s : Int) + 1) (by omega)
        exact ⟨⟨n + 1, t, some ⟨g4, 0, none⟩, c3, ss.set v (s + 1), by omega, by congr 1, rfl, by rw [HT.out.2.1]; omega, Lib.hid ⟨by rw [List.length_set]; exact HO.out.1, set_all (fun s hs => by have := HO.out.2.1 s hs; omega) (by have := HG.out.2.1; omega), k1, HO.out.2.2.2.setCell (p := ⟨g4, v, none⟩) HG.out.1 _⟩⟩, by simp only [intOf]; omega⟩
    · have hni : ¬ (n : Int) < L := by omega
      obtain rfl : n = L := by omega
      have HT := Lib.hid ht
      clear ht hlt
      go_wp2
      go_ret
      exact ⟨_, rfl, ss, by rw [HO.out.1, HT.out, HL.out.1, topN_num], fun s hs => by have := HO.out.2.1 s hs; have := HL.out.2; omega, by have h := HO.out.2.2.1; exact h, HO.out.2.2.2⟩
end Go.Proofs.Ytooaobadnainkaa
