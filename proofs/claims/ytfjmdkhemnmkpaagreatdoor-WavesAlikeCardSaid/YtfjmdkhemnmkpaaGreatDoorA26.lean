/- Parts of the proof: KtF, KtG, KtH. -/
import Derived.Test.YtfjmdkhemnmkpaaGreatDoorA25
import Derived.Test.YtfjmdkhemnmkpaaGreatDoorA17
import Derived.Test.YtfjmdkhemnmkpaaGreatDoorA24
import Derived.Test.YtfjmdkhemnmkpaaGreatDoorA12
import Derived.Laws.OwnMore
import Derived.Laws.MakeOwn
namespace Go.Proofs.YtfjmdkhemnmkpaaGreatDoor
open Go.RowKit Go.Maps
theorem PsQ.grown {W W' : World} {R g bk bc B : Nat} {l : List CM} {row : Option Nat} (h : PsQ W R g bk bc l) (hB : R < B ∧ g < B ∧ bk < B ∧ bc < B) (hg : W.grownBy W' row) (hr : ∀ k, row = some k → B ≤ k) : PsQ W' R g bk bc l := by
  obtain ⟨k1, k2, k3, k4⟩ := h.lt
  obtain ⟨n1, a1, h1⟩ := h.keys
  obtain ⟨n2, a2, h2⟩ := h.cls
  have hb : ∀ k, k < W.heap.size → k < B → W'.heap[k]? = W.heap[k]? := fun k hk hkB => hg.block k hk (fun e => by have := hr k e.symm; omega)
  exact ⟨(hb R k1 hB.1).trans h.cell, (hb g k2 hB.2.1).trans h.lim, ⟨n1, a1, h1.keep (hb bk k3 hB.2.2.1)⟩, ⟨n2, a2, h2.keep (hb bc k4 hB.2.2.2)⟩, h.ne⟩
set_option maxRecDepth 100000 in
set_option maxHeartbeats 8000000 in
theorem waves_anyK (A : Option Addr) (L c : Nat) (l : List CmdV) (w : World) (hl : L = l.length) (hL : L ≤ 100) (hA : HasC w A l) (hng : ∀ v ∈ l, ¬ v.great) :
    Calls Tryz.prog 77 #[.slice A L c] w fun e W' => ∃ x, e = .returned x ∧ OwnI w.heap.size W' x (wavesI (l.map (·.m))) ∧ Below w.heap.size w W' := by
  obtain ⟨ms, hms⟩ : ∃ ms, ms = l.map (·.m) := ⟨_, rfl⟩
  rw [← hms]
  have hmsl : ms.length = L := by rw [hms, List.length_map]; exact hl.symm
  have HM := Lib.hid (And.intro hms (And.intro hmsl hl))
  have HA := Lib.hid hA
  have NG := Lib.hid hng
  have hLi : (L : Int) ≤ 100 := by omega
  have HNO := Lib.hid (nothing_any w)
  clear hms hmsl hl hA hng
  go_enter Tryz.func77, Tryz.ntmps77
  go_wp2_with fail
  refine HNO.out.mono ?_
  rintro e W1 ⟨R, g, bk, bc, rfl, hps, hlo, hb1⟩
  obtain ⟨B, hB⟩ : ∃ B, B = W1.heap.size := ⟨_, rfl⟩
  have HB := Lib.hid (show (R < B ∧ g < B ∧ bk < B ∧ bc < B) ∧ w.heap.size ≤ B ∧ (w.heap.size ≤ R ∧ w.heap.size ≤ bk ∧ w.heap.size ≤ bc) from ⟨by rw [hB]; exact hps.lt, by rw [hB]; exact hb1.size, hlo⟩)
  have H1 : Hid (PsQ W1 R g bk bc (ms.take 0) ∧ OwnI B W1 (.slice none 0 0) (wavesI (ms.take 0)) ∧ Below w.heap.size w W1 ∧ B ≤ W1.heap.size) := Lib.hid ⟨by simpa using hps, by simpa [wavesI, wavesM] using OwnI.nil _ _, hb1, by omega⟩
  clear hps hlo hb1 hB
  go_wp2
  go_loopw [3, 10] (fun s3 i wr => ∃ (n : Nat) (A3 : Option Addr) (c3 : Nat), n ≤ L ∧ i = .int .i64 (n : Int) ∧ s3 = .slice A3 n c3 ∧ Hid (PsQ wr R g bk bc (ms.take n) ∧ OwnI B wr (.slice A3 n c3) (wavesI (ms.take n)) ∧ Below w.heap.size w wr ∧ B ≤ wr.heap.size)) (fun _ i _ => L - (intOf i).toNat)
  case atStart => exact ⟨0, none, 0, Nat.zero_le _, rfl, rfl, H1⟩
  case round =>
    obtain ⟨n, A3, c3, hn, rfl, rfl, HO⟩ := hrel
    by_cases hlt : n < L
    · have hni : (n : Int) < L := by omega
      have hn1 : n < l.length := by have := HM.out.2.2; omega
      have hnm : n < ms.length := by have := HM.out.2.1; omega
      obtain ⟨b, o, e1, hb0, fC⟩ := HA.out (by rintro rfl; simp at hn1)
      subst e1
      have g1 := fC n hn1
      obtain ⟨y, hy⟩ : ∃ y, y = l[n] := ⟨_, rfl⟩
      rw [← hy] at g1
      have hym : ms[n] = y.m := by simp only [HM.out.1, List.getElem_map, hy]
      have hny : ¬ y.great := by rw [hy]; exact NG.out _ (List.getElem_mem hn1)
      have hyk : y.ks.length ≤ 10000 := by
        have : ¬ 100 < y.ks.length := fun h => hny (.inr (.inr (.inl h)))
        omega
      have hls : (ms.take n).length ≤ 1000 := by simp; omega
      have htk := wavesI_take hnm
      have hwl := waveI_le (l := ms) n hnm
      have hnx : nextW (wavesM (ms.take n)) y.m = waveI ms n := by rw [waveI_at hnm, hym]
      have hts : ms.take n ++ [y.m] = ms.take (n + 1) := by rw [List.take_succ_eq_append_getElem hnm, hym]
      obtain ⟨wk, hwk⟩ : ∃ x, x = waveI ms n := ⟨_, rfl⟩
      rw [← hwk] at htk hwl hnx
      have HADD : Hid (∀ W, Below wr.heap.size wr W → Calls Tryz.prog 99 #[.pointer (some ⟨R, 0, none⟩), y.val] W fun e W' => e = .returned (.int .i64 (wk : Int)) ∧ PsQ W' R g bk bc (ms.take (n + 1)) ∧ Only (fun x => x = R ∨ x = bk ∨ x = bc) W W') := Lib.hid (fun W hb => by
        have := addP_any (HO.out.1.below hb) hls y ((g1.2.below HO.out.2.2.1).below hb) hyk
        rw [hnx, hts] at this
        exact this)
      have HT := Lib.hid (And.intro htk (And.intro hwl (show (wavesI (ms.take n)).length = n by rw [wavesI_len]; simp; omega)))
      have hcl : Below w.heap.size w wr := HO.out.2.2.1
      clear hy hym hny hyk hls htk hwl hnx hts hwk
      obtain ⟨acl, asq, akd, KA, KL, kc, ks, old, new, nn⟩ := y
      simp only [CmdV.val, CmdV.cells] at HADD
      have cA : ∀ i u, (#[.int .u32 (acl : Int), .int .u32 (asq : Int), .int .u8 (akd : Int), .slice KA KL kc, .string old, .string new, .int .i64 nn] : Array Value)[i]? = some u → wr.cell? ⟨b, o + n * 7 + i, none⟩ = some u := fun i u hu => (hcl.cell (p := ⟨b, o + n * 7 + i, none⟩) hb0).trans (g1.1 i u hu)
      have a0 := cA 0 _ rfl
      have a1 := cA 1 _ rfl
      have a2 := cA 2 _ rfl
      have a3 := cA 3 _ rfl
      have a4 := cA 4 _ rfl
      have a5 := cA 5 _ rfl
      have a6 := cA 6 _ rfl
      simp only [Nat.add_zero] at a0
      clear cA g1 fC hcl hb0 hn1 hnm
      go_upto_region 6 with (fail)
      obtain ⟨W2, hW2⟩ : ∃ W2, W2 = wr.alloc (Obj.cells #[.int .u32 (acl : Int), .int .u32 (asq : Int), .int .u8 (akd : Int), .slice KA KL kc, .string old, .string new, .int .i64 nn] 57) := ⟨_, rfl⟩
      rw [← hW2]
      obtain ⟨hB2, k1⟩ := boxedW hW2
      obtain ⟨p, hp⟩ : ∃ p, p = wr.heap.size := ⟨_, rfl⟩
      rw [← hp] at k1 ⊢
      obtain ⟨x0, x1, x2, x3, x4, x5, x6⟩ := (show BoxC p ⟨acl, asq, akd, KA, KL, kc, ks, old, new, nn⟩ W2 from ⟨k1⟩).at
      have B2 := Lib.hid hB2
      have HC := Lib.hid (HADD.out W2 hB2)
      clear hW2 hp hB2 k1 a0 a1 a2 a3 a4 a5 a6
      go_wp2_with fail
      refine HC.out.mono ?_
      rintro e W3 ⟨rfl, hps3, hon3⟩
      have hown2 : OwnI B W2 (.slice A3 n c3) (wavesI (ms.take n)) := HO.out.2.1.below B2.out
      have hown3 : OwnI B W3 (.slice A3 n c3) (wavesI (ms.take n)) := hon3.own hown2 (fun k hk hF => by
        have h1 := hown2.ge k hk
        have h2 := HB.out.1
        rcases hF with e | e | e <;> omega)
      have hbl3 : Below w.heap.size w W3 := (HO.out.2.2.1.trans (Below.mono B2.out HO.out.2.2.1.size)).trans (hon3.below (Nat.le_trans HO.out.2.2.1.size B2.out.size) (fun x hx => by
        have h2 := HB.out.2.2
        rcases hx with e | e | e <;> omega))
      have hbs3 : B ≤ W3.heap.size := Nat.le_trans HO.out.2.2.2 (Nat.le_trans B2.out.size hon3.size)
      have H3 := Lib.hid (And.intro hps3 (And.intro hown3 (And.intro hbl3 hbs3)))
      clear hps3 hon3 hown2 hown3 hbl3 hbs3 x0 x1 x2 x3 x4 x5 x6
      go_wp2_with (at_builtin; refine wpList_append_I rfl (.tmp 14) (.tmp 18) rfl B (.slice A3 n c3) (wavesI (ms.take n)) rfl (H3.out.2.1.below ((Below.refl _ W3).alloc (Nat.le_refl _) _)) W3.heap.size 1 wk rfl (by have := cell_one_new W3 (.int .i64 (wk : Int)) 3 0 _ rfl; exact this) (by have := HT.out.2.2; omega) (by have := H3.out.2.2.2; simp; omega) ?_; intro v4 W4 ho4 hg4; rw [← HT.out.1] at ho4; obtain ⟨A4, c4, rfl, _⟩ := ho4.form; have hl4 : (wavesI (ms.take (n + 1))).length = n + 1 := (by rw [HT.out.1, List.length_append, HT.out.2.2]; rfl); rw [hl4] at ho4 ⊢; have H4 := Lib.hid (And.intro ho4 hg4); clear ho4 hg4 hl4)
      have hge := H3.out.2.1.ge
      refine ⟨⟨n + 1, A4, c4, by omega, by congr 1, rfl, Lib.hid ⟨(H3.out.1.below ((Below.refl _ W3).alloc (Nat.le_refl _) _)).grown HB.out.1 H4.out.2 hge, H4.out.1, (H3.out.2.2.1.alloc H3.out.2.2.1.size _).grown H4.out.2 (Nat.le_trans H3.out.2.2.1.size (by simp)) (fun k hk => Nat.le_trans HB.out.2.1 (hge k hk)), ?_⟩⟩, by simp only [intOf]; omega⟩
      have h5 := H4.out.2.size
      have h6 := H3.out.2.2.2
      simp at h5
      omega
    · have hni : ¬ (n : Int) < L := by omega
      obtain rfl : n = L := by omega
      have ho := HO.out.2.1
      rw [List.take_of_length_le (by have := HM.out.2.1; omega)] at ho
      have HOO := Lib.hid (ho.mono HB.out.2.1)
      clear ho
      go_wp2
      go_ret
      exact ⟨_, rfl, HOO.out, HO.out.2.2.1⟩
end Go.Proofs.YtfjmdkhemnmkpaaGreatDoor

namespace Go.Proofs.YtfjmdkhemnmkpaaGreatDoor
open Go.RowKit
def topN (l : List CM) (n : Nat) : Nat := (topW l n + 1).toNat
theorem topN_num (l : List CM) : topN l l.length = numW l := rfl
theorem topN_zero (l : List CM) : topN l 0 = 0 := by simp [topN, topW]
theorem wave_top {l : List CM} {n : Nat} (h : n < l.length) : waveI l n ≤ topN l n := by
  have h0 := topW_lo l n
  unfold topN
  rcases Nat.eq_zero_or_pos (waveI l n) with e | e
  · omega
  · obtain ⟨k, h1, h2⟩ := wave_prev h e
    have := topW_ge l n k h1
    omega
theorem topN_succ (l : List CM) (n : Nat) : topN l (n + 1) = max (topN l n) (waveI l n + 1) := by
  have h0 := topW_lo l n
  unfold topN
  simp only [topW]
  omega
theorem topN_le (l : List CM) : ∀ n, n ≤ l.length → topN l n ≤ n
  | 0, _ => by rw [topN_zero]; exact Nat.le_refl _
  | n + 1, h => by
    have h1 := topN_le l n (by omega)
    have h2 := waveI_le (l := l) n (by omega)
    rw [topN_succ]
    omega
section
variable {base : Nat} {W : World} {v : Value} {l : List Nat}
theorem OwnI.blk (h : OwnI base W v l) (hl : 0 < l.length) : ∃ g c, v = .slice (some ⟨g, 0, none⟩) l.length c ∧ base ≤ g ∧ g < W.heap.size ∧ l.length ≤ c ∧ (∀ j (hj : j < l.length), W.cell? ⟨g, j, none⟩ = some (.int .i64 (l[j] : Int))) ∧ ∀ j, W.frozen? ⟨g, j, none⟩ = false := by
  rcases h.2 with ⟨_, h0⟩ | ⟨g, cap, cur, e, hb, hg, hn, _⟩
  · omega
  · subst e
    refine ⟨g, cap, rfl, hb, (Array.getElem?_eq_some_iff.1 hg).1, hn, fun j hj => ?_, fun j => World.ownsRow.frozenAt h j⟩
    have c0 := World.ownsRow.cells h (g := g) rfl j (.int .i64 (l[j] : Int)) (by simp [cellsI, hj])
    rwa [addr_add, Nat.zero_add] at c0
theorem OwnI.store {g n c : Nat} (h : OwnI base W (.slice (some ⟨g, 0, none⟩) n c) l) (hn : n = l.length) (j x : Nat) {z : Int} (hz : z = (x : Int)) : OwnI base (W.setCell ⟨g, j, none⟩ (.int .i64 z)) (.slice (some ⟨g, 0, none⟩) n c) (l.set j x) ∧ W.grownBy (W.setCell ⟨g, j, none⟩ (.int .i64 z)) (some g) := by
  subst hz hn
  have := World.ownsRow.stored h j (.int .i64 (x : Int))
  refine ⟨?_, this.2⟩
  unfold OwnI
  rw [List.length_set, show cellsI (l.set j x) = (cellsI l).set j (.int .i64 (x : Int)) by simp [cellsI, List.map_set]]
  exact this.1
end
theorem set_all {l : List Nat} {j x n : Nat} (h : ∀ s ∈ l, s ≤ n) (hx : x ≤ n) : ∀ s ∈ l.set j x, s ≤ n := fun s hs => by
  rcases List.mem_or_eq_of_mem_set hs with h1 | h1
  · exact h s h1
  · omega
theorem snoc_at {ss : List Nat} {v : Nat} (h : ss.length = v) (h2 : v < (ss ++ [0]).length) : (ss ++ [0])[v] = 0 := by
  subst h
  simp
set_option maxRecDepth 100000 in
set_option maxHeartbeats 8000000 in
theorem sizes_any (A : Option Addr) (L c : Nat) (ms : List CM) (w : World) (hL : L = ms.length) (hm : L ≤ 1000) (hA : HasI w A (wavesI ms)) :
    Calls Tryz.prog 100 #[.slice A L c] w fun e W' => ∃ x, e = .returned x ∧ ∃ ss : List Nat, ss.length = numW ms ∧ (∀ s ∈ ss, s ≤ 1000) ∧ OwnI w.heap.size W' x ss ∧ Below w.heap.size w W' := by
  have HA := Lib.hid hA
  have HL := Lib.hid (And.intro hL hm)
  have hLi : (L : Int) ≤ 1000 := by omega
  clear hL hm hA
  go_enter Tryz.func100, Tryz.ntmps100
  go_wp2
  go_loopw [3, 8] (fun s3 i wr => ∃ (n t : Nat) (A3 : Option Addr) (c3 : Nat) (ss : List Nat), n ≤ L ∧ i = .int .i64 (n : Int) ∧ s3 = .slice A3 t c3 ∧ t = topN ms n ∧ Hid (ss.length = t ∧ (∀ s ∈ ss, s ≤ n) ∧ OwnI w.heap.size wr (.slice A3 t c3) ss ∧ Below w.heap.size w wr)) (fun _ i _ => L - (intOf i).toNat)
  case atStart => exact ⟨0, 0, none, 0, [], Nat.zero_le _, rfl, rfl, (topN_zero ms).symm, Lib.hid ⟨rfl, by simp, OwnI.nil _ _, Below.refl _ _⟩⟩
  case round =>
    obtain ⟨n, t, A3, c3, ss, hn, rfl, rfl, ht, HO⟩ := hrel
    by_cases hlt : n < L
    · have hni : (n : Int) < L := by omega
      have hnm : n < ms.length := by have := HL.out.1; omega
      have hnw : n < (wavesI ms).length := by rw [wavesI_len]; exact hnm
      obtain ⟨bb, o, e1, l1, f1⟩ := HA.out (by intro e; rw [e] at hnw; simp at hnw)
      subst e1
      have g1 := (HO.out.2.2.2.cell (p := ⟨bb, o + n, none⟩) l1).trans (f1 n hnw)
      rw [wavesI_at hnw] at g1
      have hvt := wave_top hnm
      have hts := topN_succ ms n
      have htl := topN_le ms n (by omega)
      rw [← ht] at hvt hts htl
      have hvl := waveI_le (l := ms) n hnm
      obtain ⟨v, hv⟩ : ∃ v, v = waveI ms n := ⟨_, rfl⟩
      rw [← hv] at g1 hvt hts hvl
      have HT := Lib.hid (And.intro ht (And.intro hts htl))
      have htc : (t : Int) ≤ 1000 := by omega
      clear f1 hnw hv hts htl hnm ht
      by_cases he : v = t
      · subst he
        have hvi : (v : Int) < 9223372036854775807 := by omega
        clear hvt hvl
        go_upto_region 6 with (fail)
        have hss : (ss ++ [0]).length = v + 1 := by rw [List.length_append, HO.out.1]; rfl
        have hz0 : ∀ h2, (ss ++ [0])[v]'h2 = 0 := fun h2 => snoc_at HO.out.1 h2
        have HSS := Lib.hid (And.intro hss hz0)
        have c1 := cell_one_new wr (.int .i64 ((0 : Nat) : Int)) 3 0 _ rfl
        have C1 := Lib.hid c1
        clear hss hz0 c1
        go_wp2_with (at_builtin; refine wpList_append_I rfl (.tmp 16) (.tmp 17) rfl w.heap.size (.slice A3 v c3) ss rfl (HO.out.2.2.1.below ((Below.refl _ wr).alloc (Nat.le_refl _) _)) wr.heap.size 1 0 rfl C1.out (by have := HO.out.1; have := HT.out.2.2; have := HL.out.2; omega) (by have := HO.out.2.2.2.size; simp; omega) ?_; intro v4 W4 ho4 hg4; obtain ⟨g4, c4, rfl, hb4, hl4, hc4, k4, z4⟩ := ho4.blk (by simp); have x4 := k4 v (by have := HSS.out.1; omega); have y4 := z4 v; rw [HSS.out.2 _] at x4; rw [HSS.out.1] at ho4 ⊢; have H4 := Lib.hid (And.intro ho4 (And.intro hg4 hb4)); clear ho4 hg4 hb4 hl4 hc4 k4 z4)
        obtain ⟨k1, k2⟩ := OwnI.store H4.out.1 HSS.out.1.symm v 1 (z := 1) rfl
        have hb4 : Below w.heap.size w W4 := (HO.out.2.2.2.alloc HO.out.2.2.2.size _).grown H4.out.2.1 (Nat.le_trans HO.out.2.2.2.size (by simp)) HO.out.2.2.1.ge
        exact ⟨⟨n + 1, v + 1, some ⟨g4, 0, none⟩, c4, (ss ++ [0]).set v 1, by omega, by congr 1, rfl, by rw [HT.out.2.1]; omega, Lib.hid ⟨by rw [List.length_set, HSS.out.1], set_all (fun s hs => by
          rcases List.mem_append.1 hs with h | h
          · have := HO.out.2.1 s h; omega
          · have : s = 0 := by simpa using h
            omega) (by omega), k1, hb4.setCell (p := ⟨g4, v, none⟩) H4.out.2.2 _⟩⟩, by simp only [intOf]; omega⟩
      · have hei : ¬ (v : Int) = t := by omega
        have hvi : (v : Int) < t := by omega
        have hvl2 : v < ss.length := by have := HO.out.1; omega
        obtain ⟨g4, c4, e4, hb4, hl4, hc4, k4, z4⟩ := HO.out.2.2.1.blk (by omega)
        obtain ⟨rfl, _, rfl⟩ : A3 = some ⟨g4, 0, none⟩ ∧ t = ss.length ∧ c3 = c4 := by injection e4 with a b c; exact ⟨a, b, c⟩
        have x4 := k4 v hvl2
        have y4 := z4 v
        have hs := HO.out.2.1 ss[v] (List.getElem_mem hvl2)
        obtain ⟨s, hsv⟩ : ∃ s, s = ss[v] := ⟨_, rfl⟩
        rw [← hsv] at x4 hs
        have hsi : (s : Int) ≤ 1000 := by have := HL.out.2; omega
        have HG := Lib.hid (And.intro hb4 (And.intro hs hlt))
        clear hb4 hl4 hc4 k4 z4 hsv hvl2 e4 hvt hvl hs
        go_wp2
        obtain ⟨k1, k2⟩ := OwnI.store HO.out.2.2.1 HO.out.1.symm v (s + 1) (z := (s : Int) + 1) (by omega)
        exact ⟨⟨n + 1, t, some ⟨g4, 0, none⟩, c3, ss.set v (s + 1), by omega, by congr 1, rfl, by rw [HT.out.2.1]; omega, Lib.hid ⟨by rw [List.length_set]; exact HO.out.1, set_all (fun s hs => by have := HO.out.2.1 s hs; omega) (by have := HG.out.2.1; omega), k1, HO.out.2.2.2.setCell (p := ⟨g4, v, none⟩) HG.out.1 _⟩⟩, by simp only [intOf]; omega⟩
    · have hni : ¬ (n : Int) < L := by omega
      obtain rfl : n = L := by omega
      have HT := Lib.hid ht
      clear ht hlt
      go_wp2
      go_ret
      exact ⟨_, rfl, ss, by rw [HO.out.1, HT.out, HL.out.1, topN_num], fun s hs => by have := HO.out.2.1 s hs; have := HL.out.2; omega, by have h := HO.out.2.2.1; exact h, HO.out.2.2.2⟩
end Go.Proofs.YtfjmdkhemnmkpaaGreatDoor

namespace Go.Proofs.YtfjmdkhemnmkpaaGreatDoor
open Go.RowKit
theorem infoL : (Tryz.prog.info? 23).map (fun i => (i.zero, i.size, i.bytes)) = some (some (.slice none 0 0), 1, 24) := by kernel_rfl
theorem infoL_parts : ∃ i, Tryz.prog.info? 23 = some i ∧ i.zero = some (.slice none 0 0) ∧ i.size = 1 ∧ i.bytes = 24 := by
  have h := infoL
  cases hi : Tryz.prog.info? 23 with
  | none => rw [hi] at h; cases h
  | some i => rw [hi] at h; simp at h; exact ⟨i, rfl, h.1, h.2.1, h.2.2⟩
def OwnL (base : Nat) (w : World) (v : Value) (vs : List Value) : Prop := w.ownsRow base 23 1 v vs.length vs
section
variable {base : Nat} {w w' : World} {v u : Value} {vs : List Value} {l : List Nat}
theorem OwnL.form (h : OwnL base w v vs) : ∃ A c, v = .slice A vs.length c ∧ vs.length ≤ c := by
  rcases h.2 with ⟨rfl, h0⟩ | ⟨g, cap, cur, rfl, _, _, hn, _⟩
  · exact ⟨none, 0, by rw [h0], by omega⟩
  · exact ⟨_, _, rfl, hn⟩
theorem OwnL.kept (h : OwnL base w v vs) {row : Option Nat} (hg : w.grownBy w' row) (hr : ∀ k, v.ownBlock = some k → row ≠ some k) : OwnL base w' v vs := by
  refine World.ownsRow.kept h hg ?_
  cases hv : v.ownBlock with
  | none => exact .inl rfl
  | some x => exact .inr (fun e => hr x hv e.symm)
theorem OwnL.below (h : OwnL base w v vs) (hb : Below w.heap.size w w') : OwnL base w' v vs := h.kept (grownBy_of_below (r := none) hb) (fun _ _ e => by cases e)
theorem OwnL.typ (h : OwnL base w v vs) {k : Nat} (hk : v.ownBlock = some k) : base ≤ k ∧ ∃ cs, w.heap[k]? = some (.cells cs 23 (0, 0)) := by
  rcases h.2 with ⟨rfl, _⟩ | ⟨g, cap, cur, rfl, hb, hg, _⟩
  · cases hk
  · obtain rfl : g = k := by simpa [Value.ownBlock] using hk
    exact ⟨hb, cur, hg⟩
theorem OwnL.nil (base : Nat) (w : World) : OwnL base w (.slice none 0 0) [] := World.ownsRow_nil _ _ _ _
theorem OwnI.kept (h : OwnI base w v l) {row : Option Nat} (hg : w.grownBy w' row) (hr : ∀ k, v.ownBlock = some k → row ≠ some k) : OwnI base w' v l := by
  refine World.ownsRow.kept h hg ?_
  cases hv : v.ownBlock with
  | none => exact .inl rfl
  | some x => exact .inr (fun e => hr x hv e.symm)
theorem OwnI.typ (h : OwnI base w v l) {k : Nat} (hk : v.ownBlock = some k) : base ≤ k ∧ ∃ cs, w.heap[k]? = some (.cells cs 3 (0, 0)) := by
  rcases h.2 with ⟨rfl, _⟩ | ⟨g, cap, cur, rfl, hb, hg, _⟩
  · cases hk
  · obtain rfl : g = k := by simpa [Value.ownBlock] using hk
    exact ⟨hb, cur, hg⟩
theorem OwnI.lt (h : OwnI base w v l) {k : Nat} (hk : v.ownBlock = some k) : k < w.heap.size := by
  obtain ⟨_, cs, hc⟩ := h.typ hk
  exact (Array.getElem?_eq_some_iff.1 hc).1
theorem OwnI.apartL (h : OwnI base w u l) (k : OwnL base w v vs) {i j : Nat} (hi : u.ownBlock = some i) (hj : v.ownBlock = some j) : i ≠ j := by
  obtain ⟨_, cs, h1⟩ := h.typ hi
  obtain ⟨_, ds, h2⟩ := k.typ hj
  intro e
  rw [e, h2] at h1
  have h3 := (Obj.cells.inj (Option.some.inj h1)).2.1
  exact absurd h3 (by decide)
end
theorem wpList_append_L {ops : Array Oper} {rest : List Oper} {o : Oper} {a : Act} {w : World} {Q : Exit → Act → World → Prop} (hgd : o.guard = none) (s x : Operand)
    (ho : o.op = .call { callee := .builtin .append, args := #[s, x], argTypes := #[102, 102] }) (base : Nat) (v : Value) (vs : List Value) (hs : a.eval s = v) (hown : OwnL base w v vs)
    (b c : Nat) (u : Value) (hu : u.oneCell' = true) (hx : a.eval x = .slice (some ⟨b, 0, none⟩) 1 c) (hA : w.cell? ⟨b, 0, none⟩ = some u) (hlen : vs.length + 1 ≤ 1000000) (hbase : base ≤ w.heap.size)
    (h : ∀ v' w', OwnL base w' v' (vs ++ [u]) → w.grownBy w' v.ownBlock → wpList Tryz.prog ops Q rest (a.put o.dst v') w') : wpList Tryz.prog ops Q (o :: rest) a w := by
  obtain ⟨i, hi, hz, hsz, hby⟩ := infoL_parts
  refine wpList_append_own_at w hgd s x 102 ho base 23 i _ 1 24 Tryz.underlying102 hi hz hsz hby rfl (by omega) v vs.length vs hs hown ⟨b, 0, none⟩ 1 c [u] hx rfl (fun j y hj => ?_) (fun y hy => by rw [List.mem_singleton.1 hy]; exact hu) (by simp only [maxLen]; omega) (by omega) hbase ?_
  · have hjl : j < 1 := (List.getElem?_eq_some_iff.1 hj).1
    obtain rfl : j = 0 := by omega
    rw [addr_add]
    have : y = u := by simpa using hj.symm
    rw [this]
    exact hA
  · intro v' w' h1 h2 _ _
    refine h v' w' ?_ h2
    unfold OwnL
    rw [List.length_append]
    exact h1
theorem wpList_append_I2 {ops : Array Oper} {rest : List Oper} {o : Oper} {a : Act} {w : World} {Q : Exit → Act → World → Prop} (hgd : o.guard = none) (s x : Operand)
    (ho : o.op = .call { callee := .builtin .append, args := #[s, x], argTypes := #[23, 23] }) (base : Nat) (v : Value) (l : List Nat) (hs : a.eval s = v) (hown : OwnI base w v l)
    (b : Nat) (c : Nat) (t : Nat) (hx : a.eval x = .slice (some ⟨b, 0, none⟩) 1 c) (hA : w.cell? ⟨b, 0, none⟩ = some (.int .i64 (t : Int))) (hlen : l.length + 1 ≤ 1000000) (hbase : base ≤ w.heap.size)
    (h : ∀ v' w', OwnI base w' v' (l ++ [t]) → w.grownBy w' v.ownBlock → (v'.ownBlock = v.ownBlock ∨ v'.ownBlock = some w.heap.size) → wpList Tryz.prog ops Q rest (a.put o.dst v') w') : wpList Tryz.prog ops Q (o :: rest) a w := by
  obtain ⟨i, hi, hz, hsz, hby⟩ := infoI_parts
  refine wpList_append_own_at w hgd s x 23 ho base 3 i _ 1 8 Tryz.underlying23 hi hz hsz hby rfl (by omega) v l.length (cellsI l) hs hown ⟨b, 0, none⟩ 1 c (cellsI [t]) hx rfl (fun j u hj => ?_) (cellsI_one [t]) (by simp only [maxLen]; omega) (by omega) hbase ?_
  · have hjl : j < 1 := (List.getElem?_eq_some_iff.1 hj).1
    obtain rfl : j = 0 := by omega
    rw [addr_add]
    have : u = .int .i64 (t : Int) := by simpa [cellsI] using hj.symm
    rw [this]
    exact hA
  · intro v' w' h1 h2 _ h3
    refine h v' w' ?_ h2 h3
    unfold OwnI
    rw [show cellsI (l ++ [t]) = cellsI l ++ cellsI [t] by simp [cellsI], List.length_append]
    exact h1
structure GrQ (base : Nat) (W : World) (v : Value) (vs : List Value) (gs : List (List Nat)) : Prop where
  row : OwnL base W v vs
  len : vs.length = gs.length
  own : ∀ (j : Nat) (u : Value) (g : List Nat), vs[j]? = some u → gs[j]? = some g → OwnI base W u g
  ne : ∀ (i j : Nat) (u u' : Value), vs[i]? = some u → vs[j]? = some u' → i ≠ j → u.ownBlock ≠ u'.ownBlock
section
variable {base : Nat} {W W' : World} {v v' u : Value} {vs : List Value} {gs : List (List Nat)}
theorem GrQ.get (h : GrQ base W v vs gs) {j : Nat} {u : Value} (hj : vs[j]? = some u) : ∃ g, gs[j]? = some g ∧ OwnI base W u g := by
  have h1 := (List.getElem?_eq_some_iff.1 hj).1
  have h2 : j < gs.length := by rw [← h.len]; exact h1
  exact ⟨gs[j], List.getElem?_eq_getElem h2, h.own j u _ hj (List.getElem?_eq_getElem h2)⟩
theorem GrQ.mono (h : GrQ base W v vs gs) {b : Nat} (hb : b ≤ base) : GrQ b W v vs gs := by
  refine ⟨?_, h.len, fun j u g h1 h2 => (h.own j u g h1 h2).mono hb, h.ne⟩
  refine ⟨h.row.1, ?_⟩
  rcases h.row.2 with h2 | ⟨g, cap, cur, e, h1, h2⟩
  · exact .inl h2
  · exact .inr ⟨g, cap, cur, e, Nat.le_trans hb h1, h2⟩
theorem GrQ.below (h : GrQ base W v vs gs) (hb : Below W.heap.size W W') : GrQ base W' v vs gs :=
  ⟨h.row.below hb, h.len, fun j u g h1 h2 => (h.own j u g h1 h2).below hb, h.ne⟩
theorem GrQ.add (h : GrQ base W v vs gs) (hu : OwnI base W u []) {k : Nat} (hk : u.ownBlock = some k) (hf : ∀ (j : Nat) (x : Value) (y : Nat), vs[j]? = some x → x.ownBlock = some y → y ≠ k) (hr : OwnL base W' v' (vs ++ [u])) (hg : W.grownBy W' v.ownBlock) : GrQ base W' v' (vs ++ [u]) (gs ++ [[]]) := by
  have keep : ∀ x g, OwnI base W x g → OwnI base W' x g := fun x g hx => hx.kept hg (fun i hi e => hx.apartL h.row hi e rfl)
  refine ⟨hr, by rw [List.length_append, List.length_append, h.len]; rfl, fun j x g h1 h2 => ?_, fun i j x x' h1 h2 hij => ?_⟩
  · rcases Nat.lt_or_ge j vs.length with hj | hj
    · rw [List.getElem?_append_left hj] at h1
      rw [List.getElem?_append_left (by rw [← h.len]; exact hj)] at h2
      exact keep x g (h.own j x g h1 h2)
    · have hlt := (List.getElem?_eq_some_iff.1 h1).1
      rw [List.length_append, List.length_singleton] at hlt
      obtain rfl : j = vs.length := by omega
      rw [List.getElem?_append_right (Nat.le_refl _)] at h1
      rw [h.len, List.getElem?_append_right (Nat.le_refl _)] at h2
      obtain rfl : u = x := by simpa using h1
      obtain rfl : [] = g := by simpa using h2
      exact keep u [] hu
  · have hl : ∀ {i : Nat} {x : Value}, (vs ++ [u])[i]? = some x → vs[i]? = some x ∨ (i = vs.length ∧ x = u) := by
      intro i x hi
      rcases Nat.lt_or_ge i vs.length with hj | hj
      · rw [List.getElem?_append_left hj] at hi
        exact .inl hi
      · have hlt := (List.getElem?_eq_some_iff.1 hi).1
        rw [List.length_append, List.length_singleton] at hlt
        obtain rfl : i = vs.length := by omega
        rw [List.getElem?_append_right (Nat.le_refl _)] at hi
        exact .inr ⟨rfl, by simpa using hi.symm⟩
    rcases hl h1 with k1 | ⟨k1, q1⟩ <;> rcases hl h2 with k2 | ⟨k2, q2⟩
    · exact h.ne i j x x' k1 k2 hij
    · intro e
      exact hf i x k k1 (by rw [e, q2, hk]) rfl
    · intro e
      exact hf j x' k k2 (by rw [← e, q1, hk]) rfl
    · exact absurd (k1.trans k2.symm) hij
end
set_option maxRecDepth 100000 in
set_option maxHeartbeats 8000000 in
theorem empty_any (A : Option Addr) (L c : Nat) (ms : List CM) (w : World) (hL : L = ms.length) (hm : L ≤ 1000) (hA : HasI w A (wavesI ms)) :
    Calls Tryz.prog 78 #[.slice A L c] w fun e W' => ∃ x, e = .returned x ∧ (∃ vs, GrQ w.heap.size W' x vs (List.replicate (numW ms) [])) ∧ Below w.heap.size w W' := by
  obtain ⟨i0, hi0, hz0, hs0, hb0⟩ := infoI_parts
  have HS := Lib.hid (sizes_any A L c ms w hL hm hA)
  have hnl : numW ms ≤ 1000 := by rw [← topN_num]; exact Nat.le_trans (topN_le ms _ (Nat.le_refl _)) (by omega)
  obtain ⟨N, hN⟩ : ∃ N, N = numW ms := ⟨_, rfl⟩
  rw [← hN] at HS hnl ⊢
  clear hL hm hA hN
  go_enter Tryz.func78, Tryz.ntmps78
  go_wp2_with fail
  refine HS.out.mono ?_
  rintro e W1 ⟨x, rfl, ss, hss, hle, hown, hb1⟩
  obtain ⟨A1, c1, rfl, hc1⟩ := hown.form
  rw [hss] at hown hc1 ⊢
  obtain ⟨B, hB⟩ : ∃ B, B = W1.heap.size := ⟨_, rfl⟩
  have HH := Lib.hid (And.intro hown.has (And.intro hss (And.intro hle (show w.heap.size ≤ B by rw [hB]; exact hb1.size))))
  have H1 : Hid (GrQ B W1 (.slice none 0 0) [] (List.replicate 0 []) ∧ Below B W1 W1 ∧ B ≤ W1.heap.size) := Lib.hid ⟨⟨OwnL.nil _ _, rfl, fun j u g h => by simp at h, fun i j u u' h => by simp at h⟩, Below.refl _ _, by omega⟩
  have HB := Lib.hid (And.intro hb1 hB)
  have hNi : (N : Int) ≤ 1000 := by omega
  clear hss hle hown hc1 hb1 hB
  go_wp2
  go_loopw [3, 10] (fun s3 i wr => ∃ (n : Nat) (A3 : Option Addr) (c3 : Nat) (vs : List Value), n ≤ N ∧ i = .int .i64 (n : Int) ∧ s3 = .slice A3 n c3 ∧ Hid (vs.length = n ∧ GrQ B wr (.slice A3 n c3) vs (List.replicate n []) ∧ Below B W1 wr ∧ B ≤ wr.heap.size)) (fun _ i _ => N - (intOf i).toNat)
  case atStart => exact ⟨0, none, 0, [], Nat.zero_le _, rfl, rfl, Lib.hid ⟨rfl, H1.out.1, H1.out.2⟩⟩
  case round =>
    obtain ⟨n, A3, c3, vs, hn, rfl, rfl, HO⟩ := hrel
    by_cases hlt : n < N
    · have hni : (n : Int) < N := by omega
      have hnl2 : n < ss.length := by have := HH.out.2.1; omega
      obtain ⟨bb, o, e1, l1, f1⟩ := HH.out.1 (by rintro rfl; simp at hnl2)
      subst e1
      have g1 := (HO.out.2.2.1.cell (p := ⟨bb, o + n, none⟩) (by have := HB.out.2; show bb < B; omega)).trans (f1 n hnl2)
      have hsl := HH.out.2.2.1 ss[n] (List.getElem_mem hnl2)
      obtain ⟨s, hs⟩ : ∃ s, s = ss[n] := ⟨_, rfl⟩
      rw [← hs] at g1 hsl
      obtain ⟨w1, hmk, hmo, hmg⟩ := run_make_own (P := Tryz.prog) wr B 23 3 i0 (.int .i64 0) 1 Tryz.underlying23 hi0 hz0 hs0 .i64 .i64 s (by rw [hb0]; omega) (by simp only [maxLen]; omega) HO.out.2.2.2
      have hsi : (s : Int) ≤ 1000 := by omega
      obtain ⟨f, hf⟩ : ∃ f, f = wr.heap.size := ⟨_, rfl⟩
      rw [← hf] at hmk hmo
      have hb2 : Below wr.heap.size wr w1 := (Below.refl _ wr).grown hmg (Nat.le_refl _) (fun k e => by cases e)
      have hgr1 := HO.out.2.1.below hb2
      have hui : OwnI B w1 (.slice (some ⟨f, 0, none⟩) 0 s) [] := hmo
      have hc1 := cell_one_new w1 (.slice (some ⟨f, 0, none⟩) 0 s) 23 0 _ rfl
      have hbx : Below w1.heap.size w1 (w1.alloc (.cells #[.slice (some ⟨f, 0, none⟩) 0 s] 23)) := (Below.refl _ w1).alloc (Nat.le_refl _) _
      have HU := Lib.hid (And.intro hui (And.intro hf (And.intro hc1 (And.intro hgr1 (And.intro hb2 hbx)))))
      clear f1 hnl2 hs hmo hmg hb2 hgr1 hui hf hc1 hsl hbx
      go_wp2_with (at_builtin; refine wpList_append_L rfl (.tmp 13) (.tmp 19) rfl B (.slice A3 n c3) vs rfl (HU.out.2.2.2.1.row.below HU.out.2.2.2.2.2) w1.heap.size 1 (.slice (some ⟨f, 0, none⟩) 0 s) rfl rfl HU.out.2.2.1 (by have := HO.out.1; omega) (by have := HO.out.2.2.2; have := HU.out.2.2.2.2.1.size; simp; omega) ?_; intro v4 W4 ho4 hg4; obtain ⟨A4, c4, rfl, _⟩ := ho4.form; have H4 := Lib.hid (And.intro ho4 hg4); clear ho4 hg4)
      have hlv : (vs ++ [Value.slice (some ⟨f, 0, none⟩) 0 s]).length = n + 1 := by rw [List.length_append, HO.out.1]; rfl
      have hgq := (HU.out.2.2.2.1.below HU.out.2.2.2.2.2).add (HU.out.1.below HU.out.2.2.2.2.2) (k := f) rfl (fun j x y hj hy => by
        obtain ⟨g, _, hx⟩ := HO.out.2.1.get hj
        have := hx.lt hy
        have := HU.out.2.1
        omega) H4.out.1 H4.out.2
      rw [hlv] at hgq
      rw [HO.out.1]
      have hw1 : Below B W1 w1 := HO.out.2.2.1.trans (Below.mono HU.out.2.2.2.2.1 HO.out.2.2.2)
      have hs1 : B ≤ w1.heap.size := Nat.le_trans HO.out.2.2.2 HU.out.2.2.2.2.1.size
      refine ⟨⟨n + 1, A4, c4, vs ++ [.slice (some ⟨f, 0, none⟩) 0 s], by omega, by congr 1, rfl, Lib.hid ⟨hlv, by rw [List.replicate_succ']; exact hgq, (hw1.alloc hs1 _).grown H4.out.2 (Nat.le_trans hs1 (by simp)) (fun k hk => (HO.out.2.1.row.typ hk).1), ?_⟩⟩, by simp only [intOf]; omega⟩
      have h5 := H4.out.2.size
      simp at h5
      omega
    · have hni : ¬ (n : Int) < N := by omega
      obtain rfl : n = N := by omega
      clear hlt
      go_wp2
      go_ret
      exact ⟨_, rfl, ⟨vs, HO.out.2.1.mono HH.out.2.2.2⟩, HB.out.1.trans (Below.mono HO.out.2.2.1 HH.out.2.2.2)⟩
end Go.Proofs.YtfjmdkhemnmkpaaGreatDoor
