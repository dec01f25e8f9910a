/- The program's Waves. -/
import Derived.Test.YtooaobadnainkaaKtE
import Derived.Test.YtooaobadnainkaaKsRw
namespace Go.Proofs.Ytooaobadnainkaa
open Go.RowKit Go.Maps

theorem PsQ.grown {W W' : World} {R g bk bc B : Nat} {l : List CM} {row : Option Nat} (h : PsQ W R g bk bc l) (hB : R < B ∧ g < B ∧ bk < B ∧ bc < B) (hg : W.grownBy W' row) (hr : ∀ k, row = some k → B ≤ k) : PsQ W' R g bk bc l := by
  obtain ⟨k1, k2, k3, k4⟩ := h.lt
  obtain ⟨n1, a1, h1⟩ := h.keys
  obtain ⟨n2, a2, h2⟩ := h.cls
  have hb : ∀ k, k < W.heap.size → k < B → W'.heap[k]? = W.heap[k]? := fun k hk hkB => hg.block k hk (fun e => by have := hr k e.symm; omega)
  exact ⟨(hb R k1 hB.1).trans h.cell, (hb g k2 hB.2.1).trans h.lim, ⟨n1, a1, h1.keep (hb bk k3 hB.2.2.1)⟩, ⟨n2, a2, h2.keep (hb bc k4 hB.2.2.2)⟩, h.ne⟩
set_option maxRecDepth 100000 in
set_option maxHeartbeats 8000000 in
theorem waves_anyK (A : Option Addr) (L c : Nat) (l : List CmdV) (w : World) (hl : L = l.length) (hL : L ≤ 100) (hA : HasC w A l) (hng : ∀ v ∈ l, ¬ v.great) :
    Calls Try.prog 7 #[.slice A L c] w fun e W' => ∃ x, e = .returned x ∧ OwnI w.heap.size W' x (wavesI (l.map (·.m))) ∧ Below w.heap.size w W' := by
  obtain ⟨ms, hms⟩ : ∃ ms, ms = l.map (·.m) := ⟨_, rfl⟩
  rw [← hms]
  have hmsl : ms.length = L := by rw [hms, List.length_map]; exact hl.symm
  have HM := Lib.hid (And.intro hms (And.intro hmsl hl))
  have HA := Lib.hid hA
  have NG := Lib.hid hng
  have hLi : (L : Int) ≤ 100 := by omega
  have HNO := Lib.hid (nothing_any w)
  clear hms hmsl hl hA hng
  go_enter Try.func7, Try.ntmps7
  go_wp2_with fail
  refine HNO.out.mono ?_
  rintro e W1 ⟨R, g, bk, bc, rfl, hps, hlo, hb1⟩
  obtain ⟨B, hB⟩ : ∃ B, B = W1.heap.size := ⟨_, rfl⟩
  have HB := Lib.hid (show (R < B ∧ g < B ∧ bk < B ∧ bc < B) ∧ w.heap.size ≤ B ∧ (w.heap.size ≤ R ∧ w.heap.size ≤ bk ∧ w.heap.size ≤ bc) from ⟨by rw [hB]; exact hps.lt, by rw [hB]; exact hb1.size, hlo⟩)
  have H1 : Hid (PsQ W1 R g bk bc (ms.take 0) ∧ OwnI B W1 (.slice none 0 0) (wavesI (ms.take 0)) ∧ Below w.heap.size w W1 ∧ B ≤ W1.heap.size) := Lib.hid ⟨by simpa using hps, by simpa [wavesI, wavesM] using OwnI.nil _ _, hb1, by omega⟩
  clear hps hlo hb1 hB
  go_wp2
  go_loopw [3, 10] (fun s3 i wr => ∃ (n : Nat) (A3 : Option Addr) (c3 : Nat), n ≤ L ∧ i = .int .i64 (n : Int) ∧ s3 = .slice A3 n c3 ∧ Hid (PsQ wr R g bk bc (ms.take n) ∧ OwnI B wr (.slice A3 n c3) (wavesI (ms.take n)) ∧ Below w.heap.size w wr ∧ B ≤ wr.heap.size)) (fun _ i _ => L - (intOf i).toNat)
  case atStart => exact ⟨0, none, 0, Nat.zero_le _, rfl, rfl, H1⟩
  case round =>
    obtain ⟨n, A3, c3, hn, rfl, rfl, HO⟩ := hrel
    by_cases hlt : n < L
    · have hni : (n : Int) < L := by omega
      have hn1 : n < l.length := by have := HM.out.2.2; omega
      have hnm : n < ms.length := by have := HM.out.2.1; omega
      obtain ⟨b, o, e1, hb0, fC⟩ := HA.out (by rintro rfl; simp at hn1)
      subst e1
      have g1 := fC n hn1
      obtain ⟨y, hy⟩ : ∃ y, y = l[n] := ⟨_, rfl⟩
      rw [← hy] at g1
      have hym : ms[n] = y.m := by simp only [HM.out.1, List.getElem_map, hy]
      have hny : ¬ y.great := by rw [hy]; exact NG.out _ (List.getElem_mem hn1)
      have hyk : y.ks.length ≤ 10000 := by
        have : ¬ 100 < y.ks.length := fun h => hny (.inr (.inr (.inl h)))
        omega
      have hls : (ms.take n).length ≤ 1000 := by simp; omega
      have htk := wavesI_take hnm
      have hwl := waveI_le (l := ms) n hnm
      have hnx : nextW (wavesM (ms.take n)) y.m = waveI ms n := by rw [waveI_at hnm, hym]
      have hts : ms.take n ++ [y.m] = ms.take (n + 1) := by rw [List.take_succ_eq_append_getElem hnm, hym]
      obtain ⟨wk, hwk⟩ : ∃ x, x = waveI ms n := ⟨_, rfl⟩
      rw [← hwk] at htk hwl hnx
      have HADD : Hid (∀ W, Below wr.heap.size wr W → Calls Try.prog 16 #[.pointer (some ⟨R, 0, none⟩), y.val] W fun e W' => e = .returned (.int .i64 (wk : Int)) ∧ PsQ W' R g bk bc (ms.take (n + 1)) ∧ Only (fun x => x = R ∨ x = bk ∨ x = bc) W W') := Lib.hid (fun W hb => by
        have := add_any (HO.out.1.below hb) hls y ((g1.2.below HO.out.2.2.1).below hb) hyk
        rw [hnx, hts] at this
        exact this)
      have HT := Lib.hid (And.intro htk (And.intro hwl (show (wavesI (ms.take n)).length = n by rw [wavesI_len]; simp; omega)))
      have hcl : Below w.heap.size w wr := HO.out.2.2.1
      clear hy hym hny hyk hls htk hwl hnx hts hwk
      obtain ⟨acl, asq, akd, KA, KL, kc, ks, old, new, nn⟩ := y
      simp only [CmdV.val, CmdV.cells] at HADD
      have cA : ∀ i u, (#[.int .u32 (acl : Int), .int .u32 (asq : Int), .int .u8 (akd : Int), .slice KA KL kc, .string old, .string new, .int .i64 nn] : Array Value)[i]? = some u → wr.cell? ⟨b, o + n * 7 + i, none⟩ = some u := fun i u hu => (hcl.cell (p := ⟨b, o + n * 7 + i, none⟩) hb0).trans (g1.1 i u hu)
      have a0 := cA 0 _ rfl
      have a1 := cA 1 _ rfl
      have a2 := cA 2 _ rfl
      have a3 := cA 3 _ rfl
      have a4 := cA 4 _ rfl
      have a5 := cA 5 _ rfl
      have a6 := cA 6 _ rfl
      simp only [Nat.add_zero] at a0
      clear cA g1 fC hcl hb0 hn1 hnm
      go_upto_region 6 with (fail)
      obtain ⟨W2, hW2⟩ : ∃ W2, W2 = wr.alloc (Obj.cells #[.int .u32 (acl : Int), .int .u32 (asq : Int), .int .u8 (akd : Int), .slice KA KL kc, .string old, .string new, .int .i64 nn] 31) := ⟨_, rfl⟩
      rw [← hW2]
      obtain ⟨hB2, k1⟩ := boxedW hW2
      obtain ⟨p, hp⟩ : ∃ p, p = wr.heap.size := ⟨_, rfl⟩
      rw [← hp] at k1 ⊢
      obtain ⟨x0, x1, x2, x3, x4, x5, x6⟩ := (show BoxC p ⟨acl, asq, akd, KA, KL, kc, ks, old, new, nn⟩ W2 from ⟨k1⟩).at
      have B2 := Lib.hid hB2
      have HC := Lib.hid (HADD.out W2 hB2)
      clear hW2 hp hB2 k1 a0 a1 a2 a3 a4 a5 a6
      go_wp2_with fail
      refine HC.out.mono ?_
      rintro e W3 ⟨rfl, hps3, hon3⟩
      have hown2 : OwnI B W2 (.slice A3 n c3) (wavesI (ms.take n)) := HO.out.2.1.below B2.out
      have hown3 : OwnI B W3 (.slice A3 n c3) (wavesI (ms.take n)) := hon3.own hown2 (fun k hk hF => by
        have h1 := hown2.ge k hk
        have h2 := HB.out.1
        rcases hF with e | e | e <;> omega)
      have hbl3 : Below w.heap.size w W3 := (HO.out.2.2.1.trans (Below.mono B2.out HO.out.2.2.1.size)).trans (hon3.below (Nat.le_trans HO.out.2.2.1.size B2.out.size) (fun x hx => by
        have h2 := HB.out.2.2
        rcases hx with e | e | e <;> omega))
      have hbs3 : B ≤ W3.heap.size := Nat.le_trans HO.out.2.2.2 (Nat.le_trans B2.out.size hon3.size)
      have H3 := Lib.hid (And.intro hps3 (And.intro hown3 (And.intro hbl3 hbs3)))
      clear hps3 hon3 hown2 hown3 hbl3 hbs3 x0 x1 x2 x3 x4 x5 x6
      go_wp2_with (at_builtin; refine wpList_append_I rfl (.tmp 14) (.tmp 18) rfl B (.slice A3 n c3) (wavesI (ms.take n)) rfl (H3.out.2.1.below ((Below.refl _ W3).alloc (Nat.le_refl _) _)) W3.heap.size 1 wk rfl (by have := cell_one_new W3 (.int .i64 (wk : Int)) 3 0 _ rfl; exact this) (by have := HT.out.2.2; omega) (by have := H3.out.2.2.2; simp; omega) ?_; intro v4 W4 ho4 hg4; rw [← HT.out.1] at ho4; obtain ⟨A4, c4, rfl, _⟩ := ho4.form; have hl4 : (wavesI (ms.take (n + 1))).length = n + 1 := (by rw [HT.out.1, List.length_append, HT.out.2.2]; rfl); rw [hl4] at ho4 ⊢; have H4 := Lib.hid (And.intro ho4 hg4); clear ho4 hg4 hl4)
      have hge := H3.out.2.1.ge
      refine ⟨⟨n + 1, A4, c4, by omega, by congr 1, rfl, Lib.hid ⟨(H3.out.1.below ((Below.refl _ W3).alloc (Nat.le_refl _) _)).grown HB.out.1 H4.out.2 hge, H4.out.1, (H3.out.2.2.1.alloc H3.out.2.2.1.size _).grown H4.out.2 (Nat.le_trans H3.out.2.2.1.size (by simp)) (fun k hk => Nat.le_trans HB.out.2.1 (hge k hk)), ?_⟩⟩, by simp only [intOf]; omega⟩
      have h5 := H4.out.2.size
      have h6 := H3.out.2.2.2
      simp at h5
      omega
    · have hni : ¬ (n : Int) < L := by omega
      obtain rfl : n = L := by omega
      have ho := HO.out.2.1
      rw [List.take_of_length_le (by have := HM.out.2.1; omega)] at ho
      have HOO := Lib.hid (ho.mono HB.out.2.1)
      clear ho
      go_wp2
      go_ret
      exact ⟨_, rfl, HOO.out, HO.out.2.2.1⟩
end Go.Proofs.Ytooaobadnainkaa
