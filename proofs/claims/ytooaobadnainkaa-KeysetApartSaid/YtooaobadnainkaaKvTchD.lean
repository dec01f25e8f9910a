/- The reference's Touches: a command's keys in order, each once. -/
import Derived.Test.YtooaobadnainkaaMKvD
import Derived.Test.YtooaobadnainkaaMKvA0
import Derived.Test.YtooaobadnainkaaCmSpec
import Derived.Test.YtooaobadnainkaaOwnS
namespace Go.Proofs.Ytooaobadnainkaa
open Go.RowKit

set_option maxRecDepth 100000 in
set_option maxHeartbeats 4000000 in
theorem Touches_any (v : CmdV) (w : World) (hv : v.ok w) (hm : v.L ≤ 1000) :
    Calls Try.prog 19 #[v.val] w fun e W' => ∃ x, e = .returned x ∧ OwnS w.heap.size W' x (touchK v.ks) ∧ Below w.heap.size w W' := by
  obtain ⟨acl, asq, akd, KA, KL, kc, ks, old, new, n⟩ := v
  obtain ⟨hcl, hsq, hkd, hn64, hlen, hmx, hhas, heach, hold, hnew⟩ := hv
  simp only at hcl hsq hkd hn64 hlen hmx hhas heach hold hnew hm ⊢
  simp only [CmdV.val, CmdV.cells]
  have HL := Lib.hid hlen
  have HA := Lib.hid hhas
  have hLi : (KL : Int) ≤ 1000 := by omega
  clear hlen heach hold hnew hhas hmx hcl hsq hkd hn64
  go_enter Try.func19, Try.ntmps19
  go_upto_region 1 with (fail)
  obtain ⟨W1, hW1⟩ : ∃ W1, W1 = w.alloc (Obj.cells #[.int .u32 (acl : Int), .int .u32 (asq : Int), .int .u8 (akd : Int), .slice KA KL kc, .string old, .string new, .int .i64 n] 31) := ⟨_, rfl⟩
  rw [← hW1]
  obtain ⟨p, hp⟩ : ∃ p, p = w.heap.size := ⟨_, rfl⟩
  have hs1 : W1.heap.size = p + 1 := by rw [hW1, hp]; exact World.size_alloc _ _
  have hB : Below w.heap.size w W1 := by rw [hW1]; exact (Below.refl _ w).alloc (Nat.le_refl _) _
  have k1 : W1.heap[p]? = some (.cells #[.int .u32 (acl : Int), .int .u32 (asq : Int), .int .u8 (akd : Int), .slice KA KL kc, .string old, .string new, .int .i64 n] 31 (0, 0)) := by
    rw [hW1, hp]; exact World.alloc_heap_new w _
  rw [← hp]
  have X3 := Lib.hid (show W1.cell? ⟨p, 3, none⟩ = some (.slice KA KL kc) by rw [blk_cell k1 3]; rfl)
  have PP := Lib.hid (show p < W1.heap.size by omega)
  have XB := Lib.hid hB
  have HA1 := Lib.hid (HA.out.below hB)
  clear hW1 hp hs1 hB k1 HA hm
  go_wp2
  go_loopw [3, 4] (fun s3 i wr => ∃ j : Nat, ∃ A3 c3 M, j ≤ KL ∧ i = .int .i64 (j : Int) ∧ s3 = .slice A3 M c3 ∧ M ≤ j ∧ Hid (M = (touchP (ks.take j)).length) ∧ Hid (HasP wr A3 (touchP (ks.take j))) ∧ Hid (Below W1.heap.size W1 wr)) (fun _ i _ => KL - (intOf i).toNat)
  case atStart => exact ⟨0, none, 0, 0, Nat.zero_le _, rfl, rfl, Nat.le_refl _, Lib.hid rfl, Lib.hid (fun h => absurd rfl h), Lib.hid (Below.refl _ _)⟩
  case round =>
    obtain ⟨j, A3, c3, M, hj, rfl, rfl, hMj, HM, HP, HB⟩ := hrel
    have x3 := (HB.out.cell (p := ⟨p, 3, none⟩) PP.out).trans X3.out
    by_cases hlt : j < KL
    · have hji : (j : Int) < KL := by omega
      have hj1 : j < ks.length := by have := HL.out; omega
      obtain ⟨b, o, e1, l1, f1⟩ := HA1.out (by rintro rfl; exact Nat.not_lt_zero _ hj1)
      subst e1
      obtain ⟨t, ht⟩ : ∃ t, t = ks[j] := ⟨_, rfl⟩
      have g1 := (HB.out.cell (p := ⟨b, o + j, none⟩) l1).trans (f1 j hj1)
      rw [← ht] at g1
      have HT := Lib.hid ht
      have HS := Lib.hid (touchP_succ hj1)
      clear ht f1
      go_wp2_with fail
      refine (With_any A3 M c3 (touchP (ks.take j)) t { data := #[] } wr HM.out (by omega) HP.out).mono ?_
      rintro e W4 ⟨v4, rfl, ho4, hb4⟩
      obtain ⟨r, hr⟩ : ∃ r, r = touchP (ks.take (j + 1)) := ⟨_, rfl⟩
      rw [HT.out, ← HS.out, ← hr] at ho4
      have hrl : r.length ≤ M + 1 := by have := withP_len (touchP (ks.take j)) ks[j] ⟨#[]⟩; rw [← HS.out, ← hr] at this; have := HM.out; omega
      obtain ⟨A4, c4, rfl, _⟩ := ho4.form
      obtain ⟨n4, hn4⟩ : ∃ n4, n4 = r.length := ⟨_, rfl⟩
      rw [← hn4] at ho4 hrl ⊢
      have O4 := Lib.hid ho4.has
      have B4 := Lib.hid (HB.out.trans (Below.mono hb4 HB.out.size))
      have N4 := Lib.hid (And.intro hn4 hr)
      clear ho4 hb4 hn4 hr x3 g1
      go_wp2
      refine ⟨⟨j + 1, A4, c4, n4, by omega, by congr 1, rfl, by omega, Lib.hid ?_, Lib.hid ?_, B4⟩, by simp only [intOf]; omega⟩
      · rw [← N4.out.2]; exact N4.out.1
      · rw [← N4.out.2]; exact O4.out
    · have hji : ¬ (j : Int) < KL := by omega
      obtain rfl : j = KL := by omega
      have HF : Hid (touchP (ks.take j) = touchP ks) := Lib.hid (by rw [HL.out, List.take_length])
      obtain ⟨r, hr⟩ : ∃ r, r = touchP ks := ⟨_, rfl⟩
      rw [HF.out, ← hr] at HM HP
      have HR := Lib.hid hr
      have BB := Lib.hid (XB.out.trans (Below.mono HB.out XB.out.size))
      clear hr HF HB
      have hMi : (M : Int) ≤ 1000 := by omega
      obtain ⟨B0, hB0⟩ : ∃ B0, B0 = wr.heap.size := ⟨_, rfl⟩
      have HB0 := Lib.hid (And.intro hB0 (show w.heap.size ≤ B0 by rw [hB0]; exact BB.out.size))
      clear hB0
      go_wp2
      go_loopw [5, 6] (fun s5 i wx => ∃ j : Nat, ∃ A5 c5, j ≤ M ∧ i = .int .i64 (j : Int) ∧ s5 = .slice A5 j c5 ∧ Hid (OwnS B0 wx (.slice A5 j c5) ((r.take j).map (·.1))) ∧ Hid (Below B0 wr wx) ∧ Hid (Below w.heap.size w wx)) (fun _ i _ => M - (intOf i).toNat)
      case atStart => exact ⟨0, none, 0, Nat.zero_le _, rfl, rfl, Lib.hid (OwnS.nil _ _), Lib.hid (Below.refl _ _), BB⟩
      case round =>
        clear x3
        obtain ⟨i, A5, c5, hi, rfl, rfl, HO, HB2, HBW⟩ := hrel
        by_cases hlt2 : i < M
        · have hii : (i : Int) < M := by omega
          have hi1 : i < r.length := by have := HM.out; omega
          obtain ⟨b, o, e1, l1, f1⟩ := HP.out (by rintro rfl; exact Nat.not_lt_zero _ hi1)
          subst e1
          obtain ⟨t, ht⟩ : ∃ t, t = r[i].1 := ⟨_, rfl⟩
          have g1 := (HB2.out.cell (p := ⟨b, o + i * 2, none⟩) (by rw [HB0.out.1]; exact l1)).trans (f1 i hi1).1
          rw [← ht] at g1
          obtain ⟨q, hq⟩ : ∃ q, q = (r.take i).map (·.1) := ⟨_, rfl⟩
          have HT := Lib.hid (show (r.take (i + 1)).map (·.1) = q ++ [t] by rw [List.take_succ_eq_append_getElem hi1, List.map_append, ht, hq]; rfl)
          have hql : q.length = i := by rw [hq, List.length_map, List.length_take]; omega
          rw [← hq] at HO
          have HN := Lib.hid (show (wr.alloc (.cells #[.string t] 9)).cell? ⟨wr.heap.size, 0, none⟩ = some (.string t) by rw [blk_cell (World.alloc_heap_new wr (.cells #[.string t] 9)) 0]; rfl)
          have hbn : Below wr.heap.size wr (wr.alloc (.cells #[.string t] 9)) := (Below.refl _ wr).alloc (Nat.le_refl _) _
          have HBN := Lib.hid hbn
          have HQ := Lib.hid hql
          have HS0 := Lib.hid (show B0 ≤ wr.heap.size by rw [HB0.out.1]; exact HB2.out.size)
          clear ht f1 hq hbn hql
          go_wp2_with (first | (at_builtin; refine wpList_append_S rfl (.tmp 27) (.tmp 33) rfl B0 (.slice A5 i c5) q rfl (HO.out.below HBN.out) wr.heap.size 1 t rfl HN.out (by rw [HQ.out]; omega) (Nat.le_trans HS0.out (by simp)) ?_; intro v6 U6 hown6 hg6; have hb6 : Below w.heap.size w U6 := (HBW.out.trans (Below.mono HBN.out HBW.out.size)).grown hg6 (Nat.le_trans HBW.out.size (by simp)) (fun x e => Nat.le_trans HB0.out.2 (World.ownsRow.lt HO.out x e).1); have B7 := Lib.hid ((HB2.out.trans (Below.mono HBN.out HS0.out)).grown hg6 (Nat.le_trans HS0.out (by simp)) (fun x e => (World.ownsRow.lt HO.out x e).1)); have O6 := Lib.hid hown6; have B6 := Lib.hid hb6; have G6 := Lib.hid hg6; obtain ⟨A6, c6, hv6, _⟩ := hown6.form; rw [List.length_append, HQ.out] at hv6; replace hv6 : v6 = .slice A6 (i + 1) c6 := hv6; subst hv6; clear hown6 hg6 hb6) | fail)
          refine ⟨⟨i + 1, A6, c6, by omega, by congr 1, rfl, Lib.hid ?_, B7, B6⟩, by simp only [intOf]; omega⟩
          rw [HT.out]
          exact O6.out
        · have hii : ¬ (i : Int) < M := by omega
          obtain rfl : i = M := by omega
          have HE : Hid ((r.take i).map (·.1) = touchK ks) := Lib.hid (by rw [HM.out, List.take_length, HR.out, touchK])
          rw [HE.out] at HO
          go_wp2
          go_ret
          exact ⟨_, rfl, HO.out.mono HB0.out.2, HBW.out⟩
end Go.Proofs.Ytooaobadnainkaa
