/- The walk of the law CmdTells. -/
import Derived.Test.YtfaplmpenlbajaaDoorCmTellsR
namespace Go.Proofs.YtfaplmpenlbajaaDoor
open Go.RowKit

set_option maxRecDepth 100000 in
set_option maxHeartbeats 8000000 in
theorem Tells_any {T : World → Prop} (K : CmdK T) (A : Option Addr) (L c : Nat) (l : List CmdV) (xa xb : CmdV) (w : World) (hT : T w) (hl : L = l.length) (hLc : L ≤ c) (hL : L ≤ 140737488351232) (hA : HasC w A l) (ha : xa.ok w) (hb : xb.ok w) :
    Calls Tryd.prog 3 #[.slice A L c, xa.val, xb.val] w fun e W' => e = .returned (.bool true) ∧ Below w.heap.size w W' := by
  have HL := Lib.hid (And.intro hl (And.intro hLc hL))
  have HA := Lib.hid hA
  have OKA := Lib.hid ha
  have HT := Lib.hid hT
  clear hT
  have OKB := Lib.hid hb
  clear hl hLc hL hA ha hb
  obtain ⟨acl, asq, akd, KA, KL, kc, aks, aold, anew, an⟩ := xa
  obtain ⟨bcl, bsq, bkd, MA, ML, mc, bks, bold, bnew, bn⟩ := xb
  simp only [CmdV.val, CmdV.cells]
  go_enter Tryd.func3, Tryd.ntmps3
  go_upto_region 1 with (fail)
  obtain ⟨W0, hW0⟩ : ∃ W0, W0 = (w.alloc (Obj.cells #[.int .u32 (acl : Int), .int .u32 (asq : Int), .int .u8 (akd : Int), .slice KA KL kc, .string aold, .string anew, .int .i64 an] 26)).alloc (Obj.cells #[.int .u32 (bcl : Int), .int .u32 (bsq : Int), .int .u8 (bkd : Int), .slice MA ML mc, .string bold, .string bnew, .int .i64 bn] 26) := ⟨_, rfl⟩
  rw [← hW0]
  obtain ⟨pb, hpb⟩ : ∃ pb, pb = w.heap.size + 1 := ⟨_, rfl⟩
  obtain ⟨pa, hpa⟩ : ∃ pa, pa = w.heap.size := ⟨_, rfl⟩
  have hB : Below w.heap.size w W0 := by rw [hW0]; exact ((Below.refl _ w).alloc (Nat.le_refl _) _).alloc (by simp) _
  have k2 : W0.heap[pb]? = some (.cells #[.int .u32 (bcl : Int), .int .u32 (bsq : Int), .int .u8 (bkd : Int), .slice MA ML mc, .string bold, .string bnew, .int .i64 bn] 26 (0, 0)) := by
    rw [hW0, hpb]
    have := World.alloc_heap_new (w.alloc (Obj.cells #[.int .u32 (acl : Int), .int .u32 (asq : Int), .int .u8 (akd : Int), .slice KA KL kc, .string aold, .string anew, .int .i64 an] 26)) (Obj.cells #[.int .u32 (bcl : Int), .int .u32 (bsq : Int), .int .u8 (bkd : Int), .slice MA ML mc, .string bold, .string bnew, .int .i64 bn] 26)
    rw [World.size_alloc] at this
    exact this
  have k1 : W0.heap[pa]? = some (.cells #[.int .u32 (acl : Int), .int .u32 (asq : Int), .int .u8 (akd : Int), .slice KA KL kc, .string aold, .string anew, .int .i64 an] 26 (0, 0)) := by
    rw [hW0, hpa, Below.heap_alloc _ _ _ (by simp)]
    exact World.alloc_heap_new w _
  rw [← hpb, ← hpa]
  have B0 := Lib.hid hB
  have HK := Lib.hid (And.intro k1 k2)
  clear hW0 hpa hpb hB k1 k2
  go_wp2_with fail
  refine (GreatC_any A L c l HL.out.1 HL.out.2.2 W0 (HA.out.below B0.out)).mono ?_
  rintro e V1 ⟨he, hb⟩
  have B1 := Lib.hid (B0.out.trans (Below.mono hb B0.out.size))
  have B01 := Lib.hid hb
  cases hg : GreatB l with
  | true =>
    rw [hg] at he
    subst he
    clear hb hg
    go_wp2_with fail
    refine (wakes8 K _ (K.grew HT.out B1.out)).mono ?_
    rintro e V9 ⟨rfl, hb9⟩
    have B9 := Lib.hid (B1.out.trans (Below.mono hb9 B1.out.size))
    clear hb9
    go_wp2
    go_ret
    exact ⟨rfl, B9.out⟩
  | false =>
    rw [hg] at he
    subst he
    have HG := Lib.hid hg
    have k1 := (hb.block pa (Array.getElem?_eq_some_iff.1 HK.out.1).1).trans HK.out.1
    have k2 := (hb.block pb (Array.getElem?_eq_some_iff.1 HK.out.2).1).trans HK.out.2
    have x0 := blk_cell k1 0
    have y0 := blk_cell k2 0
    have x1 := blk_cell k1 1
    have y1 := blk_cell k2 1
    have x2 := blk_cell k1 2
    have y2 := blk_cell k2 2
    have x3 := blk_cell k1 3
    have y3 := blk_cell k2 3
    have x4 := blk_cell k1 4
    have y4 := blk_cell k2 4
    have x5 := blk_cell k1 5
    have y5 := blk_cell k2 5
    have x6 := blk_cell k1 6
    have y6 := blk_cell k2 6
    simp at x0 y0 x1 y1 x2 y2 x3 y3 x4 y4 x5 y5 x6 y6
    have HK1 := Lib.hid (And.intro k1 k2)
    have OKA1 := Lib.hid (OKA.out.below B1.out)
    have OKB1 := Lib.hid (OKB.out.below B1.out)
    clear hb hg k1 k2
    go_wp2_with fail
    refine (GreatC_any (some ⟨V1.heap.size, 0, none⟩) 2 2 [(⟨acl, asq, akd, KA, KL, kc, aks, aold, anew, an⟩ : CmdV), (⟨bcl, bsq, bkd, MA, ML, mc, bks, bold, bnew, bn⟩ : CmdV)] rfl (by omega) _ (HasC.two (b := V1.heap.size) (World.alloc_heap_new V1 _) (OKA1.out.below ((Below.refl _ V1).alloc (Nat.le_refl _) _)) (OKB1.out.below ((Below.refl _ V1).alloc (Nat.le_refl _) _)))).mono ?_
    rintro e V2 ⟨he, hb⟩
    have hb2 : Below V1.heap.size V1 V2 := ((Below.refl V1.heap.size V1).alloc (Nat.le_refl _) _).trans (Below.mono hb (by simp))
    have B2 := Lib.hid (B1.out.trans (Below.mono hb2 B1.out.size))
    have B12 := Lib.hid hb2
    clear x0 y0 x1 y1 x2 y2 x3 y3 x4 y4 x5 y5 x6 y6
    cases hg : GreatB [(⟨acl, asq, akd, KA, KL, kc, aks, aold, anew, an⟩ : CmdV), (⟨bcl, bsq, bkd, MA, ML, mc, bks, bold, bnew, bn⟩ : CmdV)] with
    | true =>
      rw [hg] at he
      subst he
      clear hb hb2 hg
      go_wp2_with fail
      refine (wakes8 K _ (K.grew HT.out B2.out)).mono ?_
      rintro e V9 ⟨rfl, hb9⟩
      have B9 := Lib.hid (B2.out.trans (Below.mono hb9 B2.out.size))
      clear hb9
      go_wp2
      go_ret
      exact ⟨rfl, B9.out⟩
    | false =>
      rw [hg] at he
      subst he
      have hng : ¬ GreatC l := fun h => by have := GreatB_iff.2 h; rw [HG.out] at this; cases this
      have hng2 : ¬ GreatC [(⟨acl, asq, akd, KA, KL, kc, aks, aold, anew, an⟩ : CmdV), (⟨bcl, bsq, bkd, MA, ML, mc, bks, bold, bnew, bn⟩ : CmdV)] := fun h => by have := GreatB_iff.2 h; rw [hg] at this; cases this
      have hL1 : L ≤ 100 := Nat.le_of_not_lt (fun h => hng (.inl (by rw [← HL.out.1]; exact h)))
      have SHL := Lib.hid (show ∀ a ∈ l, a.m.Short from fun a ha => by
        obtain ⟨j, hj, rfl⟩ := List.getElem_of_mem ha
        exact CmdV.short (fun h => hng (.inr ⟨j, hj, h⟩)))
      have SHA := Lib.hid (CmdV.short (a := (⟨acl, asq, akd, KA, KL, kc, aks, aold, anew, an⟩ : CmdV)) (fun h => hng2 (.inr ⟨0, by simp, h⟩)))
      have SHB := Lib.hid (CmdV.short (a := (⟨bcl, bsq, bkd, MA, ML, mc, bks, bold, bnew, bn⟩ : CmdV)) (fun h => hng2 (.inr ⟨1, by simp, h⟩)))
      clear hb hb2 hg hng hng2
      go_wp2_with fail
      refine (K.batch A L c l V2 (K.grew HT.out B2.out) HL.out.1 HL.out.2.1 hL1 (HA.out.below B2.out) SHL.out).mono ?_
      rintro e V3 ⟨v7, rfl, hv7, hb3⟩
      obtain ⟨X, hX⟩ : ∃ X, X = (batchR (l.map CmdV.m)).1 := ⟨_, rfl⟩
      obtain ⟨er, her⟩ : ∃ er, er = (batchR (l.map CmdV.m)).2 := ⟨_, rfl⟩
      have HXE := Lib.hid (And.intro hX her)
      rw [← hX] at hv7
      rw [← her]
      obtain ⟨A7, L7, c7, rfl, hL7, -, hA7⟩ := hv7
      have B3' := Lib.hid (B2.out.trans (Below.mono hb3 B2.out.size))
      have B13 := Lib.hid (B12.out.trans (Below.mono hb3 B12.out.size))
      have H7 := Lib.hid (And.intro hL7 hA7)
      clear hX her hb3 hL7 hA7
      go_wp2_with fail
      refine (refBatch_any A L c l V3 HL.out.1 hL1 (HA.out.below B3'.out) SHL.out).mono ?_
      rintro e V5 ⟨v9, rfl, hv9, hb5⟩
      rw [← HXE.out.1] at hv9
      rw [← HXE.out.2]
      obtain ⟨A9, L9, c9, rfl, hL9, -, hA9⟩ := hv9
      have B3 := Lib.hid (B3'.out.trans (Below.mono hb5 B3'.out.size))
      have B15 := Lib.hid (B13.out.trans (Below.mono hb5 B13.out.size))
      have HX7 := Lib.hid (And.intro H7.out.1 (H7.out.2.below' hb5))
      have HX9 := Lib.hid (And.intro hL9 hA9)
      have OKA3 := Lib.hid (OKA1.out.below B15.out)
      have OKB3 := Lib.hid (OKB1.out.below B15.out)
      have PB3 := Lib.hid (And.intro ((B15.out.block pa (Array.getElem?_eq_some_iff.1 HK1.out.1).1).trans HK1.out.1) ((B15.out.block pb (Array.getElem?_eq_some_iff.1 HK1.out.2).1).trans HK1.out.2))
      clear hb5 hL9 hA9
      go_wp2
      cases hmy : (CmdV.m (⟨acl, asq, akd, KA, KL, kc, aks, aold, anew, an⟩ : CmdV)).may with
      | true =>
        refine tells_TT T K (⟨acl, asq, akd, KA, KL, kc, aks, aold, anew, an⟩ : CmdV) (⟨bcl, bsq, bkd, MA, ML, mc, bks, bold, bnew, bn⟩ : CmdV) pa pb A7 L7 c7 A9 L9 c9 er X _ hmy SHA.out SHB.out HX7.out.1 HX9.out.1 _ _ _ rfl rfl rfl rfl rfl rfl rfl rfl (K.grew HT.out B3.out) OKA3.out OKB3.out PB3.out.1 PB3.out.2 HX7.out.2 HX9.out.2 ?_
        intro v46 v47 v49 v52 V4 _ _ _ _ hb4
        have B4 := Lib.hid (B3.out.trans (Below.mono hb4 B3.out.size))
        clear hb4
        simp only [puts, List.foldl_cons, List.foldl_nil, Act.put, List.setIfInBounds_toArray, List.set_cons_succ, List.set_cons_zero]
        go_wp2
        go_ret
        exact ⟨rfl, B4.out⟩
      | false =>
        refine tells_TF T K (⟨acl, asq, akd, KA, KL, kc, aks, aold, anew, an⟩ : CmdV) (⟨bcl, bsq, bkd, MA, ML, mc, bks, bold, bnew, bn⟩ : CmdV) pa pb A7 L7 c7 A9 L9 c9 er X _ hmy SHA.out SHB.out HX7.out.1 HX9.out.1 _ _ _ rfl rfl rfl rfl rfl rfl rfl rfl (K.grew HT.out B3.out) OKA3.out OKB3.out PB3.out.1 PB3.out.2 HX7.out.2 HX9.out.2 ?_
        intro v46 v47 v49 v52 V4 _ _ _ _ hb4
        have B4 := Lib.hid (B3.out.trans (Below.mono hb4 B3.out.size))
        clear hb4
        simp only [puts, List.foldl_cons, List.foldl_nil, Act.put, List.setIfInBounds_toArray, List.set_cons_succ, List.set_cons_zero]
        go_wp2
        go_ret
        exact ⟨rfl, B4.out⟩
end Go.Proofs.YtfaplmpenlbajaaDoor
