/- The law's wakes: a command that is known. -/
import Derived.Test.YtfaplmpenlbajaaDoorCmWkR
import Derived.Deep.DeepCutAuto
namespace Go.Proofs.YtfaplmpenlbajaaDoor
open Go.RowKit

/-- The command that is known; its key lies in block S. -/
def wkV (S : Nat) : CmdV := ⟨1, 1, 1, some ⟨S, 0, none⟩, 1, 1, [⟨#[107]⟩], ⟨#[]⟩, ⟨#[120]⟩, 0⟩
def wkM : CM := ⟨1, 1, 1, [⟨#[107]⟩], ⟨#[]⟩, ⟨#[120]⟩, 0⟩
theorem wkV_m (S : Nat) : (wkV S).m = wkM := rfl
theorem wk_may : wkM.May := ⟨by decide, fun k hk => by
    obtain rfl : k = ⟨#[107]⟩ := by simpa [wkM] using hk
    decide, by decide, by decide, by decide, by decide, by decide, by decide, by decide⟩
theorem wk_wf : wkM.Wf := ⟨by decide, by decide, by decide, by decide⟩
theorem wk_mayB : MayB [wkM] := ⟨by simp, fun m hm => by
  obtain rfl : m = wkM := by simpa using hm
  exact wk_may⟩
theorem wk_short : wkM.Short := ⟨by decide, fun k hk => by
    obtain rfl : k = ⟨#[107]⟩ := by simpa [wkM] using hk
    decide, by decide, by decide⟩
theorem wk_bytes : batchM [wkM] = [1, 1, 1, 1, 1, 1, 107, 0, 1, 120, 0] := by
  have e1 : vb 1 = [1] := by rw [vb_lt (by omega)]; rfl
  have e0 : vb 0 = [0] := by rw [vb_lt (by omega)]; rfl
  have s1 : (⟨#[107]⟩ : ByteArray).size = 1 := rfl
  have s2 : (⟨#[120]⟩ : ByteArray).size = 1 := rfl
  have s0 : ByteArray.empty.size = 0 := rfl
  have s3 : (⟨#[]⟩ : ByteArray).size = 0 := rfl
  simp [batchM, CM.one, txt, wkM, e1, e0, foldN, s1, s2, s3]
theorem wk_ok {w : World} {S : Nat} (h : w.heap[S]? = some (.cells #[.string ⟨#[107]⟩] 9 (0, 0))) : (wkV S).ok w where
  cl := (by decide : (1 : Nat) < 4294967296)
  sq := (by decide : (1 : Nat) < 4294967296)
  kd := (by decide : (1 : Nat) < 256)
  n := (by decide : -9223372036854775808 ≤ (0 : Int) ∧ (0 : Int) ≤ 9223372036854775807)
  len := rfl
  max := (by decide : (1 : Nat) ≤ 140737488351232)
  has := fun _ => ⟨S, 0, rfl, (Array.getElem?_eq_some_iff.1 h).1, fun j hj => by
    obtain rfl : j = 0 := by simpa [wkV] using hj
    rw [blk_cell h]
    rfl⟩
  each := fun k hk => by
    obtain rfl : k = ⟨#[107]⟩ := by simpa [wkV] using hk
    decide
  old := (by decide : (⟨#[]⟩ : ByteArray).size ≤ maxLen)
  new := (by decide : (⟨#[120]⟩ : ByteArray).size ≤ maxLen)

set_option maxRecDepth 100000 in
set_option maxHeartbeats 8000000 in
theorem wakes8 {T : World → Prop} (K : CmdK T) (w : World) (hT : T w) : Calls Tryd.prog 7 #[] w fun e W' => e = .returned (.bool true) ∧ Below w.heap.size w W' := by
  go_enter Tryd.func7, Tryd.ntmps7
  go_upto_region 2 with (fail)
  obtain ⟨S, hS⟩ : ∃ S, S = w.heap.size := ⟨_, rfl⟩
  obtain ⟨W1, hW1⟩ : ∃ W1, W1 = (w.alloc (Obj.cells #[.string ⟨#[107]⟩] 9)).alloc (Obj.cells #[.int .u32 1, .int .u32 1, .int .u8 1, .slice (some ⟨S, 0, none⟩) 1 1, .string ⟨#[]⟩, .string ⟨#[120]⟩, .int .i64 0] 26) := ⟨_, rfl⟩
  rw [← hS]
  rw [← hW1]
  obtain ⟨pc, hpc⟩ : ∃ pc, pc = S + 1 := ⟨_, rfl⟩
  rw [← hpc]
  have hB1 : Below w.heap.size w W1 := by rw [hW1]; exact ((Below.refl _ w).alloc (Nat.le_refl _) _).alloc (by simp) _
  have hk1 : W1.heap[pc]? = some (.cells (wkV S).cells 26 (0, 0)) := by
    rw [hW1, hpc, hS]
    have := World.alloc_heap_new (w.alloc (Obj.cells #[.string ⟨#[107]⟩] 9)) (Obj.cells #[.int .u32 1, .int .u32 1, .int .u8 1, .slice (some ⟨w.heap.size, 0, none⟩) 1 1, .string ⟨#[]⟩, .string ⟨#[120]⟩, .int .i64 0] 26)
    rw [World.size_alloc] at this
    exact this
  have hk0 : W1.heap[S]? = some (.cells #[.string ⟨#[107]⟩] 9 (0, 0)) := by
    rw [hW1, hS, Below.heap_alloc _ _ _ (by simp)]
    exact World.alloc_heap_new w _
  have x0 := blk_cell hk1 0
  have x1 := blk_cell hk1 1
  have x2 := blk_cell hk1 2
  have x3 := blk_cell hk1 3
  have x4 := blk_cell hk1 4
  have x5 := blk_cell hk1 5
  have x6 := blk_cell hk1 6
  simp [wkV, CmdV.cells] at x0 x1 x2 x3 x4 x5 x6
  have B1 := Lib.hid hB1
  have HT := Lib.hid hT
  clear hT
  have HK := Lib.hid (And.intro hk1 (wk_ok hk0))
  clear hS hW1 hpc hB1 hk1 hk0
  go_wp2_with fail
  refine (K.batch (some ⟨W1.heap.size, 0, none⟩) 1 1 [wkV S] _ (K.grew HT.out (B1.out.trans (Below.mono ((Below.refl W1.heap.size W1).alloc (Nat.le_refl _) _) B1.out.size))) rfl (by omega) (by omega) (HasC.one (b := W1.heap.size) (World.alloc_heap_new W1 _) (HK.out.2.below ((Below.refl _ W1).alloc (Nat.le_refl _) _))) (fun a ha => by obtain rfl : a = wkV S := (by simpa using ha); exact wk_short)).mono ?_
  rintro e W2 ⟨v, he, hv, hb⟩
  obtain ⟨X, hX⟩ : ∃ X, X = batchM [wkM] := ⟨_, rfl⟩
  rw [List.map_cons, List.map_nil, wkV_m, batchR_ok wk_mayB, ← hX] at he hv
  dsimp only at he hv
  have HXB := Lib.hid hX
  have hX11 : X.length = 11 := by rw [hX, wk_bytes]; rfl
  have hb2 : Below W1.heap.size W1 W2 := ((Below.refl W1.heap.size W1).alloc (Nat.le_refl _) _).trans (Below.mono hb (by simp))
  subst he
  obtain ⟨A2, L2, c2, rfl, hL2, hLc2, hA2⟩ := hv
  have hl11 : L2 ≤ 10000 := by omega
  have B2 := Lib.hid (B1.out.trans (Below.mono hb2 B1.out.size))
  have BB := Lib.hid hb2
  have HV := Lib.hid (And.intro hL2 (And.intro hLc2 hA2))
  clear hX hX11 hb hb2 hL2 hA2 x0 x1 x2 x3 x4 x5 x6
  go_wp2_with fail
  refine (K.parse A2 L2 c2 X W2 (K.grew HT.out B2.out) HV.out.1 HV.out.2.1 hl11 HV.out.2.2).mono ?_
  rintro e W3 ⟨v, l, n, rfl, ht, hr, hb⟩
  obtain ⟨rfl, hl⟩ := hr.back [wkM] wk_mayB (fun m hm => by obtain rfl : m = wkM := (by simpa using hm); exact wk_wf) HXB.out
  obtain ⟨x, rfl, hx⟩ : ∃ x, l = [x] ∧ x.m = wkM := by
    rcases l with _ | ⟨x, _ | ⟨y, l⟩⟩
    · simp at hl
    · exact ⟨x, rfl, by simpa using hl⟩
    · simp at hl
  obtain ⟨A3, L3, c3, rfl, hL3, hLc3, hA3⟩ := ht.ex
  obtain rfl : L3 = 1 := hL3
  obtain ⟨b1, o1, rfl, hb1, hf1⟩ := hA3 (by simp)
  have hxx := hf1 0 (by simp)
  have B3 := Lib.hid (B2.out.trans (Below.mono hb B2.out.size))
  have B13 := Lib.hid (BB.out.trans (Below.mono hb BB.out.size))
  have HX := Lib.hid (And.intro hb1 hxx)
  have HV3 := Lib.hid (HV.out.2.2.below' hb)
  have HM := Lib.hid hx
  clear hb hf1 hxx hb1 hA3 ht hr hl hx
  go_wp2
  refine wakes_region T K (wkV S) x pc b1 o1 c3 A2 L2 c2 X (CM.may_iff.2 wk_may) wk_short (CmdV.same_m.2 HM.out) (HXB.out.trans wk_bytes) HV.out.1 _ _ _ rfl rfl rfl rfl rfl rfl (K.grew HT.out B3.out) (HK.out.2.below B13.out) ((B13.out.block pc (Array.getElem?_eq_some_iff.1 HK.out.1).1).trans HK.out.1) HX.out.2.2 HX.out.1 HX.out.2.1 HV3.out ?_
  intro W4 hg
  have B4 := Lib.hid (B3.out.trans (Below.mono hg B3.out.size))
  clear hg
  simp only [puts, List.foldl_cons, List.foldl_nil, Act.put, List.setIfInBounds_toArray, List.set_cons_succ, List.set_cons_zero]
  go_wp2
  go_ret
  exact ⟨rfl, B4.out⟩
end Go.Proofs.YtfaplmpenlbajaaDoor
