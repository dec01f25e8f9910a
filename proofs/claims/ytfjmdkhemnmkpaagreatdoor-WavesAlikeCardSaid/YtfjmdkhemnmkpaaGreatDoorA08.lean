/- Parts of the proof: MKqD, SsMath, SsR, SsSet. -/
import Derived.Test.YtfjmdkhemnmkpaaGreatDoorA07
import Derived.Carry
import Derived.Test.YtfjmdkhemnmkpaaGreatDoorA02
import Derived.Test.YtfjmdkhemnmkpaaGreatDoorA01
import Derived.Test.YtfjmdkhemnmkpaaGreatDoorProg
import Derived.Test.YtfjmdkhemnmkpaaGreatDoorRows
import Derived.Laws.BitsAllLaws
import Derived.Laws.Bits64
import Derived.Laws.BitsLemmas
import Derived.Below
import Derived.Laws.OwnMore
import Derived.Laws.MakeOwn
import Derived.Laws.CopyRow
import Derived.Laws.IdiomCopy
import Derived.Laws.BytesArg
import Derived.Shelf.Bytes.SlSmallAll
import Derived.Deep.AppendLies
import Derived.Deep.AppendSrc
import Derived.OwnWalk
import Derived.BigFrame
import Derived.OwnWalkIn
import Derived.Maps.AppendAt
import Derived.OrdersIn
import Derived.RangeFuncBox
import Derived.WalkKit
import Derived.Lib.Hide
import Derived.Lib.SliceRun
import Derived.ProofKit
import Derived.Deep.RegionHeld3
import Derived.RangeFuncNested
import Derived.RangeFuncBound
import Derived.RangeFuncCalls
import Derived.RangeFuncLeaves
namespace Go.Proofs.YtfjmdkhemnmkpaaGreatDoor
open Go.RowKit Go.Maps Go.WideMaps Go.Shelf
def effL : List (Nat × FuncId) := [(1, 88), (2, 89), (3, 90), (4, 91), (5, 92), (6, 93), (7, 94), (8, 95)]
def funcR (v : Value) : Option (DataW FuncId × List MemPlace) := match v with
  | .func (.func f) cs bs => if cs.size = 0 ∧ bs.size = 0 then some (.held f, []) else some (.nil, [])
  | _ => some (.nil, [])
theorem funcR_inv {v : Value} {f : FuncId} {ps : List MemPlace} (h : funcR v = some (.held f, ps)) : v = .func (.func f) #[] #[] := by
  unfold funcR at h
  split at h
  · split at h
    · rename_i f' cs bs hc
      cases h
      rw [Array.eq_empty_of_size_eq_zero hc.1, Array.eq_empty_of_size_eq_zero hc.2]
    · cases h
  · cases h
theorem funcR_mk (f : FuncId) : funcR (.func (.func f) #[] #[]) = some (.held f, []) := rfl
theorem funcR_some (v : Value) : ∃ zd zp, funcR v = some (zd, zp) := by
  unfold funcR
  split
  · split
    · exact ⟨_, _, rfl⟩
    · exact ⟨_, _, rfl⟩
  · exact ⟨_, _, rfl⟩
theorem zeroF (w : World) : ∃ z, (zeroValue 133).run Tryz.prog w = .ok z w := by
  have h : ((Tryz.prog.info? 133).bind (·.zero)).isSome = true := by kernel_rfl
  cases hi : Tryz.prog.info? 133 with
  | none => rw [hi] at h; cases h
  | some i =>
    cases hz : i.zero with
    | none => rw [hi] at h; simp [hz] at h
    | some v => exact ⟨v, by simp [zeroValue, typeInfo, hi, hz]⟩
theorem keyedU : Maps.Keyed Tryz.prog 5 := Maps.int_keyed Tryz.underlying5
def effD (l : List (Nat × FuncId)) : DataW FuncId := l.foldl (fun D p => D.put (.int .u8 (p.1 : Int)) (.held p.2)) (.map [])
theorem eff_at : ∀ p ∈ effL, ∀ z, (effD effL).atKey (.int .u8 (p.1 : Int)) z = .held p.2 := by
  intro p hp z
  simp only [effL, List.mem_cons, List.not_mem_nil, or_false] at hp
  rcases hp with rfl | rfl | rfl | rfl | rfl | rfl | rfl | rfl <;> rfl
def EffM (w : World) (b n : Nat) (l : List (Nat × FuncId)) : Prop := w.ownsMap Tryz.prog 5 funcR b n (effD l)
theorem EffM.put {w : World} {b n : Nat} {l : List (Nat × FuncId)} (h : EffM w b n l) (hn : n < maxLen) (k : Nat) (i : Int) (hi : i = (k : Int)) (hk : (Lit.int .u8 (k : Int)).wf = true) (f : FuncId) : ∃ w', (Instr.mapUpdate 134 (.map (some b)) (.int .u8 i) (.func (.func f) #[] #[])).run Tryz.prog w = .ok () w' ∧ EffM w' b (n + 1) (l ++ [(k, f)]) ∧ w.grownBy w' (some b) := by
  obtain ⟨w', hrun, h1, h2⟩ := World.ownsMap.update h keyedU Tryz.underlying134 hn (keyOf_int_mk Tryz.underlying5 hk) (funcR_mk f)
  subst hi
  refine ⟨w', hrun, ?_, h2⟩
  unfold EffM effD
  rw [List.foldl_append]
  exact h1
theorem EffM.look {w : World} {b n : Nat} (h : EffM w b n effL) (p : Nat × FuncId) (hp : p ∈ effL) (hk : (Lit.int .u8 (p.1 : Int)).wf = true) : (Instr.lookup 134 (.map (some b)) (.int .u8 (p.1 : Int)) false).run Tryz.prog w = .ok (.func (.func p.2) #[] #[]) w := by
  obtain ⟨z, hz⟩ := zeroF w
  obtain ⟨zd, zp, hzd⟩ := funcR_some z
  obtain ⟨v, ps, hrun, hv⟩ := World.ownsMap.lookup h keyedU Tryz.underlying134 hz hzd (keyOf_int_mk Tryz.underlying5 hk)
  rw [eff_at p hp] at hv
  rw [funcR_inv hv] at hrun
  exact hrun
theorem eff_wf : ∀ p ∈ effL, (Lit.int .u8 (p.1 : Int)).wf = true := by
  intro p hp
  simp only [effL, List.mem_cons, List.not_mem_nil, or_false] at hp
  rcases hp with rfl | rfl | rfl | rfl | rfl | rfl | rfl | rfl <;> rfl
structure EffQ (w W : World) (b : Nat) : Prop where
  map : ∃ n, EffM W b n effL
  new : w.heap.size ≤ b
  below : Below w.heap.size w W
set_option maxRecDepth 100000 in
theorem effects_any (w : World) : Calls Tryz.prog 65 #[] w fun e W' => ∃ b, e = .returned (.map (some b)) ∧ EffQ w W' b := by
  have h0 : EffM (w.alloc (.map #[] 0)) w.heap.size 0 [] := World.ownsMap_made w _ _ _
  have b0 : Below w.heap.size w (w.alloc (.map #[] 0)) := (Below.refl _ w).alloc (Nat.le_refl _) _
  have hmk := run_makeMap (P := Tryz.prog) 134 w
  obtain ⟨W1, r1, h1, g1⟩ := h0.put (by decide) 1 1 rfl rfl 88
  obtain ⟨W2, r2, h2, g2⟩ := h1.put (by decide) 2 2 rfl rfl 89
  obtain ⟨W3, r3, h3, g3⟩ := h2.put (by decide) 3 3 rfl rfl 90
  obtain ⟨W4, r4, h4, g4⟩ := h3.put (by decide) 4 4 rfl rfl 91
  obtain ⟨W5, r5, h5, g5⟩ := h4.put (by decide) 5 5 rfl rfl 92
  obtain ⟨W6, r6, h6, g6⟩ := h5.put (by decide) 6 6 rfl rfl 93
  obtain ⟨W7, r7, h7, g7⟩ := h6.put (by decide) 7 7 rfl rfl 94
  obtain ⟨W8, r8, h8, g8⟩ := h7.put (by decide) 8 8 rfl rfl 95
  have gr : ∀ {A B : World}, Below w.heap.size w A → A.grownBy B (some w.heap.size) → Below w.heap.size w B := fun hb hg => hb.grown hg hb.size (fun k e => by cases e; exact Nat.le_refl _)
  have b8 := gr (gr (gr (gr (gr (gr (gr (gr b0 g1) g2) g3) g4) g5) g6) g7) g8
  have HF : Hid (EffQ w W8 w.heap.size) := Lib.hid ⟨⟨_, h8⟩, Nat.le_refl _, b8⟩
  obtain ⟨N, hN⟩ : ∃ N, N = w.heap.size := ⟨_, rfl⟩
  rw [← hN] at r1 r2 r3 r4 r5 r6 r7 r8 HF hmk
  clear h0 h1 h2 h3 h4 h5 h6 h7 h8 g1 g2 g3 g4 g5 g6 g7 g8 gr b0 b8 hN
  go_enter Tryz.func65, Tryz.ntmps65
  go_wp2
  go_ret
  exact ⟨N, rfl, HF.out⟩
end Go.Proofs.YtfjmdkhemnmkpaaGreatDoor
namespace Go.Proofs.YtfjmdkhemnmkpaaGreatDoor
open Go.RowKit Go.Maps Go.WideMaps Go.Shelf
theorem eff_enters : ∀ p ∈ effL, Enters Tryz.prog p.2 := by
  intro p hp
  simp only [effL, List.mem_cons, List.not_mem_nil, or_false] at hp
  rcases hp with rfl | rfl | rfl | rfl | rfl | rfl | rfl | rfl
  · exact enters_of Tryz.func88 (by kernel_rfl) rfl
  · exact enters_of Tryz.func89 (by kernel_rfl) rfl
  · exact enters_of Tryz.func90 (by kernel_rfl) rfl
  · exact enters_of Tryz.func91 (by kernel_rfl) rfl
  · exact enters_of Tryz.func92 (by kernel_rfl) rfl
  · exact enters_of Tryz.func93 (by kernel_rfl) rfl
  · exact enters_of Tryz.func94 (by kernel_rfl) rfl
  · exact enters_of Tryz.func95 (by kernel_rfl) rfl
theorem Chg.to {w0 w W : World} {R : Nat} {m : Option Nat} {l : List PV} (h : Chg w W R m l) (hb : Below w0.heap.size w0 w) : Chg w0 W R m l := Chg.trans (fun _b e => .inl e) (Only.of_grew hb) h
set_option maxRecDepth 100000 in
set_option maxHeartbeats 4000000 in
theorem Do_may (R : Nat) (m : Option Nat) (l : List PV) (r : List PV × Nat × ByteArray) (a : CmdV) (w : World) (h : StQ w R m l) (hT : TabK w) (ha : a.ok w) (hm : a.m.may = true) (f : FuncId) (hf : (a.kd, f) ∈ effL)
    (hc : ∀ W, Below w.heap.size w W → Calls Tryz.prog f #[.pointer (some ⟨R, 0, none⟩), a.val] W fun e W' => e = .returned (ReplyV r.2) ∧ Chg W W' R m r.1) :
    Calls Tryz.prog 43 #[.pointer (some ⟨R, 0, none⟩), a.val] w fun e W' => e = .returned (ReplyV r.2) ∧ Chg w W' R m r.1 := by
  have hC : ∀ W, Below w.heap.size w W → Calls Tryz.prog 64 #[a.val] W fun e W' => e = .returned (.int .i64 0) ∧ Below W.heap.size W W' := fun W hb => (Check_any a W (hT.keys.grew hb) (ha.below hb)).mono fun e W' ⟨he, hb'⟩ => ⟨by rw [he, hm]; rfl, hb'⟩
  have HC := Lib.hid hC
  have HCC := Lib.hid hc
  obtain ⟨acl, asq, akd, A, L, c, ks, old, new, n⟩ := a
  simp only at hf
  simp only [CmdV.val, CmdV.cells] at HC HCC ⊢
  have HF := Lib.hid hf
  have H := Lib.hid h
  clear hC h hT ha hm hc hf
  go_enter Tryz.func43, Tryz.ntmps43
  go_upto_region 1 with (fail)
  obtain ⟨W0, hW0⟩ : ∃ W0, W0 = w.alloc (Obj.cells #[.int .u32 (acl : Int), .int .u32 (asq : Int), .int .u8 (akd : Int), .slice A L c, .string old, .string new, .int .i64 n] 57) := ⟨_, rfl⟩
  rw [← hW0]
  obtain ⟨W1, hW1⟩ : ∃ W1, W1 = W0.alloc (Obj.cells #[.int .u8 0, .string ⟨#[]⟩] 45) := ⟨_, rfl⟩
  rw [← hW1]
  have P := prep H.out hW0 hW1
  obtain ⟨p, hp⟩ : ∃ p, p = w.heap.size := ⟨_, rfl⟩
  rw [← hp] at P ⊢
  obtain ⟨q, hq⟩ : ∃ q, q = p + 1 := ⟨_, rfl⟩
  rw [← hq] at P ⊢
  have HP := Lib.hid P
  have HQ : Hid (w.heap.size ≤ q ∧ w.heap.size ≤ p) := Lib.hid (by have := P.ps; omega)
  have HBT := Lib.hid H.out.blt
  have z0 : W1.cell? ⟨p, 0, none⟩ = some (.int .u32 (acl : Int)) := P.cell 0
  have z1 : W1.cell? ⟨p, 1, none⟩ = some (.int .u32 (asq : Int)) := P.cell 1
  have z2 : W1.cell? ⟨p, 2, none⟩ = some (.int .u8 (akd : Int)) := P.cell 2
  have z3 : W1.cell? ⟨p, 3, none⟩ = some (.slice A L c) := P.cell 3
  have z4 : W1.cell? ⟨p, 4, none⟩ = some (.string old) := P.cell 4
  have z5 : W1.cell? ⟨p, 5, none⟩ = some (.string new) := P.cell 5
  have z6 : W1.cell? ⟨p, 6, none⟩ = some (.int .i64 n) := P.cell 6
  clear hW0 hW1 hp hq P
  go_wp2_with fail
  refine (HC.out W1 HP.out.below).mono ?_
  rintro e W2 ⟨rfl, b2⟩
  obtain ⟨_, p2, q2, w2⟩ := HP.out.grew b2
  have H2 := Lib.hid (And.intro w2 (And.intro p2 q2))
  have y2 : W2.cell? ⟨p, 2, none⟩ = some (.int .u8 (akd : Int)) := by simpa using blk_cell p2 2
  clear b2 p2 q2 w2 z0 z1 z2 z3 z4 z5 z6
  go_upto_region 3 with (fail)
  have HE := Lib.hid (effects_any W2.drew)
  go_region_with (refine HE.out.mono ?_; rintro e W3 ⟨eb, rfl, h3⟩; have H3 := Lib.hid h3; have y2' := (h3.below.cell (p := ⟨p, 2, none⟩) (show p < W2.drew.heap.size from (Array.getElem?_eq_some_iff.1 H2.out.2.1).1)).trans y2; obtain ⟨en, hem⟩ := h3.map; have hlook := hem.look _ HF.out (eff_wf _ HF.out); clear h3 hem)
  all_goals
    have w3 : Below w.heap.size w W3 := H2.out.1.drew.trans (Below.mono H3.out.below H2.out.1.size)
    have p3 := (H3.out.below.block p (show p < W2.drew.heap.size from (Array.getElem?_eq_some_iff.1 H2.out.2.1).1)).trans H2.out.2.1
    have q3 := (H3.out.below.block q (show q < W2.drew.heap.size from (Array.getElem?_eq_some_iff.1 H2.out.2.2).1)).trans H2.out.2.2
    have p3' : W3.heap[p]? = some (.cells #[.int .u32 (acl : Int), .int .u32 (asq : Int), .int .u8 (akd : Int), .slice A L c, .string old, .string new, .int .i64 n] 57 (0, 0)) := p3
    have z0 := blk_cell p3' 0
    have z1 := blk_cell p3' 1
    have z2 := blk_cell p3' 2
    have z3 := blk_cell p3' 3
    have z4 := blk_cell p3' 4
    have z5 := blk_cell p3' 5
    have z6 := blk_cell p3' 6
    simp at z0 z1 z2 z3 z4 z5 z6
    have HW := Lib.hid (And.intro w3 q3)
    have hen : (callFunc f #[.pointer (some ⟨R, 0, none⟩), .agg #[.int .u32 (acl : Int), .int .u32 (asq : Int), .int .u8 (akd : Int), .slice A L c, .string old, .string new, .int .i64 n]]).run Tryz.prog W3 = .ok (.enter f #[.pointer (some ⟨R, 0, none⟩), .agg #[.int .u32 (acl : Int), .int .u32 (asq : Int), .int .u8 (akd : Int), .slice A L c, .string old, .string new, .int .i64 n]]) W3 := eff_enters _ HF.out _ _
    clear w3 p3 q3 p3' y2 y2' hlook HE
    go_wp2_with fail
    refine (HCC.out W3 HW.out.1).mono ?_
    rintro e W4 ⟨rfl, h4⟩
    have c4 := h4.to HW.out.1
    have q4 : W4.heap[q]? = some (.cells reply0 45 (0, 0)) := (h4.only.block q (Array.getElem?_eq_some_iff.1 HW.out.2).1 (fun e => by
      have := HQ.out
      have := H.out.lt
      rcases e with e | e
      · omega
      · have := HBT.out q e; omega)).trans HW.out.2
    obtain ⟨rc, hrc⟩ : ∃ x, x = r.2.1 := ⟨_, rfl⟩
    obtain ⟨rt, hrt⟩ : ∃ x, x = r.2.2 := ⟨_, rfl⟩
    have HRR := Lib.hid (And.intro hrc hrt)
    simp only [ReplyV]
    rw [← hrc, ← hrt]
    clear h4 z0 z1 z2 z3 z4 z5 z6 hen hrc hrt
    have KQ := Lib.hid q4
    have HCH := Lib.hid c4
    have y0 : W4.cell? ⟨q, 0, none⟩ = some (.int .u8 0) := by simpa [reply0] using blk_cell KQ.out 0
    have y1 : W4.cell? ⟨q, 1, none⟩ = some (.string ⟨#[]⟩) := by simpa [reply0] using blk_cell KQ.out 1
    have u0 := blk_frozen KQ.out 0
    have u1 := blk_frozen KQ.out 1
    go_wp2
    obtain ⟨W9, hW9⟩ : ∃ W9, W9 = (W4.setCell ⟨q, 0, none⟩ (.int .u8 (rc : Int))).setCell ⟨q, 1, none⟩ (.string rt) := ⟨_, rfl⟩
    rw [← hW9]
    obtain ⟨c9, d0, d1⟩ := reply_end HCH.out KQ.out HQ.out.1 H.out.lt (rc : Int) rt hW9
    exact bodyPost_ret (v := .agg #[.int .u8 (rc : Int), .string rt]) (by simp [results, Tryz.results43, go_sem, d0, d1]) rfl ⟨by rw [HRR.out.1, HRR.out.2]; rfl, c9⟩
set_option maxRecDepth 100000 in
set_option maxHeartbeats 4000000 in
theorem Do_bad (R : Nat) (m : Option Nat) (l : List PV) (a : CmdV) (w : World) (h : StQ w R m l) (hT : TabK w) (ha : a.ok w) (hm : a.m.may = false) :
    Calls Tryz.prog 43 #[.pointer (some ⟨R, 0, none⟩), a.val] w fun e W' => e = .returned (ReplyV (2, ⟨#[]⟩)) ∧ Chg w W' R m l := by
  have hC : ∀ W, Below w.heap.size w W → Calls Tryz.prog 64 #[a.val] W fun e W' => e = .returned (.int .i64 1) ∧ Below W.heap.size W W' := fun W hb => (Check_any a W (hT.keys.grew hb) (ha.below hb)).mono fun e W' ⟨he, hb'⟩ => ⟨by rw [he, hm]; rfl, hb'⟩
  have HC := Lib.hid hC
  obtain ⟨acl, asq, akd, A, L, c, ks, old, new, n⟩ := a
  simp only [CmdV.val, CmdV.cells] at HC ⊢
  have H := Lib.hid h
  clear hC h hT ha hm
  go_enter Tryz.func43, Tryz.ntmps43
  go_upto_region 1 with (fail)
  obtain ⟨W0, hW0⟩ : ∃ W0, W0 = w.alloc (Obj.cells #[.int .u32 (acl : Int), .int .u32 (asq : Int), .int .u8 (akd : Int), .slice A L c, .string old, .string new, .int .i64 n] 57) := ⟨_, rfl⟩
  rw [← hW0]
  obtain ⟨W1, hW1⟩ : ∃ W1, W1 = W0.alloc (Obj.cells #[.int .u8 0, .string ⟨#[]⟩] 45) := ⟨_, rfl⟩
  rw [← hW1]
  have P := prep H.out hW0 hW1
  obtain ⟨p, hp⟩ : ∃ p, p = w.heap.size := ⟨_, rfl⟩
  rw [← hp] at P ⊢
  obtain ⟨q, hq⟩ : ∃ q, q = p + 1 := ⟨_, rfl⟩
  rw [← hq] at P ⊢
  have HP := Lib.hid P
  have HQ : Hid (w.heap.size ≤ q ∧ w.heap.size ≤ p) := Lib.hid (by have := P.ps; omega)
  have z0 : W1.cell? ⟨p, 0, none⟩ = some (.int .u32 (acl : Int)) := P.cell 0
  have z1 : W1.cell? ⟨p, 1, none⟩ = some (.int .u32 (asq : Int)) := P.cell 1
  have z2 : W1.cell? ⟨p, 2, none⟩ = some (.int .u8 (akd : Int)) := P.cell 2
  have z3 : W1.cell? ⟨p, 3, none⟩ = some (.slice A L c) := P.cell 3
  have z4 : W1.cell? ⟨p, 4, none⟩ = some (.string old) := P.cell 4
  have z5 : W1.cell? ⟨p, 5, none⟩ = some (.string new) := P.cell 5
  have z6 : W1.cell? ⟨p, 6, none⟩ = some (.int .i64 n) := P.cell 6
  clear hW0 hW1 hp hq P
  go_wp2_with fail
  refine (HC.out W1 HP.out.below).mono ?_
  rintro e W2 ⟨rfl, b2⟩
  obtain ⟨_, _, q2, w2⟩ := HP.out.grew b2
  have c2 := Chg.same H.out w2
  have KQ := Lib.hid q2
  have HCH := Lib.hid c2
  clear b2 q2 w2 z0 z1 z2 z3 z4 z5 z6
  have y0 : W2.cell? ⟨q, 0, none⟩ = some (.int .u8 0) := by simpa [reply0] using blk_cell KQ.out 0
  have y1 : W2.cell? ⟨q, 1, none⟩ = some (.string ⟨#[]⟩) := by simpa [reply0] using blk_cell KQ.out 1
  have u0 := blk_frozen KQ.out 0
  have u1 := blk_frozen KQ.out 1
  go_wp2
  obtain ⟨W9, hW9⟩ : ∃ W9, W9 = (W2.setCell ⟨q, 0, none⟩ (.int .u8 2)).setCell ⟨q, 1, none⟩ (.string ⟨#[]⟩) := ⟨_, rfl⟩
  rw [← hW9]
  obtain ⟨c9, d0, d1⟩ := reply_end HCH.out KQ.out HQ.out.1 H.out.lt 2 ⟨#[]⟩ hW9
  exact bodyPost_ret (v := .agg #[.int .u8 2, .string ⟨#[]⟩]) (by simp [results, Tryz.results43, go_sem, d0, d1]) rfl ⟨rfl, c9⟩
end Go.Proofs.YtfjmdkhemnmkpaaGreatDoor
namespace Go.Proofs.YtfjmdkhemnmkpaaGreatDoor
open Go.RowKit Go.Maps Go.WideMaps
theorem ks_least {a : CmdV} (hm : a.m.may = true) : leastK a.kd ≤ a.ks.length ∧ a.ks.length ≤ 16 := by
  have h := (CM.may_iff.1 hm).len
  exact ⟨h.1, Nat.le_trans h.2 (mostK_le _)⟩
theorem ks_one {a : CmdV} (hm : a.m.may = true) : ∃ k ks, a.ks = k :: ks ∧ keyP a.m.ks 0 = k := by
  have h := ks_least hm
  have h1 : 1 ≤ a.ks.length := by
    have : 1 ≤ leastK a.kd := by
      unfold leastK
      split <;> omega
    omega
  obtain ⟨k, ks, e⟩ : ∃ k ks, a.ks = k :: ks := by
    cases hk : a.ks with
    | nil => rw [hk] at h1; exact absurd h1 (by decide)
    | cons k ks => exact ⟨k, ks, rfl⟩
  exact ⟨k, ks, e, by show keyP a.ks 0 = k; rw [e]; rfl⟩
theorem ks_two {a : CmdV} (hm : a.m.may = true) (h6 : a.kd = 6) : ∃ k k2 ks, a.ks = k :: k2 :: ks ∧ keyP a.m.ks 0 = k ∧ keyP a.m.ks 1 = k2 := by
  have h := ks_least hm
  have h1 : 2 ≤ a.ks.length := by
    have : 2 ≤ leastK a.kd := by rw [h6]; decide
    omega
  obtain ⟨k, k2, ks, e⟩ : ∃ k k2 ks, a.ks = k :: k2 :: ks := by
    match hk : a.ks with
    | [] => rw [hk] at h1; exact absurd h1 (by decide)
    | [k] => rw [hk] at h1; exact absurd h1 (by simp)
    | k :: k2 :: ks => exact ⟨k, k2, ks, rfl⟩
  exact ⟨k, k2, ks, e, by show keyP a.ks 0 = k; rw [e]; rfl, by show keyP a.ks 1 = k2; rw [e]; rfl⟩
theorem look_small {l : List PV} (hl : LimP l) : ∀ x v, lookP l x = some v → v.size ≤ 1000 := fun _x _v h => (hl.each _ (lookP_mem h)).2
theorem without_none {l : List PV} (h : SortedP l) {k : ByteArray} (hk : lookP l k = none) : withoutP l k = l := by
  refine SortedP.ext (h.without k) h fun j => ?_
  rw [lookP_without]
  split
  · rename_i e; rw [e, hk]
  · rfl
set_option maxRecDepth 100000 in
theorem do_any (R : Nat) (m : Option Nat) (l : List PV) (a : CmdV) (w : World) (h : StQ w R m l) (hT : TabK w) (hs : SortedP l) (hl : LimP l) (ha : a.ok w) :
    Calls Tryz.prog 43 #[.pointer (some ⟨R, 0, none⟩), a.val] w fun e W' => e = .returned (ReplyV (doP l a.m).2) ∧ Chg w W' R m (doP l a.m).1 := by
  cases hm : a.m.may with
  | false =>
    rw [show doP l a.m = (l, 2, ⟨#[]⟩) by unfold doP; rw [if_pos hm]]
    exact Do_bad R m l a w h hT ha hm
  | true =>
    have hls := look_small hl
    obtain ⟨k, ks, hk, hk0⟩ := ks_one hm
    have h16 := (ks_least hm).2
    rcases may_kinds hm with e | e | e | e | e | e | e | e
    · have ekd : a.kd = 1 := e
      rw [doP_put hm e hk0]
      exact Do_may R m l _ a w h hT ha hm 88 (by rw [ekd]; simp [effL]) fun W hb => doPut_any R m l a W (h.below hb) hl.len (ha.below hb) k ks hk
    · have ekd : a.kd = 2 := e
      have hg := fun W (hb : Below w.heap.size w W) => doGet_any R m l a W (h.below hb) hl.len (ha.below hb) k ks hk
      cases hlo : lookP l k with
      | none =>
        rw [doP_get0 hm e hk0 hlo]
        rw [hlo] at hg
        exact Do_may R m l _ a w h hT ha hm 89 (by rw [ekd]; simp [effL]) fun W hb => (hg W hb).mono fun _ _ ⟨he, hb'⟩ => ⟨he, Chg.same (h.below hb) hb'⟩
      | some u =>
        rw [doP_get1 hm e hk0 hlo]
        rw [hlo] at hg
        exact Do_may R m l _ a w h hT ha hm 89 (by rw [ekd]; simp [effL]) fun W hb => (hg W hb).mono fun _ _ ⟨he, hb'⟩ => ⟨he, Chg.same (h.below hb) hb'⟩
    · have ekd : a.kd = 3 := e
      have hg := fun W (hb : Below w.heap.size w W) => doDel_any R m l a W (h.below hb) hl.len (ha.below hb) k ks hk
      cases hlo : lookP l k with
      | none =>
        rw [doP_del0 hm e hk0 hlo]
        rw [hlo] at hg
        refine Do_may R m l _ a w h hT ha hm 90 (by rw [ekd]; simp [effL]) fun W hb => (hg W hb).mono fun _ _ ⟨he, hc⟩ => ⟨he, ?_⟩
        rw [without_none hs hlo] at hc
        exact hc
      | some u =>
        rw [doP_del1 hm e hk0 hlo]
        rw [hlo] at hg
        exact Do_may R m l _ a w h hT ha hm 90 (by rw [ekd]; simp [effL]) fun W hb => hg W hb
    · have ekd : a.kd = 4 := e
      rw [doP_add hm e hk0]
      exact Do_may R m l _ a w h hT ha hm 91 (by rw [ekd]; simp [effL]) fun W hb => doAdd_any R m l a W (h.below hb) hl.len (ha.below hb) k ks hk (hT.grew hb) hls
    · have ekd : a.kd = 5 := e
      have hg := fun W (hb : Below w.heap.size w W) => doCas_any R m l a W (h.below hb) hl.len (ha.below hb) k ks hk
      cases hlo : lookP l k with
      | none =>
        rw [doP_cas0 hm e hk0 hlo]
        simp only [hlo] at hg
        exact Do_may R m l _ a w h hT ha hm 92 (by rw [ekd]; simp [effL]) fun W hb => hg W hb
      | some u =>
        by_cases ho : u = a.old
        · rw [doP_cas2 hm e hk0 hlo ho]
          simp only [hlo, if_pos ho] at hg
          exact Do_may R m l _ a w h hT ha hm 92 (by rw [ekd]; simp [effL]) fun W hb => hg W hb
        · rw [doP_cas1 hm e hk0 hlo ho]
          simp only [hlo, if_neg ho] at hg
          exact Do_may R m l _ a w h hT ha hm 92 (by rw [ekd]; simp [effL]) fun W hb => hg W hb
    · have ekd : a.kd = 6 := e
      obtain ⟨j, j2, js, hj, hj0, hj1⟩ := ks_two hm ekd
      rw [doP_swap hm e hj0 hj1]
      exact Do_may R m l _ a w h hT ha hm 93 (by rw [ekd]; simp [effL]) fun W hb => doSwap_any R m l a W (h.below hb) hl.len (ha.below hb) j j2 js hj hs hls
    · have ekd : a.kd = 7 := e
      rw [doP_join hm e]
      exact Do_may R m l _ a w h hT ha hm 94 (by rw [ekd]; simp [effL]) fun W hb => doJoin_any R m l a W (h.below hb) (ha.below hb) h16 hls
    · have ekd : a.kd = 8 := e
      rw [doP_clear hm e]
      exact Do_may R m l _ a w h hT ha hm 95 (by rw [ekd]; simp [effL]) fun W hb => doClear_any R m l a W (h.below hb) hl.len (ha.below hb) h16 (hT.grew hb)
end Go.Proofs.YtfjmdkhemnmkpaaGreatDoor

namespace Go.Proofs.YtfjmdkhemnmkpaaGreatDoor
structure SE where
  cl : Nat
  sq : Nat
  cd : Nat
  tx : ByteArray
def lookS (l : List SE) (c : Nat) : Option SE := l.find? fun e => decide (e.cl = c)
def tellS (l : List SE) (c s : Nat) : (Nat × ByteArray) × Nat := match lookS l c with
  | none => ((0, ⟨#[]⟩), 0)
  | some e => if e.sq < s then ((0, ⟨#[]⟩), 0) else if e.sq = s then ((e.cd, e.tx), 1) else ((3, ⟨#[]⟩), 2)
def keepS (l : List SE) (c s cd : Nat) (tx : ByteArray) : List SE :=
  if c ≠ 0 ∧ (tellS l c s).2 = 0 then l.filter (fun e => decide (e.cl < c)) ++ ⟨c, s, cd, tx⟩ :: l.filter (fun e => decide (c < e.cl)) else l
structure LimB (b : Nat) (l : List SE) : Prop where
  len : l.length ≤ 5000
  each : ∀ e ∈ l, e.cl < 4294967296 ∧ e.sq < 4294967296 ∧ e.cd < 256 ∧ e.tx.size ≤ b
theorem find_filter_lt {l : List SE} {j : Nat} (p : Nat → Bool) (hp : p j = true) : (l.filter fun e => p e.cl).find? (fun e => decide (e.cl = j)) = lookS l j := by
  unfold lookS
  rw [List.find?_filter]
  congr 1
  funext e
  by_cases h : e.cl = j
  · simp [h, hp]
  · simp [h]
theorem lookS_keep (l : List SE) (c s cd : Nat) (tx : ByteArray) (j : Nat) : lookS (keepS l c s cd tx) j = if c ≠ 0 ∧ (tellS l c s).2 = 0 ∧ j = c then some ⟨c, s, cd, tx⟩ else lookS l j := by
  by_cases hk : c ≠ 0 ∧ (tellS l c s).2 = 0
  · have e : keepS l c s cd tx = l.filter (fun e => decide (e.cl < c)) ++ ⟨c, s, cd, tx⟩ :: l.filter (fun e => decide (c < e.cl)) := if_pos hk
    rw [e]
    conv => lhs; unfold lookS
    rw [List.find?_append, List.find?_cons]
    by_cases hj : j = c
    · subst hj
      have h1 : (l.filter fun e => decide (e.cl < j)).find? (fun e => decide (e.cl = j)) = none := by
        rw [List.find?_eq_none]
        intro x hx
        have := (List.mem_filter.1 hx).2
        simp at this ⊢
        omega
      rw [h1, if_pos ⟨hk.1, hk.2, rfl⟩]
      simp
    · rw [if_neg (fun h => hj h.2.2)]
      have hcj : decide (c = j) = false := by simp; exact fun e => hj e.symm
      simp only [hcj]
      rcases Nat.lt_or_gt_of_ne hj with hlt | hgt
      · rw [find_filter_lt (fun x => decide (x < c)) (by simpa using hlt)]
        cases hl : lookS l j with
        | some x => rfl
        | none =>
          rw [Option.none_or, List.find?_eq_none]
          intro x hx
          have := (List.mem_filter.1 hx).2
          simp at this ⊢
          omega
      · have h1 : (l.filter fun e => decide (e.cl < c)).find? (fun e => decide (e.cl = j)) = none := by
          rw [List.find?_eq_none]
          intro x hx
          have := (List.mem_filter.1 hx).2
          simp at this ⊢
          omega
        rw [h1, Option.none_or]
        exact find_filter_lt (fun x => decide (c < x)) (by simpa using hgt)
  · rw [show keepS l c s cd tx = l from if_neg hk, if_neg (fun h => hk ⟨h.1, h.2.1⟩)]
theorem filter_two (c : Nat) : ∀ l : List SE, (l.filter fun e => decide (e.cl < c)).length + (l.filter fun e => decide (c < e.cl)).length ≤ l.length
  | [] => by simp
  | e :: l => by
    have ih := filter_two c l
    rw [List.filter_cons, List.filter_cons, List.length_cons]
    by_cases h1 : e.cl < c
    · have h2 : ¬ c < e.cl := by omega
      rw [if_pos (by simpa using h1), if_neg (by simpa using h2), List.length_cons]
      omega
    · rw [if_neg (by simpa using h1)]
      by_cases h2 : c < e.cl
      · rw [if_pos (by simpa using h2), List.length_cons]
        omega
      · rw [if_neg (by simpa using h2)]
        omega
theorem keepS_len (l : List SE) (c s cd : Nat) (tx : ByteArray) : (keepS l c s cd tx).length ≤ l.length + 1 := by
  unfold keepS
  split
  · rw [List.length_append, List.length_cons]
    have h := filter_two c l
    omega
  · omega
end Go.Proofs.YtfjmdkhemnmkpaaGreatDoor

namespace Go.Proofs.YtfjmdkhemnmkpaaGreatDoor
open Go.RowKit
def replyV (r : Nat × ByteArray) : Value := .agg #[.int .u8 (r.1 : Int), .string r.2]
end Go.Proofs.YtfjmdkhemnmkpaaGreatDoor

namespace Go.Proofs.YtfjmdkhemnmkpaaGreatDoor
def SortedE (l : List SE) : Prop := l.Pairwise fun a b => a.cl < b.cl
def setS (l : List SE) (e : SE) : List SE := l.filter (fun x => decide (x.cl < e.cl)) ++ e :: l.filter (fun x => decide (e.cl < x.cl))
theorem SortedE.nil : SortedE [] := List.Pairwise.nil
theorem SortedE.set {l : List SE} (h : SortedE l) (e : SE) : SortedE (setS l e) := by
  unfold setS SortedE
  refine List.pairwise_append.2 ⟨h.filter _, List.pairwise_cons.2 ⟨fun x hx => ?_, h.filter _⟩, fun a ha b hb => ?_⟩
  · have := (List.mem_filter.1 hx).2
    simpa using this
  · have h1 : a.cl < e.cl := by simpa using (List.mem_filter.1 ha).2
    rcases List.mem_cons.1 hb with rfl | hb
    · exact h1
    · have h2 : e.cl < b.cl := by simpa using (List.mem_filter.1 hb).2
      omega
theorem keepS_set {l : List SE} {c s cd : Nat} {tx : ByteArray} (h0 : c ≠ 0) (h : (tellS l c s).2 = 0) : keepS l c s cd tx = setS l ⟨c, s, cd, tx⟩ := if_pos ⟨h0, h⟩
theorem keepS_sorted {l : List SE} (h : SortedE l) (c s cd : Nat) (tx : ByteArray) : SortedE (keepS l c s cd tx) := by
  by_cases hk : c ≠ 0 ∧ (tellS l c s).2 = 0
  · rw [keepS_set hk.1 hk.2]; exact h.set _
  · rw [show keepS l c s cd tx = l from if_neg hk]; exact h
theorem lookS_mem {l : List SE} {c : Nat} {e : SE} (h : lookS l c = some e) : e ∈ l ∧ e.cl = c := by
  unfold lookS at h
  exact ⟨List.mem_of_find?_eq_some h, by simpa using List.find?_some h⟩
theorem lookS_cons (e : SE) (l : List SE) (c : Nat) : lookS (e :: l) c = if e.cl = c then some e else lookS l c := by
  unfold lookS
  rw [List.find?_cons]
  by_cases h : e.cl = c <;> simp [h]
theorem lookS_none {l : List SE} {c : Nat} (h : ∀ x ∈ l, x.cl ≠ c) : lookS l c = none := by
  unfold lookS
  rw [List.find?_eq_none]
  intro x hx
  simpa using h x hx
theorem SortedE.ext : ∀ {l m : List SE}, SortedE l → SortedE m → (∀ k, lookS l k = lookS m k) → l = m
  | [], [], _, _, _ => rfl
  | [], q :: m, _, _, h => by have := h q.cl; rw [lookS_cons, if_pos rfl] at this; cases this
  | p :: l, [], _, _, h => by have := h p.cl; rw [lookS_cons, if_pos rfl] at this; cases this
  | p :: l, q :: m, hl, hm, h => by
    obtain ⟨hl1, hl2⟩ := List.pairwise_cons.1 hl
    obtain ⟨hm1, hm2⟩ := List.pairwise_cons.1 hm
    have hpq : p.cl = q.cl := by
      refine Classical.byContradiction fun hne => ?_
      have h1 := h p.cl
      rw [lookS_cons, if_pos rfl, lookS_cons, if_neg (fun e => hne e.symm)] at h1
      have h2 := h q.cl
      rw [lookS_cons, if_neg hne, lookS_cons, if_pos rfl] at h2
      have h3 := hm1 _ (lookS_mem h1.symm).1
      have h4 := hl1 _ (lookS_mem h2).1
      omega
    have hp : p = q := by
      have h1 := h p.cl
      rw [lookS_cons, if_pos rfl, lookS_cons, if_pos hpq.symm] at h1
      injection h1
    subst hp
    congr 1
    refine SortedE.ext hl2 hm2 fun k => ?_
    by_cases hk : p.cl = k
    · subst hk
      rw [lookS_none fun x hx => Ne.symm (Nat.ne_of_lt (hl1 x hx)), lookS_none fun x hx => Ne.symm (Nat.ne_of_lt (hm1 x hx))]
    · have := h k
      rw [lookS_cons, if_neg hk, lookS_cons, if_neg hk] at this
      exact this
theorem tellS_keep {l : List SE} {c d s t cd : Nat} {tx : ByteArray} (h : d ≠ c) : tellS (keepS l c s cd tx) d t = tellS l d t := by
  unfold tellS
  rw [lookS_keep, if_neg (fun e => h e.2.2)]
theorem keepS_comm {l : List SE} (hl : SortedE l) {c d s t cd ce : Nat} {tx ty : ByteArray} (h : c ≠ d) : keepS (keepS l c s cd tx) d t ce ty = keepS (keepS l d t ce ty) c s cd tx := by
  refine SortedE.ext (keepS_sorted (keepS_sorted hl _ _ _ _) _ _ _ _) (keepS_sorted (keepS_sorted hl _ _ _ _) _ _ _ _) fun k => ?_
  rw [lookS_keep, lookS_keep, lookS_keep, lookS_keep, tellS_keep (Ne.symm h), tellS_keep h]
  by_cases h1 : k = c
  · have h2 : ¬ (d ≠ 0 ∧ (tellS l d t).2 = 0 ∧ k = d) := fun e => h (h1.symm.trans e.2.2)
    simp only [if_neg h2]
  · have h2 : ¬ (c ≠ 0 ∧ (tellS l c s).2 = 0 ∧ k = c) := fun e => h1 e.2.2
    simp only [if_neg h2]
end Go.Proofs.YtfjmdkhemnmkpaaGreatDoor
