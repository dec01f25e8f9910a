/- Parts of the proof: AqK0, AxM, AqA, StepF, AqCr. -/
import Derived.Test.YtfjmdkhemnmkpaaGreatDoorA04
import Derived.Test.YtfjmdkhemnmkpaaGreatDoorA08
import Derived.Test.YtfjmdkhemnmkpaaGreatDoorA09
import Derived.Test.YtfjmdkhemnmkpaaGreatDoorA01
import Derived.Sort.AssemblyPlain
import Derived.CellFam
import Derived.Deep.Draws
import Derived.Deep.QuietTactic
import Derived.Deep.DeepCutAuto
import Derived.BigQuiet
import Derived.BigGuard
import Derived.BigCall
import Derived.WalkKit
import Derived.Deep.CutBlock
import Derived.Handy
import Derived.Test.YtfjmdkhemnmkpaaGreatDoorA05
import Derived.Laws.Closers25b
import Derived.Laws.BitsAllLaws
import Derived.Sort.LotD3
import Derived.Test.YtfjmdkhemnmkpaaGreatDoorProg
import Derived.Test.YtfjmdkhemnmkpaaGreatDoorRows
import Derived.Laws.Bits64
import Derived.Laws.BitsLemmas
import Derived.Below
import Derived.Laws.OwnMore
import Derived.Laws.MakeOwn
import Derived.Laws.CopyRow
import Derived.Laws.IdiomCopy
import Derived.Laws.BytesArg
import Derived.Shelf.Bytes.SlSmallAll
import Derived.Deep.AppendLies
import Derived.Deep.AppendSrc
import Derived.OwnWalk
import Derived.BigFrame
import Derived.OwnWalkIn
import Derived.Maps.AppendAt
import Derived.OrdersIn
import Derived.RangeFuncBox
import Derived.Lib.Hide
import Derived.Lib.SliceRun
import Derived.ProofKit
import Derived.Deep.RegionHeld3
import Derived.RangeFuncNested
import Derived.RangeFuncBound
import Derived.RangeFuncCalls
import Derived.RangeFuncLeaves
import Derived.Shelf.Abstract
import Derived.Shelf.RegionOpen
import Derived.WalkMore
import Derived.Lib.AppendZerosOnto
import Derived.Test.YtfjmdkhemnmkpaaGreatDoorA02
import Derived.TacticsInMore
import Derived.LoopNIn
import Derived.LoopIn
import Derived.Deep.DeepFit
import Derived.Test.YtfjmdkhemnmkpaaGreatDoorA03
namespace Go.Proofs.YtfjmdkhemnmkpaaGreatDoor
open Go.RowKit Go.Maps
/- kv's contracts, by what a state lies in. -/
theorem plK_keep {F G : Nat → Prop} {w w' : World} {R : Nat} {l : List PV} (h : PlQ F w R l) (ho : Only G w w') (hd : ∀ k, F k → ¬ G k) : PlQ F w' R l := by
  obtain ⟨p, h, hs, hF⟩ := h
  exact ⟨p, h.keep (ho.block R h.lt (hd R ((hF R).2 (.inl rfl)))) (fun b e => ho.block b (h.blt b e) (hd b ((hF b).2 (.inr e)))), hs, hF⟩
theorem plK_lt {F : Nat → Prop} {w : World} {R : Nat} {l : List PV} (h : PlQ F w R l) : ∀ k, F k → k < w.heap.size := by
  obtain ⟨p, h, _, hF⟩ := h
  intro k hk
  rcases (hF k).1 hk with e | e
  · rw [e]; exact h.lt
  · exact h.blt k e
theorem plK_new (w : World) : Calls Tryz.prog 40 #[] w fun e W' => ∃ F R, e = .returned (.pointer (some ⟨R, 0, none⟩)) ∧ PlQ F W' R [] ∧ (∀ k, F k → w.heap.size ≤ k) ∧ Below w.heap.size w W' :=
  (new_any w).mono fun e W' ⟨he, hw⟩ => by
    subst hw
    refine ⟨_, w.heap.size, he, PlQ.mk (p := none) ⟨World.alloc_heap_new w _, rfl⟩ SortedP.nil, fun k hk => ?_, (Below.refl _ w).alloc (Nat.le_refl _) _⟩
    rcases hk with e | e
    · omega
    · cases e
theorem plK_do {F : Nat → Prop} {w : World} {R : Nat} {l : List PV} (v : CmdV) (h : PlQ F w R l) (hT : TabK w) (hl : LimP l) (hv : v.ok w) : Calls Tryz.prog 43 #[.pointer (some ⟨R, 0, none⟩), v.val] w fun e W' => e = .returned (ReplyV (doP l v.m).2) ∧ ∃ F', PlQ F' W' R (doP l v.m).1 ∧ Only F w W' ∧ ∀ k, F' k → F k ∨ w.heap.size ≤ k := by
  obtain ⟨p, h, hs, hF⟩ := h
  refine (do_any R p l v w h hT hs hl hv).mono fun e W' ⟨he, hc⟩ => ?_
  obtain ⟨p', s', hp'⟩ := hc.ex
  refine ⟨he, _, PlQ.mk s' (doP_sorted hs v.m), only_of hF hc.only, fun k hk => ?_⟩
  rcases hk with e | e
  · exact .inl ((hF k).2 (.inl e))
  · rcases hp' k e with e' | e'
    · exact .inl ((hF k).2 (.inr e'))
    · exact .inr e'
/- session's contracts. -/
theorem plS_keep {F G : Nat → Prop} {w w' : World} {R : Nat} {l : List SE} (h : PlQS F w R l) (ho : Only G w w') (hd : ∀ k, F k → ¬ G k) : PlQS F w' R l := by
  obtain ⟨p, h, hs, hF⟩ := h
  exact ⟨p, h.keep (ho.block R h.lt (hd R ((hF R).2 (.inl rfl)))) (fun b e => ho.block b (h.blt b e) (hd b ((hF b).2 (.inr e)))), hs, hF⟩
theorem plS_lt {F : Nat → Prop} {w : World} {R : Nat} {l : List SE} (h : PlQS F w R l) : ∀ k, F k → k < w.heap.size := by
  obtain ⟨p, h, _, hF⟩ := h
  intro k hk
  rcases (hF k).1 hk with e | e
  · rw [e]; exact h.lt
  · exact h.blt k e
theorem plS_new (w : World) : Calls Tryz.prog 41 #[] w fun e W' => ∃ F R, e = .returned (.pointer (some ⟨R, 0, none⟩)) ∧ PlQS F W' R [] ∧ (∀ k, F k → w.heap.size ≤ k) ∧ Below w.heap.size w W' :=
  (new_anyS w).mono fun e W' ⟨he, hw⟩ => by
    subst hw
    refine ⟨_, w.heap.size, he, PlQS.mk (p := none) ⟨World.alloc_heap_new w _, rfl⟩ SortedE.nil, fun k hk => ?_, (Below.refl _ w).alloc (Nat.le_refl _) _⟩
    rcases hk with e | e
    · omega
    · cases e
theorem plS_look {F : Nat → Prop} {w : World} {R : Nat} {l : List SE} (c s : Nat) (h : PlQS F w R l) (hc : c < 4294967296) (hs : s < 4294967296) : Calls Tryz.prog 42 #[.pointer (some ⟨R, 0, none⟩), .int .u32 (c : Int), .int .u32 (s : Int)] w fun e W' => e = .returned (.tuple #[replyV (tellS l c s).1, .int .u8 ((tellS l c s).2 : Int)]) ∧ Below w.heap.size w W' := by
  obtain ⟨_, h, _, _⟩ := h
  exact look_any h c s hc hs
theorem plS_keeps {F : Nat → Prop} {w : World} {R : Nat} {l : List SE} (c s cd : Nat) (tx : ByteArray) (h : PlQS F w R l) (hl : l.length ≤ 1000000) (hc : c < 4294967296) (hsq : s < 4294967296) (ht : tx.size ≤ maxLen) : Calls Tryz.prog 44 #[.pointer (some ⟨R, 0, none⟩), .int .u32 (c : Int), .int .u32 (s : Int), replyV (cd, tx)] w fun e W' => e = .returned (.tuple #[]) ∧ ∃ F', PlQS F' W' R (keepS l c s cd tx) ∧ Only F w W' ∧ ∀ k, F' k → F k ∨ w.heap.size ≤ k := by
  obtain ⟨p, h, hs, hF⟩ := h
  refine (keep_any h hs hl c s cd tx hc hsq ht).mono fun e W' ⟨he, hch⟩ => ?_
  obtain ⟨p', s', hp'⟩ := hch.ex
  refine ⟨he, _, PlQS.mk s' (keepS_sorted hs c s cd tx), only_ofS hF hch.only, fun k hk => ?_⟩
  rcases hk with e | e
  · exact .inl ((hF k).2 (.inl e))
  · rcases hp' k e with e' | e'
    · exact .inl ((hF k).2 (.inr e'))
    · exact .inr e'
structure BothA (F : Nat → Prop) (w : World) (Rk : Nat) (ps : List PV) (Rs : Nat) (ss : List SE) : Prop where
  ex : ∃ Fk Fs, PlQ Fk w Rk ps ∧ PlQS Fs w Rs ss ∧ (∀ k, Fk k → ¬ Fs k) ∧ ∀ k, F k ↔ (Fk k ∨ Fs k)
section
variable {F G Fk Fs : Nat → Prop} {w w' : World} {Rk Rs : Nat} {ps : List PV} {ss : List SE}
theorem BothA.mk2 (h1 : PlQ Fk w Rk ps) (h2 : PlQS Fs w Rs ss) (hd : ∀ k, Fk k → ¬ Fs k) : BothA (fun k => Fk k ∨ Fs k) w Rk ps Rs ss := ⟨Fk, Fs, h1, h2, hd, fun _ => Iff.rfl⟩
theorem BothA.of (h1 : PlQ Fk w Rk ps) (hb : Below w.heap.size w w') (h2 : PlQS Fs w' Rs ss) (hn : ∀ k, Fs k → w.heap.size ≤ k) : BothA (fun k => Fk k ∨ Fs k) w' Rk ps Rs ss :=
  BothA.mk2 (plK_keep h1 (Only.of_grew (F := fun _ => False) hb) (fun _ _ => id)) h2 (fun k hk hf => by have := plK_lt h1 k hk; have := hn k hf; omega)
theorem BothA.keep (h : BothA F w Rk ps Rs ss) (ho : Only G w w') (hd : ∀ k, F k → ¬ G k) : BothA F w' Rk ps Rs ss := by
  obtain ⟨Fk, Fs, h1, h2, h3, h4⟩ := h.ex
  exact ⟨Fk, Fs, plK_keep h1 ho (fun k hk => hd k ((h4 k).2 (.inl hk))), plS_keep h2 ho (fun k hk => hd k ((h4 k).2 (.inr hk))), h3, h4⟩
theorem BothA.below (h : BothA F w Rk ps Rs ss) (hb : Below w.heap.size w w') : BothA F w' Rk ps Rs ss := h.keep (Only.of_grew (F := fun _ => False) hb) (fun _ _ => id)
theorem BothA.lt (h : BothA F w Rk ps Rs ss) : ∀ k, F k → k < w.heap.size := by
  obtain ⟨Fk, Fs, h1, h2, _, h4⟩ := h.ex
  intro k hk
  rcases (h4 k).1 hk with e | e
  · exact plK_lt h1 k e
  · exact plS_lt h2 k e
theorem BothA.do_ (h : BothA F w Rk ps Rs ss) (hT : TabK w) (hl : LimP ps) (v : CmdV) (hv : v.ok w) : Calls Tryz.prog 43 #[.pointer (some ⟨Rk, 0, none⟩), v.val] w fun e W' => e = .returned (ReplyV (doP ps v.m).2) ∧ ∃ F', BothA F' W' Rk (doP ps v.m).1 Rs ss ∧ Only F w W' ∧ ∀ k, F' k → F k ∨ w.heap.size ≤ k := by
  obtain ⟨Fk, Fs, h1, h2, h3, h4⟩ := h.ex
  refine (plK_do v h1 hT hl hv).mono fun e W' ⟨he, F', k1, k2, k3⟩ => ⟨he, _, BothA.mk2 k1 (plS_keep h2 k2 (fun k hk hf => h3 k hf hk)) (fun k hk hf => ?_), k2.mono (fun k _ hk => (h4 k).2 (.inl hk)), fun k hk => ?_⟩
  · rcases k3 k hk with e' | e'
    · exact h3 k e' hf
    · have := plS_lt h2 k hf; omega
  · rcases hk with e' | e'
    · rcases k3 k e' with e2 | e2
      · exact .inl ((h4 k).2 (.inl e2))
      · exact .inr e2
    · exact .inl ((h4 k).2 (.inr e'))
theorem BothA.keeps (h : BothA F w Rk ps Rs ss) (c s cd : Nat) (tx : ByteArray) (hl : ss.length ≤ 1000000) (hc : c < 4294967296) (hsq : s < 4294967296) (ht : tx.size ≤ maxLen) : Calls Tryz.prog 44 #[.pointer (some ⟨Rs, 0, none⟩), .int .u32 (c : Int), .int .u32 (s : Int), replyV (cd, tx)] w fun e W' => e = .returned (.tuple #[]) ∧ ∃ F', BothA F' W' Rk ps Rs (keepS ss c s cd tx) ∧ Only F w W' ∧ ∀ k, F' k → F k ∨ w.heap.size ≤ k := by
  obtain ⟨Fk, Fs, h1, h2, h3, h4⟩ := h.ex
  refine (plS_keeps c s cd tx h2 hl hc hsq ht).mono fun e W' ⟨he, F', k1, k2, k3⟩ => ⟨he, _, BothA.mk2 (plK_keep h1 k2 (fun k hk hf => h3 k hk hf)) k1 (fun k hk hf => ?_), k2.mono (fun k _ hk => (h4 k).2 (.inr hk)), fun k hk => ?_⟩
  · rcases k3 k hf with e' | e'
    · exact h3 k hk e'
    · have := plK_lt h1 k hk; omega
  · rcases hk with e' | e'
    · exact .inl ((h4 k).2 (.inl e'))
    · rcases k3 k e' with e2 | e2
      · exact .inl ((h4 k).2 (.inr e2))
      · exact .inr e2
theorem BothA.look (h : BothA F w Rk ps Rs ss) (c s : Nat) (hc : c < 4294967296) (hs : s < 4294967296) : Calls Tryz.prog 42 #[.pointer (some ⟨Rs, 0, none⟩), .int .u32 (c : Int), .int .u32 (s : Int)] w fun e W' => e = .returned (.tuple #[replyV (tellS ss c s).1, .int .u8 ((tellS ss c s).2 : Int)]) ∧ Below w.heap.size w W' := by
  obtain ⟨_, _, _, h2, _, _⟩ := h.ex
  exact plS_look c s h2 hc hs
end
end Go.Proofs.YtfjmdkhemnmkpaaGreatDoor

namespace Go.Proofs.YtfjmdkhemnmkpaaGreatDoor
open Go.RowKit
structure AM where
  ps : List PV
  ss : List SE
  n : Nat
noncomputable def doA (a : AM) (m : CM) : AM × (Nat × ByteArray) × Bool :=
  if m.cl = 0 then (a, (2, ⟨#[]⟩), false)
  else if (tellS a.ss m.cl m.sq).2 = 0 then (⟨(doP a.ps m).1, keepS a.ss m.cl m.sq (doP a.ps m).2.1 (doP a.ps m).2.2, a.n + 1⟩, (doP a.ps m).2, true)
  else (a, (tellS a.ss m.cl m.sq).1, false)
structure LimA (a : AM) : Prop where
  p : LimP a.ps
  s : LimB 100000 a.ss
  n : a.n ≤ 1000000
/- The known commands. -/
abbrev xK1 : ByteArray := ⟨#[49]⟩
abbrev xK2 : ByteArray := ⟨#[50]⟩
def xm (sq kd : Nat) (n : Int) : CM := ⟨1, sq, kd, [kA], kE, kE, n⟩
theorem xdec1 : decI 1 = [49] := by
  unfold decI
  rw [if_neg (by decide), show Int.toNat 1 = 1 from rfl, decN_lt (by decide)]
  rfl
theorem xdec2 : decI 2 = [50] := by
  unfold decI
  rw [if_neg (by decide), show Int.toNat 2 = 2 from rfl, decN_lt (by decide)]
  rfl
theorem xnum1 : numM xK1.data.toList = some 1 := by
  have : xK1.data.toList = [49] := rfl
  rw [this, numM, if_neg (by decide), numD, if_neg (by unfold badD; decide), if_neg (by decide), if_neg (by decide), if_pos (by decide)]
  rfl
end Go.Proofs.YtfjmdkhemnmkpaaGreatDoor

namespace Go.Proofs.YtfjmdkhemnmkpaaGreatDoor
open Go.RowKit Go.Maps
structure AppQ (F : Nat → Prop) (w : World) (R : Nat) (a : AM) : Prop where
  ex : ∃ Rk Rs Fb, w.heap[R]? = some (.cells #[.pointer (some ⟨Rk, 0, none⟩), .pointer (some ⟨Rs, 0, none⟩), .int .u64 (a.n : Int)] 92 (0, 0)) ∧ BothA Fb w Rk a.ps Rs a.ss ∧ ¬ Fb R ∧ ∀ k, F k ↔ (Fb k ∨ k = R)
  n : a.n < 18446744073709551616
section
variable {F G : Nat → Prop} {w w' : World} {R : Nat} {a : AM}
theorem AppQ.keep (h : AppQ F w R a) (ho : Only G w w') (hd : ∀ k, F k → ¬ G k) : AppQ F w' R a := by
  obtain ⟨Rk, Rs, Fb, h1, h2, h3, h4⟩ := h.ex
  exact ⟨⟨Rk, Rs, Fb, (ho.block R (Array.getElem?_eq_some_iff.1 h1).1 (hd R ((h4 R).2 (.inr rfl)))).trans h1, h2.keep ho (fun k hk => hd k ((h4 k).2 (.inl hk))), h3, h4⟩, h.n⟩
theorem AppQ.lt (h : AppQ F w R a) : ∀ k, F k → k < w.heap.size := by
  obtain ⟨Rk, Rs, Fb, h1, h2, h3, h4⟩ := h.ex
  intro k hk
  rcases (h4 k).1 hk with e | rfl
  · exact h2.lt k e
  · exact (Array.getElem?_eq_some_iff.1 h1).1
theorem AppQ.made {W : World} {Fb : Nat → Prop} {Rk Rs n : Nat} {ps : List PV} {ss : List SE} (h : BothA Fb W Rk ps Rs ss) (hn : n < 18446744073709551616) : AppQ (fun k => Fb k ∨ k = W.heap.size) (W.alloc (.cells #[.pointer (some ⟨Rk, 0, none⟩), .pointer (some ⟨Rs, 0, none⟩), .int .u64 (n : Int)] 92)) W.heap.size ⟨ps, ss, n⟩ :=
  ⟨⟨Rk, Rs, Fb, World.alloc_heap_new W _, h.below ((Below.refl _ W).alloc (Nat.le_refl _) _), fun hf => Nat.lt_irrefl _ (h.lt _ hf), fun _ => Iff.rfl⟩, hn⟩
end
set_option maxHeartbeats 4000000 in
theorem anew_any (w : World) : Calls Tryz.prog 18 #[] w fun e W' => ∃ F R, e = .returned (.pointer (some ⟨R, 0, none⟩)) ∧ AppQ F W' R ⟨[], [], 0⟩ ∧ (∀ k, F k → w.heap.size ≤ k) ∧ Below w.heap.size w W' := by
  have HK := Lib.hid (plK_new w)
  go_enter Tryz.func18, Tryz.ntmps18
  go_wp2_with fail
  refine HK.out.mono ?_
  rintro e W1 ⟨Fk, Rk, rfl, hk, hkn, hb1⟩
  have HS := Lib.hid (plS_new W1)
  have H1 := Lib.hid (And.intro hk (And.intro hkn hb1))
  clear hk hkn hb1 HK
  go_wp2_with fail
  refine HS.out.mono ?_
  rintro e W2 ⟨Fs, Rs, rfl, hs, hsn, hb2⟩
  have H2 := Lib.hid (And.intro hs (And.intro hsn hb2))
  clear hs hsn hb2 HS
  go_wp2
  go_ret
  have hBo := BothA.of H1.out.1 H2.out.2.2 H2.out.1 H2.out.2.1
  have hz := H1.out.2.2.size
  have hz2 := H2.out.2.2.size
  refine ⟨_, _, rfl, AppQ.made hBo (n := 0) (by decide), fun k hk => ?_, (H1.out.2.2.trans (Below.mono H2.out.2.2 hz)).alloc (by omega) _⟩
  rcases hk with (e | e) | e
  · exact H1.out.2.1 k e
  · have := H2.out.2.1 k e; omega
  · omega
set_option maxRecDepth 100000 in
set_option maxHeartbeats 4000000 in
/-- What all tells of an application. -/
theorem aall_any {w : World} {R Rk Rs n : Nat} (h1 : w.heap[R]? = some (.cells #[.pointer (some ⟨Rk, 0, none⟩), .pointer (some ⟨Rs, 0, none⟩), .int .u64 (n : Int)] 92 (0, 0))) : Calls Tryz.prog 30 #[.pointer (some ⟨R, 0, none⟩)] w fun e W' => e = .returned (.agg #[.pointer (some ⟨Rk, 0, none⟩), .pointer (some ⟨Rs, 0, none⟩), .int .u64 (n : Int)]) ∧ Below w.heap.size w W' := by
  obtain ⟨W0, hW0⟩ : ∃ W0, W0 = w.alloc (Obj.cells #[.pointer none, .pointer none, .int .u64 0] 77) := ⟨_, rfl⟩
  obtain ⟨hb0, k0, s0⟩ := box_new hW0
  have h2 := (hb0.block R (Array.getElem?_eq_some_iff.1 h1).1).trans h1
  have c0 : W0.cell? ⟨R, 0, none⟩ = some (.pointer (some ⟨Rk, 0, none⟩)) := by simpa using blk_cell h2 0
  have c1 : W0.cell? ⟨R, 1, none⟩ = some (.pointer (some ⟨Rs, 0, none⟩)) := by simpa using blk_cell h2 1
  have c2 : W0.cell? ⟨R, 2, none⟩ = some (.int .u64 (n : Int)) := by simpa using blk_cell h2 2
  obtain ⟨g, hg⟩ : ∃ g, g = w.heap.size := ⟨_, rfl⟩
  rw [← hg] at k0
  have y0 : W0.cell? ⟨g, 0, none⟩ = some (.pointer none) := by simpa using blk_cell k0 0
  have y1 : W0.cell? ⟨g, 1, none⟩ = some (.pointer none) := by simpa using blk_cell k0 1
  have y2 : W0.cell? ⟨g, 2, none⟩ = some (.int .u64 0) := by simpa using blk_cell k0 2
  have u0 := blk_frozen k0 0
  have u1 := blk_frozen k0 1
  have u2 := blk_frozen k0 2
  have HB := Lib.hid (And.intro hb0 (And.intro k0 hg))
  clear h1 h2 hb0 k0 s0
  go_enter Tryz.func30, Tryz.ntmps30
  go_upto_region 1 with (fail)
  rw [← hW0, ← hg]
  clear hW0 hg
  go_wp2
  obtain ⟨W3, hW3⟩ : ∃ W3, W3 = ((W0.setCell ⟨g, 0, none⟩ (.pointer (some ⟨Rk, 0, none⟩))).setCell ⟨g, 1, none⟩ (.pointer (some ⟨Rs, 0, none⟩))).setCell ⟨g, 2, none⟩ (.int .u64 (n : Int)) := ⟨_, rfl⟩
  rw [← hW3]
  have k3 : W3.heap[g]? = some (.cells #[.pointer (some ⟨Rk, 0, none⟩), .pointer (some ⟨Rs, 0, none⟩), .int .u64 (n : Int)] 77 (0, 0)) := by rw [hW3]; exact blk_set (blk_set (blk_set HB.out.2.1 0 _) 1 _) 2 _
  have f0 : W3.cell? ⟨g, 0, none⟩ = some (.pointer (some ⟨Rk, 0, none⟩)) := by simpa using blk_cell k3 0
  have f1 : W3.cell? ⟨g, 1, none⟩ = some (.pointer (some ⟨Rs, 0, none⟩)) := by simpa using blk_cell k3 1
  have f2 : W3.cell? ⟨g, 2, none⟩ = some (.int .u64 (n : Int)) := by simpa using blk_cell k3 2
  have hgs : w.heap.size ≤ g := by rw [HB.out.2.2]; exact Nat.le_refl _
  have fb : Below w.heap.size w W3 := by rw [hW3]; exact ((HB.out.1.setCell (p := ⟨g, 0, none⟩) hgs _).setCell (p := ⟨g, 1, none⟩) hgs _).setCell (p := ⟨g, 2, none⟩) hgs _
  exact bodyPost_ret (v := .agg #[.pointer (some ⟨Rk, 0, none⟩), .pointer (some ⟨Rs, 0, none⟩), .int .u64 (n : Int)]) (by simp [results, Tryz.results30, go_sem, f0, f1, f2]) rfl ⟨rfl, fb⟩
end Go.Proofs.YtfjmdkhemnmkpaaGreatDoor

namespace Go.Proofs.YtfjmdkhemnmkpaaGreatDoor
open Go.RowKit
section
variable {n : Nat} {ops : Array Oper} {i : Nat} {o : Oper} {a : Act} {w : World} {K : Act → World → Prop} {Q : Exit → Act → World → Prop}
theorem step_fieldF {t : TypeId} {x : Operand} {j : Nat} {vx v : Value} (hi : ops[i]? = some o) (hw : Region.wanted o (yielded ops a.tmps) = true) (ho : o.op = .fieldAddr t x j) (hx : a.eval x = vx) (hr : (Instr.fieldAt t vx j).run Tryz.prog w = .ok v w) (h : K (a.put o.dst v) w) : wpOpIn Fence.wide n Tryz.prog ops Q i K a w :=
  step_run hi hw (by rw [ho]; intro c h; cases h) (by simp [Oper.about, ho]) (by simp [execOp, ho, hx, hr]) h
theorem step_nilCheckF {x : Operand} {p : Addr} (hi : ops[i]? = some o) (hw : Region.wanted o (yielded ops a.tmps) = true) (ho : o.op = .nilCheck x) (hx : a.eval x = .pointer (some p)) (_ : True) (h : K (a.put o.dst (.pointer (some p))) w) : wpOpIn Fence.wide n Tryz.prog ops Q i K a w :=
  step_run hi hw (by rw [ho]; intro c h; cases h) (by simp [Oper.about, ho]) (by simp [execOp, ho, hx]) h
theorem step_extractF {x : Operand} {j : Nat} {vs : Array Value} {v : Value} (hi : ops[i]? = some o) (hw : Region.wanted o (yielded ops a.tmps) = true) (ho : o.op = .extract x j) (hx : a.eval x = .tuple vs) (hv : vs[j]? = some v) (h : K (a.put o.dst v) w) : wpOpIn Fence.wide n Tryz.prog ops Q i K a w :=
  step_run hi hw (by rw [ho]; intro c h; cases h) (by simp [Oper.about, ho]) (by simp [execOp, ho, hx, Instr.extract, hv]) h
end
theorem edge_ofF {o : Oper} {L : Nat → Bool} (hpre : ∀ e ∈ o.after, Region.binds .any e = true → L e.on = true) (j : Nat) (h : hasEdge o j = true) : L j = true := by
  unfold hasEdge at h
  rw [List.any_eq_true] at h
  obtain ⟨e, he, h1⟩ := h
  have h2 : e.on = j ∧ Region.binds .any e = true := by simpa using h1
  rw [← h2.1]
  exact hpre e (by simpa using he) h2.2
theorem beq_noF {L : Nat → Bool} {i j : Nat} (h : (j == i) = false) : (L j || j == i) = L j := by rw [h, Bool.or_false]
def reachB (ops : List Oper) : Nat → Nat → Nat → Bool
  | 0, _, _ => false
  | n + 1, j, i => match ops[j]? with
    | none => false
    | some o => o.after.toList.any fun e => Region.binds .any e && (e.on == i || reachB ops n e.on i)
theorem reach_ofF {ops : List Oper} {L : Nat → Bool} (hcl : ∀ j o' e, ops.toArray[j]? = some o' → L j = true → e ∈ o'.after → Region.binds .any e = true → L e.on = true) (n j i : Nat) (h : reachB ops n j i = true) (hj : L j = true) : L i = true := by
  induction n generalizing j with
  | zero => cases h
  | succ n ih =>
    unfold reachB at h
    cases ho : ops[j]? with
    | none => rw [ho] at h; cases h
    | some o =>
      rw [ho] at h
      simp only [List.any_eq_true, Bool.and_eq_true, Bool.or_eq_true, beq_iff_eq] at h
      obtain ⟨e, he, hb, h⟩ := h
      have h1 := hcl j o e (by simpa using ho) hj (by simpa using he) hb
      rcases h with h | h
      · rw [← h]; exact h1
      · exact ih _ h h1
theorem not_yetF {ops : List Oper} {L : Nat → Bool} (hcl : ∀ j o' e, ops.toArray[j]? = some o' → L j = true → e ∈ o'.after → Region.binds .any e = true → L e.on = true) (n : Nat) {i j : Nat} (h : reachB ops n j i = true) (hi : L i = false) : L j = false := by
  cases hj : L j with
  | false => rfl
  | true =>
    have := reach_ofF hcl n j i h hj
    rw [hi] at this; cases this
end Go.Proofs.YtfjmdkhemnmkpaaGreatDoor

namespace Go.Proofs.YtfjmdkhemnmkpaaGreatDoor
open Go.RowKit
theorem run_ldK1 (w : World) (p : Addr) (v : Value) (h : w.cell? p = some v) : (Instr.loadAt 74 (.pointer (some p))).run Tryz.prog w = .ok v w := by
  simp [go_sem, h]
theorem run_ldS1 (w : World) (p : Addr) (v : Value) (h : w.cell? p = some v) : (Instr.loadAt 75 (.pointer (some p))).run Tryz.prog w = .ok v w := by
  simp [go_sem, h]
theorem run_fdC0 (w : World) (g : Nat) : (Instr.fieldAt 77 (.pointer (some ⟨g, 0, none⟩)) 0).run Tryz.prog w = .ok (.pointer (some ⟨g, 0, none⟩)) w := by
  first
    | kernel_rfl
    | (simp [go_sem, Instr.fieldAt]; done)
theorem run_fdC1 (w : World) (g : Nat) : (Instr.fieldAt 77 (.pointer (some ⟨g, 0, none⟩)) 1).run Tryz.prog w = .ok (.pointer (some ⟨g, 1, none⟩)) w := by
  first
    | kernel_rfl
    | (simp [go_sem, Instr.fieldAt]; done)
end Go.Proofs.YtfjmdkhemnmkpaaGreatDoor
