/- Parts of the proof: SqA, SqB, SqC, SqP, Loop3, SqK. -/
import Derived.Test.YtfjmdkhemnmkpaaGreatDoorA08
import Derived.Test.YtfjmdkhemnmkpaaGreatDoorA01
import Derived.Test.YtfjmdkhemnmkpaaGreatDoorProg
import Derived.Test.YtfjmdkhemnmkpaaGreatDoorRows
import Derived.Laws.BitsAllLaws
import Derived.Laws.Bits64
import Derived.Laws.BitsLemmas
import Derived.Below
import Derived.Laws.OwnMore
import Derived.Laws.MakeOwn
import Derived.Laws.CopyRow
import Derived.Laws.IdiomCopy
import Derived.Laws.BytesArg
import Derived.Shelf.Bytes.SlSmallAll
import Derived.Deep.AppendLies
import Derived.Deep.AppendSrc
import Derived.OwnWalk
import Derived.BigFrame
import Derived.OwnWalkIn
import Derived.Maps.AppendAt
import Derived.OrdersIn
import Derived.RangeFuncBox
import Derived.WalkKit
import Derived.Lib.Hide
import Derived.Lib.SliceRun
import Derived.ProofKit
import Derived.Deep.RegionHeld3
import Derived.RangeFuncNested
import Derived.RangeFuncBound
import Derived.RangeFuncCalls
import Derived.RangeFuncLeaves
import Derived.Maps.OwnSet
import Derived.Deep.QuietTactic
import Derived.BigQuiet
import Derived.Handy
import Derived.Deep.DeepCutAuto
import Derived.Laws.StructEq
import Derived.Shelf.SlMaps.Clone
import Derived.RangeFuncSeq
import Derived.Shelf.AbstractIn
import Derived.Sort.MapsRangeIn
import Derived.TacticsInMore
import Derived.RegionIn
import Derived.LoopNIn
import Derived.LoopIn
import Derived.Shelf.SlIter.Nil
namespace Go.Proofs.YtfjmdkhemnmkpaaGreatDoor
open Go.RowKit Go.Maps Go.WideMaps
def litT (b : ByteArray) : Lit := .string b.data.toList
theorem litT_inj {a b : ByteArray} (h : litT a = litT b) : a = b := by
  have : a.data.toList = b.data.toList := by simpa [litT] using h
  exact ByteArray.ext (Array.ext' this)
def kyS (c : Nat) : Lit := .int .u32 (c : Int)
theorem same_kyS (a b : Nat) : (kyS a).sameKey (kyS b) = decide (a = b) := by
  simp [kyS, Lit.sameKey, Int.natCast_inj]
theorem before_kyS (a b : Nat) : (kyS a).before (kyS b) = decide (a < b) := by
  simp [kyS, Lit.before]
def sessD (e : SE) : DataW Unit := .agg [.lit (.int .u32 (e.sq : Int)), .lit (.int .u8 (e.cd : Int)), .lit (litT e.tx)]
def mapS (l : List SE) : DataW Unit := .map (l.map fun e => (kyS e.cl, sessD e))
theorem filter_none_lt {l : List SE} {c : Nat} (h : ∀ x ∈ l, c < x.cl) : l.filter (fun x => decide (x.cl < c)) = [] := by
  rw [List.filter_eq_nil_iff]
  intro x hx
  have := h x hx
  simp
  omega
theorem filter_all_gt {l : List SE} {c : Nat} (h : ∀ x ∈ l, c < x.cl) : l.filter (fun x => decide (c < x.cl)) = l := by
  rw [List.filter_eq_self]
  intro x hx
  simpa using h x hx
theorem insert_S (e : SE) : ∀ r : List SE, SortedE r → (∀ x ∈ r, x.cl ≠ e.cl) → DataW.insert (kyS e.cl, sessD e) (r.map fun x => (kyS x.cl, sessD x)) = (setS r e).map fun x => (kyS x.cl, sessD x)
  | [], _, _ => rfl
  | x :: r, hs, h => by
    have hx := h x (List.mem_cons_self ..)
    have hs' := List.pairwise_cons.1 hs
    have ih := insert_S e r hs'.2 (fun q hq => h q (List.mem_cons_of_mem _ hq))
    rw [List.map_cons, DataW.insert, before_kyS]
    by_cases hl : e.cl < x.cl
    · rw [if_pos (by simpa using hl)]
      have ha : ∀ y ∈ x :: r, e.cl < y.cl := fun y hy => by
        rcases List.mem_cons.1 hy with rfl | hy
        · exact hl
        · have := hs'.1 y hy; omega
      unfold setS
      rw [filter_none_lt ha, filter_all_gt ha]
      rfl
    · rw [if_neg (by simpa using hl), ih]
      have h1 : x.cl < e.cl := by omega
      unfold setS
      rw [List.filter_cons, if_pos (by simpa using h1), List.filter_cons, if_neg (by simpa using hl)]
      rfl
theorem mapS_put {l : List SE} (hs : SortedE l) (e : SE) : (mapS l).put (kyS e.cl) (sessD e) = mapS (setS l e) := by
  simp only [mapS, DataW.put]
  have h1 : (l.map fun x => (kyS x.cl, sessD x)).filter (fun p => !p.1.sameKey (kyS e.cl)) = (l.filter fun x => decide (x.cl ≠ e.cl)).map fun x => (kyS x.cl, sessD x) := by
    rw [List.filter_map]
    congr 1
    refine List.filter_congr fun x _ => ?_
    simp [same_kyS]
  rw [h1, insert_S e _ (hs.filter _) (fun x hx => by have := (List.mem_filter.1 hx).2; simpa using this)]
  unfold setS
  rw [List.filter_filter, List.filter_filter]
  have e1 : ∀ x : SE, (decide (x.cl < e.cl) && decide (x.cl ≠ e.cl)) = decide (x.cl < e.cl) := fun x => by
    rw [Bool.eq_iff_iff]; simp; omega
  have e2 : ∀ x : SE, (decide (e.cl < x.cl) && decide (x.cl ≠ e.cl)) = decide (e.cl < x.cl) := fun x => by
    rw [Bool.eq_iff_iff]; simp; omega
  simp only [e1, e2]
theorem mapS_at (l : List SE) (c : Nat) (z : DataW Unit) : (mapS l).atKey (kyS c) z = (lookS l c).elim z sessD := by
  simp only [mapS, DataW.atKey]
  have : (l.map fun x => (kyS x.cl, sessD x)).find? (fun p => p.1.sameKey (kyS c)) = (l.find? fun x => decide (x.cl = c)).map fun x => (kyS x.cl, sessD x) := by
    rw [List.find?_map]
    congr 2
    funext x
    simp [same_kyS]
  rw [this, lookS]
  cases l.find? fun x => decide (x.cl = c) <;> rfl
theorem mapS_has (l : List SE) (c : Nat) : has (mapS l) (kyS c) = (lookS l c).isSome := by
  simp only [mapS, has_eq]
  rw [lookS, List.any_map, Bool.eq_iff_iff, List.any_eq_true, List.find?_isSome]
  simp [same_kyS]
theorem mapS_size (l : List SE) : size (mapS l) = l.length := by simp [mapS, size_eq]
def sessV (e : SE) : Value := .agg #[.int .u32 (e.sq : Int), .int .u8 (e.cd : Int), .string e.tx]
def sessR (v : Value) : Option (DataW Unit × List MemPlace) := match v with
  | .agg cs => match cs.toList with
    | [.int .u32 s, .int .u8 c, .string t] => if 0 ≤ s ∧ 0 ≤ c ∧ t.size ≤ maxLen then some (.agg [.lit (.int .u32 s), .lit (.int .u8 c), .lit (litT t)], []) else none
    | _ => none
  | _ => none
theorem sessR_mk {e : SE} (h : e.tx.size ≤ maxLen) : sessR (sessV e) = some (sessD e, []) := by
  simp [sessR, sessV, sessD, h]
theorem sessR_inv {v : Value} {z : DataW Unit × List MemPlace} (h : sessR v = some z) : ∃ e : SE, v = sessV e ∧ z = (sessD e, []) := by
  unfold sessR at h
  split at h
  · rename_i cs
    split at h
    · rename_i s c t hc
      split at h
      · rename_i h0
        cases h
        refine ⟨⟨0, s.toNat, c.toNat, t⟩, ?_, ?_⟩
        · rw [sessV]
          congr 1
          refine Array.ext' ?_
          rw [hc]
          show _ = [Value.int .u32 ((s.toNat : Nat) : Int), Value.int .u8 ((c.toNat : Nat) : Int), Value.string t]
          rw [Int.toNat_of_nonneg h0.1, Int.toNat_of_nonneg h0.2.1]
        · show _ = ((DataW.agg [DataW.lit (.int .u32 ((s.toNat : Nat) : Int)), DataW.lit (.int .u8 ((c.toNat : Nat) : Int)), DataW.lit (litT t)] : DataW Unit), [])
          rw [Int.toNat_of_nonneg h0.1, Int.toNat_of_nonneg h0.2.1]
      · cases h
    · cases h
  · cases h
theorem sessD_eq {a b : SE} (h : sessD a = sessD b) : sessV a = sessV b := by
  simp only [sessD, DataW.agg.injEq, List.cons.injEq, DataW.lit.injEq, Lit.int.injEq, and_true, true_and] at h
  obtain ⟨h1, h2, h3⟩ := h
  rw [sessV, sessV, h1, h2, litT_inj h3]
theorem zeroSv (w : World) : (zeroValue 111).run Tryz.prog w = .ok (sessV ⟨0, 0, 0, ⟨#[]⟩⟩) w := by kernel_rfl
theorem keyedU32 : Maps.Keyed Tryz.prog 54 := Maps.int_keyed Tryz.underlying54
def MapQS (w : World) (b : Nat) (l : List SE) : Prop := w.ownsMap Tryz.prog 54 sessR b l.length (mapS l)
def MapOS (w : World) (p : Option Nat) (l : List SE) : Prop := match p with
  | none => l = []
  | some b => MapQS w b l
def valS (l : List SE) (c : Nat) : SE := (lookS l c).getD ⟨0, 0, 0, ⟨#[]⟩⟩
section
variable {w w' : World} {b n : Nat} {l : List SE} {p : Option Nat}
theorem MapQS.of (h : w.ownsMap Tryz.prog 54 sessR b n (mapS l)) : MapQS w b l := by
  obtain ⟨es, clock, hb, F, hs, hD⟩ := h
  refine ⟨es, clock, hb, F, ?_, hD⟩
  have := congrArg Maps.size hD
  rw [mapS_size] at this
  simp [Maps.size, length_sorted] at this
  omega
theorem MapQS.new (w : World) : MapQS (w.alloc (.map #[] 0)) w.heap.size [] := World.ownsMap_made w _ _ _
theorem MapQS.lt (h : MapQS w b l) : b < w.heap.size := World.ownsMap.lt h
theorem MapQS.keep (h : MapQS w b l) (hk : w'.heap[b]? = w.heap[b]?) : MapQS w' b l := by
  obtain ⟨es, clock, hb, F, hs, hD⟩ := h
  exact ⟨es, clock, hk.trans hb, F, hs, hD⟩
theorem MapQS.blk (h : MapQS w b l) : ∃ es clock, w.heap[b]? = some (.map es clock) := by
  obtain ⟨es, clock, hb, _⟩ := h
  exact ⟨es, clock, hb⟩
theorem MapQS.below (h : MapQS w b l) (hb : Below w.heap.size w w') : MapQS w' b l := h.keep (hb.block b h.lt)
theorem wf_u32nS {c : Nat} (h : c < 4294967296) : (Lit.int .u32 (c : Int)).wf = true := by
  simp [Lit.wf, IntKind.min, IntKind.max, IntKind.signed, IntKind.bits]
  omega
theorem keyU {c : Nat} (h : c < 4294967296) : keyOf Tryz.prog 54 (.int .u32 (c : Int)) = some (kyS c) := keyOf_int_mk Tryz.underlying54 (wf_u32nS h)
theorem look_valS {v : Value} {c : Nat} {ps : List MemPlace} (h : sessR v = some ((mapS l).atKey (kyS c) (sessD ⟨0, 0, 0, ⟨#[]⟩⟩), ps)) : v = sessV (valS l c) := by
  obtain ⟨e, rfl, hz⟩ := sessR_inv h
  rw [mapS_at] at hz
  have h1 := congrArg Prod.fst hz
  unfold valS
  cases hl : lookS l c with
  | none => rw [hl] at h1; exact (sessD_eq h1).symm
  | some x => rw [hl] at h1; exact (sessD_eq h1).symm
theorem MapQS.look (h : MapQS w b l) {c : Nat} (hc : c < 4294967296) : (Instr.lookup 123 (.map (some b)) (.int .u32 (c : Int)) true).run Tryz.prog w = .ok (.tuple #[sessV (valS l c), .bool (lookS l c).isSome]) w := by
  obtain ⟨v, ps, hrun, hv⟩ := World.ownsMap.look_ok h keyedU32 Tryz.underlying123 (zeroSv w) (sessR_mk (e := ⟨0, 0, 0, ⟨#[]⟩⟩) (by decide)) (keyU hc)
  rw [look_valS hv, mapS_has] at hrun
  exact hrun
theorem MapQS.put (h : MapQS w b l) (hs : SortedE l) (hn : l.length < maxLen) {e : SE} (hc : e.cl < 4294967296) (ht : e.tx.size ≤ maxLen) : ∃ w', (Instr.mapUpdate 123 (.map (some b)) (.int .u32 (e.cl : Int)) (sessV e)).run Tryz.prog w = .ok () w' ∧ MapQS w' b (setS l e) ∧ w.grownBy w' (some b) := by
  obtain ⟨w', hrun, h1, h2⟩ := World.ownsMap.update h keyedU32 Tryz.underlying123 hn (keyU hc) (sessR_mk ht)
  rw [mapS_put hs] at h1
  exact ⟨w', hrun, MapQS.of h1, h2⟩
theorem MapOS.keep (h : MapOS w p l) (hk : ∀ b, p = some b → w'.heap[b]? = w.heap[b]?) : MapOS w' p l := by
  cases p with
  | none => exact h
  | some b => exact MapQS.keep h (hk b rfl)
theorem MapOS.below (h : MapOS w p l) (hb : Below w.heap.size w w') : MapOS w' p l := by
  cases p with
  | none => exact h
  | some b => exact MapQS.below h hb
theorem MapOS.look (h : MapOS w p l) {c : Nat} (hc : c < 4294967296) : (Instr.lookup 123 (.map p) (.int .u32 (c : Int)) true).run Tryz.prog w = .ok (.tuple #[sessV (valS l c), .bool (lookS l c).isSome]) w := by
  cases p with
  | none =>
    obtain rfl : l = [] := h
    exact Maps.look_nil true keyedU32 Tryz.underlying123 (zeroSv w) (keyU hc)
  | some b => exact MapQS.look h hc
theorem MapOS.len (h : MapOS w p l) (ty : TypeId) : (Builtin.len_ #[123] ty #[.map p]).run Tryz.prog w = .ok (.int .i64 (l.length : Int)) w := by
  cases p with
  | none =>
    obtain rfl : l = [] := h
    exact Maps.len_nil Tryz.underlying123 ty
  | some b =>
    have := World.ownsMap.len (show w.ownsMap _ _ _ b _ _ from h) Tryz.underlying123 ty
    rw [mapS_size] at this
    exact this
theorem MapOS.blk {q : Nat} (h : MapOS w p l) (hp : p = some q) : ∃ es clock, w.heap[q]? = some (.map es clock) := by
  subst hp
  exact MapQS.blk h
end
structure StQS (w : World) (R : Nat) (p : Option Nat) (l : List SE) : Prop where
  cell : w.heap[R]? = some (.cells #[.map p] 130 (0, 0))
  map : MapOS w p l
section
variable {w w' W : World} {R : Nat} {p : Option Nat} {l l' : List SE}
theorem StQS.lt (h : StQS w R p l) : R < w.heap.size := (Array.getElem?_eq_some_iff.1 h.cell).1
theorem StQS.ne (h : StQS w R p l) : ∀ b, p = some b → R ≠ b := fun b hp e => by
  obtain ⟨es, clock, hb⟩ := h.map.blk hp
  have := h.cell
  rw [e, hb] at this
  cases this
theorem StQS.blt (h : StQS w R p l) : ∀ b, p = some b → b < w.heap.size := fun b hp => by
  obtain ⟨es, clock, hb⟩ := h.map.blk hp
  exact (Array.getElem?_eq_some_iff.1 hb).1
theorem StQS.below (h : StQS w R p l) (hb : Below w.heap.size w w') : StQS w' R p l := ⟨(hb.block R h.lt).trans h.cell, h.map.below hb⟩
theorem StQS.keep (h : StQS w R p l) (hR : w'.heap[R]? = w.heap[R]?) (hk : ∀ b, p = some b → w'.heap[b]? = w.heap[b]?) : StQS w' R p l := ⟨hR.trans h.cell, h.map.keep hk⟩
theorem StQS.mp (h : StQS w R p l) : w.cell? ⟨R, 0, none⟩ = some (.map p) := by simpa using blk_cell h.cell 0
theorem StQS.fz (h : StQS w R p l) : w.frozen? ⟨R, 0, none⟩ = false := blk_frozen h.cell 0
structure ChgS (w W : World) (R : Nat) (p : Option Nat) (l : List SE) : Prop where
  ex : ∃ p', StQS W R p' l ∧ ∀ b, p' = some b → p = some b ∨ w.heap.size ≤ b
  only : Only (fun x => x = R ∨ p = some x) w W
theorem ChgS.same (h : StQS w R p l) (hb : Below w.heap.size w W) : ChgS w W R p l := ⟨⟨p, h.below hb, fun _b hp => .inl hp⟩, Only.of_grew hb⟩
theorem ChgS.trans {w0 : World} {p' : Option Nat} {l2 : List SE} (hp : ∀ b, p' = some b → p = some b ∨ w0.heap.size ≤ b) (ho : Only (fun x => x = R ∨ p = some x) w0 w) (h : ChgS w W R p' l2) : ChgS w0 W R p l2 := by
  obtain ⟨q, s, hq⟩ := h.ex
  refine ⟨⟨q, s, fun b hb => ?_⟩, ?_⟩
  · rcases hq b hb with h1 | h1
    · exact hp b h1
    · exact .inr (Nat.le_trans ho.size h1)
  · refine ⟨h.only.os.trans ho.os, h.only.tape.trans ho.tape, h.only.output.trans ho.output, Nat.le_trans ho.size h.only.size, fun x hx hn => (h.only.block x (Nat.lt_of_lt_of_le hx ho.size) (fun e => ?_)).trans (ho.block x hx hn)⟩
    rcases e with e | e
    · exact hn (.inl e)
    · rcases hp x e with h1 | h1
      · exact hn (.inr h1)
      · omega
end
end Go.Proofs.YtfjmdkhemnmkpaaGreatDoor

namespace Go.Proofs.YtfjmdkhemnmkpaaGreatDoor
open Go.RowKit Go.Maps Go.WideMaps
theorem all_anyS {w : World} {R : Nat} {p : Option Nat} {l : List SE} (h : StQS w R p l) : Calls Tryz.prog 62 #[.pointer (some ⟨R, 0, none⟩)] w fun e W' => e = .returned (.map p) ∧ W' = w := by
  have hm := h.mp
  go_enter Tryz.func62, Tryz.ntmps62
  go_wp2
  go_ret
  exact ⟨rfl, rfl⟩
theorem new_anyS (w : World) : Calls Tryz.prog 41 #[] w fun e W' => e = .returned (.pointer (some ⟨w.heap.size, 0, none⟩)) ∧ W' = w.alloc (.cells #[.map none] 130) := by
  go_enter Tryz.func41, Tryz.ntmps41
  go_wp2
  go_ret
  exact ⟨rfl, rfl⟩
theorem box_new {w W0 : World} {cs : Array Value} {t : TypeId} (h : W0 = w.alloc (.cells cs t)) : Below w.heap.size w W0 ∧ W0.heap[w.heap.size]? = some (.cells cs t (0, 0)) ∧ W0.heap.size = w.heap.size + 1 := by
  subst h
  exact ⟨(Below.refl _ w).alloc (Nat.le_refl _) _, World.alloc_heap_new w _, Array.size_push _⟩
theorem find_fin {w W : World} {g : Nat} {cs : Array Value} (hb : Below w.heap.size w W) (k : W.heap[g]? = some (.cells cs 45 (0, 0))) (hg : w.heap.size ≤ g) (cd : Nat) (tx : ByteArray) (hcs : cs.size = 2) (V : World) (hV : V = (W.setCell ⟨g, 0, none⟩ (.int .u8 (cd : Int))).setCell ⟨g, 1, none⟩ (.string tx)) :
    Below w.heap.size w V ∧ V.cell? ⟨g, 0, none⟩ = some (.int .u8 (cd : Int)) ∧ V.cell? ⟨g, 1, none⟩ = some (.string tx) := by
  subst hV
  have k3 := blk_set (blk_set k 0 (.int .u8 (cd : Int))) 1 (.string tx)
  refine ⟨(hb.setCell (p := ⟨g, 0, none⟩) hg _).setCell (p := ⟨g, 1, none⟩) hg _, ?_, ?_⟩
  · simpa [hcs] using blk_cell k3 0
  · simpa [hcs] using blk_cell k3 1
set_option maxRecDepth 100000 in
set_option maxHeartbeats 4000000 in
theorem find_any {w : World} {p : Option Nat} {l : List SE} (h : MapOS w p l) (c s : Nat) (hc : c < 4294967296) (hs : s < 4294967296) :
    Calls Tryz.prog 63 #[.agg #[.map p], .int .u32 (c : Int), .int .u32 (s : Int)] w fun e W' => e = .returned (.tuple #[replyV (tellS l c s).1, .int .u8 ((tellS l c s).2 : Int)]) ∧ Below w.heap.size w W' := by
  have HM := Lib.hid h
  clear h
  go_enter Tryz.func63, Tryz.ntmps63
  go_upto_region 1 with (fail)
  obtain ⟨W0, hW0⟩ : ∃ W0, W0 = w.alloc (Obj.cells #[.map p] 128) := ⟨_, rfl⟩
  rw [← hW0]
  obtain ⟨W1, hW1⟩ : ∃ W1, W1 = W0.alloc (Obj.cells #[.int .u8 0, .string ⟨#[]⟩] 45) := ⟨_, rfl⟩
  rw [← hW1]
  obtain ⟨hb0, k0, s0⟩ := box_new hW0
  obtain ⟨hb1, k1, s1⟩ := box_new hW1
  have hb := hb0.trans (Below.mono hb1 hb0.size)
  have k0' := (hb1.block _ (by omega)).trans k0
  have hrun := (HM.out.below hb).look hc
  obtain ⟨v, hv⟩ : ∃ v, v = valS l c := ⟨_, rfl⟩
  obtain ⟨is, his⟩ : ∃ b, b = (lookS l c).isSome := ⟨_, rfl⟩
  rw [← hv, ← his] at hrun
  obtain ⟨q, hq⟩ : ∃ q, q = w.heap.size := ⟨_, rfl⟩
  rw [← hq] at k0' s0 ⊢
  rw [s0] at k1
  obtain ⟨g, hg⟩ : ∃ g, g = q + 1 := ⟨_, rfl⟩
  rw [← hg] at k1 ⊢
  have c0 : W1.cell? ⟨q, 0, none⟩ = some (.map p) := by simpa using blk_cell k0' 0
  have HB := Lib.hid (And.intro hb (And.intro k1 (And.intro hg (And.intro (show W1.heap.size = q + 2 by omega) (And.intro hq (And.intro hv his))))))
  unfold sessV at hrun
  obtain ⟨cl, sq, cd, tx⟩ := v
  dsimp only at hrun
  clear hb hb0 hb1 k0 k0' k1 hq hg s0 s1 hv his
  clear hW0 hW1
  go_upto_region 2 with (fail)
  obtain ⟨W2, hW2⟩ : ∃ W2, W2 = W1.alloc (Obj.cells #[.int .u32 (sq : Int), .int .u8 (cd : Int), .string tx] 111) := ⟨_, rfl⟩
  rw [← hW2]
  obtain ⟨hb2, k2, s2⟩ := box_new hW2
  have kg : W2.heap[g]? = some (.cells #[.int .u8 0, .string ⟨#[]⟩] 45 (0, 0)) := (hb2.block g (Array.getElem?_eq_some_iff.1 HB.out.2.1).1).trans HB.out.2.1
  have hgw : w.heap.size ≤ g := by have := HB.out.2.2.1; have := HB.out.2.2.2.2.1; omega
  obtain ⟨x, hx⟩ : ∃ x, x = W1.heap.size := ⟨_, rfl⟩
  rw [← hx] at k2 ⊢
  have x0 : W2.cell? ⟨x, 0, none⟩ = some (.int .u32 (sq : Int)) := by simpa using blk_cell k2 0
  have x1 : W2.cell? ⟨x, 1, none⟩ = some (.int .u8 (cd : Int)) := by simpa using blk_cell k2 1
  have x2 : W2.cell? ⟨x, 2, none⟩ = some (.string tx) := by simpa using blk_cell k2 2
  have y0 : W2.cell? ⟨g, 0, none⟩ = some (.int .u8 0) := by simpa using blk_cell kg 0
  have y1 : W2.cell? ⟨g, 1, none⟩ = some (.string ⟨#[]⟩) := by simpa using blk_cell kg 1
  have u0 := blk_frozen kg 0
  have u1 := blk_frozen kg 1
  have HF := Lib.hid (find_fin (HB.out.1.trans (Below.mono hb2 HB.out.1.size)) kg hgw)
  have HV := Lib.hid HB.out.2.2.2.2.2
  clear hb2 k2 s2 kg hgw hx HB c0 hrun hW2
  cases is with
  | false =>
    have ht : tellS l c s = ((0, ⟨#[]⟩), 0) := by
      have h2 := HV.out.2
      unfold tellS
      cases hl : lookS l c with
      | none => rfl
      | some e => rw [hl] at h2; cases h2
    obtain ⟨W3, hW3⟩ : ∃ W3, W3 = (W2.setCell ⟨g, 0, none⟩ (.int .u8 0)).setCell ⟨g, 1, none⟩ (.string ⟨#[]⟩) := ⟨_, rfl⟩
    obtain ⟨f1, f2', f3⟩ := HF.out 0 ⟨#[]⟩ rfl W3 hW3
    have f2 : W3.cell? ⟨g, 0, none⟩ = some (.int .u8 0) := f2'
    clear f2'
    have HTT := Lib.hid ht
    clear ht
    go_wp2
    rw [← hW3]
    exact bodyPost_ret (v := .tuple #[.agg #[.int .u8 0, .string ⟨#[]⟩], .int .u8 0]) (by simp [results, Tryz.results63, go_sem, f2, f3]) rfl ⟨by rw [HTT.out]; rfl, f1⟩
  | true =>
    obtain ⟨e0, hl⟩ : ∃ e, lookS l c = some e := by
      have h2 := HV.out.2
      cases hl : lookS l c with
      | none => rw [hl] at h2; cases h2
      | some e => exact ⟨e, rfl⟩
    have he0 : e0 = ⟨cl, sq, cd, tx⟩ := by
      have h1 := HV.out.1
      rw [valS, hl] at h1
      exact h1.symm
    subst he0
    have HL := Lib.hid hl
    clear hl
    by_cases hlt : sq < s
    · have hi : (sq : Int) < (s : Int) := by omega
      have ht : tellS l c s = ((0, ⟨#[]⟩), 0) := by
        unfold tellS
        rw [HL.out]
        exact if_pos hlt
      obtain ⟨W3, hW3⟩ : ∃ W3, W3 = (W2.setCell ⟨g, 0, none⟩ (.int .u8 0)).setCell ⟨g, 1, none⟩ (.string ⟨#[]⟩) := ⟨_, rfl⟩
      obtain ⟨f1, f2', f3⟩ := HF.out 0 ⟨#[]⟩ rfl W3 hW3
      have f2 : W3.cell? ⟨g, 0, none⟩ = some (.int .u8 0) := f2'
      clear f2'
      have HTT := Lib.hid ht
      clear ht
      go_wp2
      rw [← hW3]
      exact bodyPost_ret (v := .tuple #[.agg #[.int .u8 0, .string ⟨#[]⟩], .int .u8 0]) (by simp [results, Tryz.results63, go_sem, f2, f3]) rfl ⟨by rw [HTT.out]; rfl, f1⟩
    · have hi : ¬ (sq : Int) < (s : Int) := by omega
      by_cases he : sq = s
      · subst he
        have ht : tellS l c sq = ((cd, tx), 1) := by
          unfold tellS
          rw [HL.out]
          simp
        obtain ⟨W3, hW3⟩ : ∃ W3, W3 = (W2.setCell ⟨g, 0, none⟩ (.int .u8 (cd : Int))).setCell ⟨g, 1, none⟩ (.string tx) := ⟨_, rfl⟩
        obtain ⟨f1, f2', f3⟩ := HF.out cd tx rfl W3 hW3
        have f2 : W3.cell? ⟨g, 0, none⟩ = some (.int .u8 (cd : Int)) := f2'
        clear f2'
        have HTT := Lib.hid ht
        clear ht
        go_wp2
        rw [← hW3]
        exact bodyPost_ret (v := .tuple #[.agg #[.int .u8 (cd : Int), .string tx], .int .u8 1]) (by simp [results, Tryz.results63, go_sem, f2, f3]) rfl ⟨by rw [HTT.out]; rfl, f1⟩
      · have hne : ¬ (s : Int) = (sq : Int) := by omega
        have hneb : ((s : Int) == (sq : Int)) = false := by simpa using hne
        have ht : tellS l c s = ((3, ⟨#[]⟩), 2) := by
          unfold tellS
          rw [HL.out]
          dsimp only
          rw [if_neg hlt, if_neg he]
        obtain ⟨W3, hW3⟩ : ∃ W3, W3 = (W2.setCell ⟨g, 0, none⟩ (.int .u8 3)).setCell ⟨g, 1, none⟩ (.string ⟨#[]⟩) := ⟨_, rfl⟩
        obtain ⟨f1, f2', f3⟩ := HF.out 3 ⟨#[]⟩ rfl W3 hW3
        have f2 : W3.cell? ⟨g, 0, none⟩ = some (.int .u8 3) := f2'
        clear f2'
        have HTT := Lib.hid ht
        clear ht
        go_wp2
        rw [← hW3]
        exact bodyPost_ret (v := .tuple #[.agg #[.int .u8 3, .string ⟨#[]⟩], .int .u8 2]) (by simp [results, Tryz.results63, go_sem, f2, f3]) rfl ⟨by rw [HTT.out]; rfl, f1⟩
end Go.Proofs.YtfjmdkhemnmkpaaGreatDoor

namespace Go.Proofs.YtfjmdkhemnmkpaaGreatDoor
open Go.RowKit Go.Maps Go.WideMaps
set_option maxRecDepth 100000 in
set_option maxHeartbeats 4000000 in
theorem look_any {w : World} {R : Nat} {p : Option Nat} {l : List SE} (h : StQS w R p l) (c s : Nat) (hc : c < 4294967296) (hs : s < 4294967296) :
    Calls Tryz.prog 42 #[.pointer (some ⟨R, 0, none⟩), .int .u32 (c : Int), .int .u32 (s : Int)] w fun e W' => e = .returned (.tuple #[replyV (tellS l c s).1, .int .u8 ((tellS l c s).2 : Int)]) ∧ Below w.heap.size w W' := by
  obtain ⟨W0, hW0⟩ : ∃ W0, W0 = w.alloc (Obj.cells #[.int .u8 0, .string ⟨#[]⟩] 45) := ⟨_, rfl⟩
  obtain ⟨hb0, k0, s0⟩ := box_new hW0
  have h0 := h.below hb0
  have hm := h0.mp
  have HF := Lib.hid (find_any h0.map c s hc hs)
  obtain ⟨⟨⟨cd, tx⟩, r⟩, hr⟩ : ∃ x, x = tellS l c s := ⟨_, rfl⟩
  rw [← hr] at HF ⊢
  obtain ⟨g, hg⟩ : ∃ g, g = w.heap.size := ⟨_, rfl⟩
  rw [← hg] at k0
  have HB := Lib.hid (And.intro hb0 (And.intro k0 hg))
  dsimp only [replyV] at HF ⊢
  clear h h0 hb0 k0 s0 hr
  go_enter Tryz.func42, Tryz.ntmps42
  go_upto_region 1 with (fail)
  rw [← hW0, ← hg]
  clear hW0 hg
  go_wp2_with fail
  refine HF.out.mono ?_
  rintro e W1 ⟨rfl, hb1⟩
  have k1 := (hb1.block g (Array.getElem?_eq_some_iff.1 HB.out.2.1).1).trans HB.out.2.1
  have y0 : W1.cell? ⟨g, 0, none⟩ = some (.int .u8 0) := by simpa using blk_cell k1 0
  have y1 : W1.cell? ⟨g, 1, none⟩ = some (.string ⟨#[]⟩) := by simpa using blk_cell k1 1
  have u0 := blk_frozen k1 0
  have u1 := blk_frozen k1 1
  obtain ⟨W3, hW3⟩ : ∃ W3, W3 = (W1.setCell ⟨g, 0, none⟩ (.int .u8 (cd : Int))).setCell ⟨g, 1, none⟩ (.string tx) := ⟨_, rfl⟩
  obtain ⟨f1, f2, f3⟩ := find_fin (HB.out.1.trans (Below.mono hb1 HB.out.1.size)) k1 (by rw [HB.out.2.2]; exact Nat.le_refl _) cd tx rfl W3 hW3
  clear k1 hb1
  go_wp2
  rw [← hW3]
  exact bodyPost_ret (v := .tuple #[.agg #[.int .u8 (cd : Int), .string tx], .int .u8 (r : Int)]) (by simp [results, Tryz.results42, go_sem, f2, f3]) rfl ⟨rfl, f1⟩
set_option maxRecDepth 100000 in
set_option maxHeartbeats 4000000 in
theorem set_anyS {w : World} {R : Nat} {p : Option Nat} {l : List SE} (h : StQS w R p l) (hso : SortedE l) (hl : l.length ≤ 1000000) (e : SE) (hc : e.cl < 4294967296) (ht : e.tx.size ≤ maxLen) :
    Calls Tryz.prog 66 #[.pointer (some ⟨R, 0, none⟩), .int .u32 (e.cl : Int), sessV e] w fun x W' => x = .returned (.tuple #[]) ∧ ChgS w W' R p (setS l e) := by
  obtain ⟨W0, hW0⟩ : ∃ W0, W0 = w.alloc (Obj.cells #[.int .u32 (e.sq : Int), .int .u8 (e.cd : Int), .string e.tx] 111) := ⟨_, rfl⟩
  obtain ⟨hb0, k0, s0⟩ := box_new hW0
  have h0 := h.below hb0
  have hm := h0.mp
  have hz := h0.fz
  have hq := fun w => run_eql_map_nil_sl (P := Tryz.prog) w 123 _ _ p Tryz.underlying123
  obtain ⟨g, hg⟩ : ∃ g, g = w.heap.size := ⟨_, rfl⟩
  rw [← hg] at k0 s0
  have hbl := h.blt
  have hRlt := h.lt
  cases p with
  | none =>
    obtain rfl : l = [] := h.map
    obtain ⟨W1, hW1⟩ : ∃ W1, W1 = (W0.alloc (.map #[] 0)).setCell ⟨R, 0, none⟩ (.map (some W0.heap.size)) := ⟨_, rfl⟩
    have hB : Below W0.heap.size W0 (W0.alloc (.map #[] 0)) := (Below.refl _ W0).alloc (Nat.le_refl _) _
    have hm1 : MapQS W1 W0.heap.size [] := by
      rw [hW1]
      exact (MapQS.new W0).keep (Below.heap_setCell _ _ _ _ (fun e => absurd (show W0.heap.size = R by simpa using e) (by have := h0.lt; omega)))
    have hc1 : W1.heap[R]? = some (.cells #[.map (some W0.heap.size)] 130 (0, 0)) := by
      rw [hW1]
      exact blk_set ((hB.block R h0.lt).trans h0.cell) 0 _
    have hg1 : W1.heap[g]? = some (.cells #[.int .u32 (e.sq : Int), .int .u8 (e.cd : Int), .string e.tx] 111 (0, 0)) := by
      rw [hW1]
      exact (Below.heap_setCell _ _ _ _ (fun e => absurd (show g = R by simpa using e) (by omega))).trans ((hB.block g (by omega)).trans k0)
    have ho1 : Only (fun x => x = R ∨ (none : Option Nat) = some x) w W1 := by
      rw [hW1]
      exact ((Only.of_grew hb0).grew hB).setCell (p := ⟨R, 0, none⟩) (.inl (.inl rfl)) _
    obtain ⟨W2, hrun, hm2, hg2'⟩ := (show MapQS W1.drew W0.heap.size [] from hm1.keep rfl).put SortedE.nil (by decide) hc ht
    have hg2 : W1.grownBy W2 (some W0.heap.size) := ⟨hg2'.os, hg2'.tape, hg2'.output, hg2'.size, hg2'.block⟩
    have hc1' : W1.cell? ⟨R, 0, none⟩ = some (.map (some W0.heap.size)) := by simpa using blk_cell hc1 0
    have x0 : W1.cell? ⟨g, 0, none⟩ = some (.int .u32 (e.sq : Int)) := by simpa using blk_cell hg1 0
    have x1 : W1.cell? ⟨g, 1, none⟩ = some (.int .u8 (e.cd : Int)) := by simpa using blk_cell hg1 1
    have x2 : W1.cell? ⟨g, 2, none⟩ = some (.string e.tx) := by simpa using blk_cell hg1 2
    have hz1 : (W0.alloc (.map #[] 0)).frozen? ⟨R, 0, none⟩ = false := blk_frozen ((hB.block R h0.lt).trans h0.cell) 0
    have hc0 : (W0.alloc (.map #[] 0)).cell? ⟨R, 0, none⟩ = some (.map none) := by simpa using blk_cell ((hB.block R h0.lt).trans h0.cell) 0
    have hfin : ChgS w W2 R none (setS [] e) := by
      refine ⟨⟨some W0.heap.size, ⟨(hg2.block R (Array.getElem?_eq_some_iff.1 hc1).1 (fun e => by have := Option.some.inj e; have := h0.lt; omega)).trans hc1, hm2⟩, fun b e => .inr (by cases e; exact hb0.size)⟩, ho1.grown hg2 (fun j e => .inr (by cases e; exact hb0.size))⟩
    have HF := Lib.hid hfin
    have hmk := run_makeMap (P := Tryz.prog) 123 W0
    clear hm1 hm2 hg2 hg2' hc1 ho1 hB hfin hg1 k0 h0 hb0 h hbl hRlt
    obtain ⟨N, hN⟩ : ∃ N, N = W0.heap.size := ⟨_, rfl⟩
    have HN2 := Lib.hid (show w.heap.size + 1 = N by omega)
    rw [← hN] at hrun hc1' hW1 hmk
    unfold sessV at hrun ⊢
    obtain ⟨cl, sq, cd, tx⟩ := e
    dsimp only at hrun x0 x1 x2 hW0 ⊢
    go_enter Tryz.func66, Tryz.ntmps66
    go_upto_region 1 with (fail)
    rw [← hW0, ← hg]
    clear hW0
    go_upto_region 3 with (fail)
    rw [HN2.out, ← hW1]
    clear hg s0 hW1 hz hz1 hc0 hmk hN hm
    go_region
    go_end0
    exact ⟨rfl, HF.out⟩
  | some b =>
    have hblt := hbl b rfl
    obtain ⟨W2, hrun, hm2, hg2'⟩ := MapQS.put (show MapQS W0.drew b l from MapQS.keep (show MapQS W0 b l from h0.map) rfl) hso (by simp only [maxLen]; omega) hc ht
    have hg2 : W0.grownBy W2 (some b) := ⟨hg2'.os, hg2'.tape, hg2'.output, hg2'.size, hg2'.block⟩
    have hne := h.ne b rfl
    have HF : Hid (ChgS w W2 R (some b) (setS l e)) := Lib.hid ⟨⟨some b, ⟨(hg2.block R h0.lt (fun e => hne (Option.some.inj e))).trans h0.cell, hm2⟩, fun _ e => .inl e⟩, (Only.of_grew hb0).grown hg2 (fun j e => .inl (.inr e))⟩
    have x0 : W0.cell? ⟨g, 0, none⟩ = some (.int .u32 (e.sq : Int)) := by simpa using blk_cell k0 0
    have x1 : W0.cell? ⟨g, 1, none⟩ = some (.int .u8 (e.cd : Int)) := by simpa using blk_cell k0 1
    have x2 : W0.cell? ⟨g, 2, none⟩ = some (.string e.tx) := by simpa using blk_cell k0 2
    clear hm2 hg2 hg2' h h0 hb0 k0 hbl hRlt hblt hne hso
    unfold sessV at hrun ⊢
    obtain ⟨cl, sq, cd, tx⟩ := e
    dsimp only at hrun x0 x1 x2 hW0 ⊢
    go_enter Tryz.func66, Tryz.ntmps66
    go_upto_region 1 with (fail)
    rw [← hW0, ← hg]
    clear hW0 hg s0
    go_upto_region 3 with (fail)
    go_region
    go_end0
    exact ⟨rfl, HF.out⟩
theorem keepS_no {l : List SE} {c s cd : Nat} {tx : ByteArray} (h : c = 0 ∨ (tellS l c s).2 ≠ 0) : keepS l c s cd tx = l := if_neg (fun h' => by
  rcases h with h | h
  · exact h'.1 h
  · exact h h'.2)
set_option maxRecDepth 100000 in
set_option maxHeartbeats 4000000 in
theorem keep_any {w : World} {R : Nat} {p : Option Nat} {l : List SE} (h : StQS w R p l) (hso : SortedE l) (hl : l.length ≤ 1000000) (c s cd : Nat) (tx : ByteArray) (hc : c < 4294967296) (hs : s < 4294967296) (ht : tx.size ≤ maxLen) :
    Calls Tryz.prog 44 #[.pointer (some ⟨R, 0, none⟩), .int .u32 (c : Int), .int .u32 (s : Int), replyV (cd, tx)] w fun x W' => x = .returned (.tuple #[]) ∧ ChgS w W' R p (keepS l c s cd tx) := by
  obtain ⟨W0, hW0⟩ : ∃ W0, W0 = w.alloc (Obj.cells #[.int .u8 (cd : Int), .string tx] 45) := ⟨_, rfl⟩
  obtain ⟨hb0, k0, s0⟩ := box_new hW0
  have h0 := h.below hb0
  have hm := h0.mp
  have HF := Lib.hid (find_any h0.map c s hc hs)
  obtain ⟨⟨⟨cd1, tx1⟩, r⟩, hr⟩ : ∃ x, x = tellS l c s := ⟨_, rfl⟩
  rw [← hr] at HF
  obtain ⟨g, hg⟩ : ∃ g, g = w.heap.size := ⟨_, rfl⟩
  rw [← hg] at k0 s0
  have HB := Lib.hid (And.intro hb0 (And.intro k0 (And.intro hg (And.intro hr (And.intro h (And.intro hso hl))))))
  have HH := Lib.hid h0
  dsimp only [replyV] at HF ⊢
  clear h h0 hb0 k0 s0 hr hso hl
  go_enter Tryz.func44, Tryz.ntmps44
  go_upto_region 1 with (fail)
  rw [← hW0, ← hg]
  clear hW0 hg
  by_cases hc0 : c = 0
  · subst hc0
    go_wp2
    go_returns
    obtain ⟨b0, _, _, _, b4, _⟩ := HB.out
    exact ⟨rfl, by rw [keepS_no (.inl rfl)]; exact ChgS.same b4 b0⟩
  · have hci : ¬ (c : Int) = 0 := by omega
    have HC := Lib.hid hc0
    clear hc0
    go_wp2_with fail
    refine HF.out.mono ?_
    rintro e W1 ⟨rfl, hb1⟩
    have h1 := HH.out.below hb1
    have hbw := HB.out.1.trans (Below.mono hb1 HB.out.1.size)
    have k1 := (hb1.block g (Array.getElem?_eq_some_iff.1 HB.out.2.1).1).trans HB.out.2.1
    obtain ⟨W2, hW2⟩ : ∃ W2, W2 = W1.alloc (Obj.cells #[.int .u8 (cd1 : Int), .string tx1] 45) := ⟨_, rfl⟩
    obtain ⟨hb2, _, _⟩ := box_new hW2
    have h2 := h1.below hb2
    have hbw2 := hbw.trans (Below.mono hb2 hbw.size)
    have k2 := (hb2.block g (Array.getElem?_eq_some_iff.1 k1).1).trans k1
    have x0 : W2.cell? ⟨g, 0, none⟩ = some (.int .u8 (cd : Int)) := by simpa using blk_cell k2 0
    have x1 : W2.cell? ⟨g, 1, none⟩ = some (.string tx) := by simpa using blk_cell k2 1
    have HS := Lib.hid (set_anyS h2 HB.out.2.2.2.2.2.1 HB.out.2.2.2.2.2.2 ⟨c, s, cd, tx⟩ hc ht)
    have HW := Lib.hid hbw2
    have hRw := HB.out.2.2.2.2.1.lt
    clear h1 hbw k1 hb2 h2 hbw2 k2 hb1 HF
    dsimp only [sessV] at HS
    go_upto_region 3 with (fail)
    rw [← hW2]
    clear hW2
    by_cases hr0 : r = 0
    · subst hr0
      go_wp2_with fail
      refine HS.out.mono ?_
      rintro e W3 ⟨rfl, hch⟩
      have HCH := Lib.hid hch
      clear hch
      go_wp2
      go_end0
      refine ⟨rfl, ?_⟩
      rw [keepS_set HC.out (by rw [← HB.out.2.2.2.1])]
      exact ChgS.trans (fun b e => .inl e) (Only.of_grew HW.out) HCH.out
    · have hri : ¬ (r : Int) = 0 := by omega
      have HR := Lib.hid hr0
      clear hr0
      go_wp2
      go_returns
      refine ⟨rfl, ?_⟩
      rw [keepS_no (.inr (by rw [← HB.out.2.2.2.1]; exact HR.out))]
      exact ChgS.same HB.out.2.2.2.2.1 HW.out
end Go.Proofs.YtfjmdkhemnmkpaaGreatDoor

namespace Go.Proofs.YtfjmdkhemnmkpaaGreatDoor
open Go.RowKit Go.Maps
def PlQS (F : Nat → Prop) (w : World) (R : Nat) (l : List SE) : Prop := ∃ p, StQS w R p l ∧ SortedE l ∧ ∀ k, F k ↔ (k = R ∨ p = some k)
theorem PlQS.mk {w : World} {R : Nat} {p : Option Nat} {l : List SE} (h : StQS w R p l) (hs : SortedE l) : PlQS (fun k => k = R ∨ p = some k) w R l := ⟨p, h, hs, fun _ => Iff.rfl⟩
theorem only_ofS {w W : World} {F : Nat → Prop} {R : Nat} {p : Option Nat} (hF : ∀ k, F k ↔ (k = R ∨ p = some k)) (h : Only (fun x => x = R ∨ p = some x) w W) : Only F w W := h.mono fun x _ hx => (hF x).2 hx
end Go.Proofs.YtfjmdkhemnmkpaaGreatDoor

namespace Go.Proofs.YtfjmdkhemnmkpaaGreatDoor
open Go.RowKit
structure KeepsL (B : Nat) (W W' : World) : Prop where
  size : W.heap.size ≤ W'.heap.size
  same : ∀ (k : Nat) (o : Obj), B ≤ k → W.heap[k]? = some o → o.isCells = false → o.isWalk = false → W'.heap[k]? = some o
theorem KeepsL.of_grownBy {B : Nat} {W W' : World} {row : Option Nat} (hg : W.grownBy W' row) (hr : ∀ r, row = some r → ∃ o : Obj, W.heap[r]? = some o ∧ o.isWalk = true) : KeepsL B W W' :=
  ⟨hg.size, fun k o _ hk _ hw => (hg.block k (Array.getElem?_eq_some_iff.1 hk).1 (fun e => by
    obtain ⟨o', h1, h2⟩ := hr k e.symm
    rw [hk] at h1
    cases h1
    rw [hw] at h2
    cases h2)).trans hk⟩
def TiedSeqL {γ : Type} (F : Fence) (n : Nat) (P : Program) (gf : Nat) (fb lb : Array Value) (encs : γ → Array Value) (B : Nat)
    (I0 Id : World → Prop) (Iy Io : γ → World → Prop) (Ix Ixd : Code → World → Prop) : Prop :=
  ∀ (l : Nat) (G : World → Prop) (Gx : Code → World → Prop), (∀ A C, G A → KeepsL B A C → G C) → (∀ c A C, Gx c A → KeepsL B A C → Gx c C) →
    (∀ x W, Iy x W → G W → YieldAt F (n - 1) P l (encs x) W fun e W' =>
      (e = .returned (.bool true) ∧ Io x W' ∧ G W') ∨ (e = .returned (.bool false) ∧ ∃ c, Ix c W' ∧ Gx c W')) →
    ∀ W, I0 W → G W → CallsIn F n P gf (fb ++ #[.func (.yield l) #[] #[]] ++ lb) W fun e W' => (∃ v, e = .returned v) ∧ ((Id W' ∧ G W') ∨ (∃ c, Ixd c W' ∧ Gx c W'))
end Go.Proofs.YtfjmdkhemnmkpaaGreatDoor

namespace Go.Proofs.YtfjmdkhemnmkpaaGreatDoor
open Go.RowKit Go.Maps
structure KeyX where
  ss : List Nat
  c : Nat
  r : Nat
  left : Lit → Bool
  cnt : Nat
set_option maxRecDepth 100000 in
set_option maxHeartbeats 4000000 in
/-- The iterator over no map gives nothing. -/
theorem keys_nil_seq (n g B : Nat) (J : World → Prop)
    (hJ : ∀ W W' row, J W → W.grownBy W' row → (∀ r, row = some r → B ≤ r ∧ ∃ o : Obj, W.heap[r]? = some o ∧ o.isWalk = true) → J W') :
    TiedSeqL Fence.wide n Tryz.prog 103 #[] #[.pointer (some ⟨g, 0, none⟩)] (fun x : KeyX => #[.int .u32 (x.c : Int)]) B
      (fun W => J W ∧ W.cell? ⟨g, 0, none⟩ = some (.map none)) J (fun _ _ => False) (fun _ _ => False) (fun _ _ => False) (fun _ _ => False) := by
  intro y G Gx hG hGx hY W h0 hGW
  obtain ⟨hJ0, hc0⟩ := h0
  refine callsIn_of_wp Tryz.func103 rfl trivial ?_ rfl
  simp only [Tryz.ntmps103, List.size_toArray, List.length_cons, List.length_nil, Nat.reduceAdd, Nat.reduceSub, Array.replicate_succ, Array.replicate_zero, List.push_toArray, List.append_toArray, List.nil_append, List.cons_append]
  have hrg := run_range_nilMap (P := Tryz.prog) W 123 54 111 Tryz.underlying123
  have hnx : ∀ ty, (Instr.next (.pointer (some ⟨W.heap.size, 0, none⟩)) false ty).run Tryz.prog (W.alloc (.mapIter none 0 #[] 0)) = _ := fun ty => run_next_nilMap _ ty 0 0 #[]
  have HF : Hid (J (W.alloc (.mapIter none 0 #[] 0)) ∧ G (W.alloc (.mapIter none 0 #[] 0))) := Lib.hid ⟨hJ W _ none hJ0 (World.grownBy_alloc W _ none) (fun r e => by cases e), hG W _ hGW (KeepsL.of_grownBy (World.grownBy_alloc W _ none) (fun r e => by cases e))⟩
  clear hG hGx hY hGW hJ hJ0
  gi_wp2
  refine wpIn_loop_rounds 1 ?_
  rw [roundsIn_succ]
  gi_wp2
  go_end0
  exact ⟨⟨_, rfl⟩, .inl HF.out⟩
end Go.Proofs.YtfjmdkhemnmkpaaGreatDoor
