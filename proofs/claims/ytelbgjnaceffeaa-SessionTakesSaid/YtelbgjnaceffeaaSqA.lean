/- A map of clients as it lies, told by a row of entries: what a look, a store, the number of clients come to; how a table lies. -/
import Derived.Test.YtelbgjnaceffeaaSsK
import Derived.Test.YtelbgjnaceffeaaMBase
import Derived.Maps.OwnSet
import Derived.Deep.QuietTactic
import Derived.BigQuiet
import Derived.Handy
namespace Go.Proofs.Ytelbgjnaceffeaa
open Go.RowKit Go.Maps Go.WideMaps

def litT (b : ByteArray) : Lit := .string b.data.toList
theorem litT_inj {a b : ByteArray} (h : litT a = litT b) : a = b := by
  have : a.data.toList = b.data.toList := by simpa [litT] using h
  exact ByteArray.ext (Array.ext' this)
def kyS (c : Nat) : Lit := .int .u32 (c : Int)
theorem same_kyS (a b : Nat) : (kyS a).sameKey (kyS b) = decide (a = b) := by
  simp [kyS, Lit.sameKey, Int.natCast_inj]
theorem before_kyS (a b : Nat) : (kyS a).before (kyS b) = decide (a < b) := by
  simp [kyS, Lit.before]
def sessD (e : SE) : DataW Unit := .agg [.lit (.int .u32 (e.sq : Int)), .lit (.int .u8 (e.cd : Int)), .lit (litT e.tx)]
/-- Entries as a map's datum. -/
def mapS (l : List SE) : DataW Unit := .map (l.map fun e => (kyS e.cl, sessD e))
def SortedE (l : List SE) : Prop := l.Pairwise fun a b => a.cl < b.cl
/-- A client's entry is set. -/
def setS (l : List SE) (e : SE) : List SE := l.filter (fun x => decide (x.cl < e.cl)) ++ e :: l.filter (fun x => decide (e.cl < x.cl))
theorem SortedE.nil : SortedE [] := List.Pairwise.nil
theorem SortedE.set {l : List SE} (h : SortedE l) (e : SE) : SortedE (setS l e) := by
  unfold setS SortedE
  refine List.pairwise_append.2 ⟨h.filter _, List.pairwise_cons.2 ⟨fun x hx => ?_, h.filter _⟩, fun a ha b hb => ?_⟩
  · have := (List.mem_filter.1 hx).2
    simpa using this
  · have h1 : a.cl < e.cl := by simpa using (List.mem_filter.1 ha).2
    rcases List.mem_cons.1 hb with rfl | hb
    · exact h1
    · have h2 : e.cl < b.cl := by simpa using (List.mem_filter.1 hb).2
      omega
theorem filter_none_lt {l : List SE} {c : Nat} (h : ∀ x ∈ l, c < x.cl) : l.filter (fun x => decide (x.cl < c)) = [] := by
  rw [List.filter_eq_nil_iff]
  intro x hx
  have := h x hx
  simp
  omega
theorem filter_all_gt {l : List SE} {c : Nat} (h : ∀ x ∈ l, c < x.cl) : l.filter (fun x => decide (c < x.cl)) = l := by
  rw [List.filter_eq_self]
  intro x hx
  simpa using h x hx
theorem insert_S (e : SE) : ∀ r : List SE, SortedE r → (∀ x ∈ r, x.cl ≠ e.cl) → DataW.insert (kyS e.cl, sessD e) (r.map fun x => (kyS x.cl, sessD x)) = (setS r e).map fun x => (kyS x.cl, sessD x)
  | [], _, _ => rfl
  | x :: r, hs, h => by
    have hx := h x (List.mem_cons_self ..)
    have hs' := List.pairwise_cons.1 hs
    have ih := insert_S e r hs'.2 (fun q hq => h q (List.mem_cons_of_mem _ hq))
    rw [List.map_cons, DataW.insert, before_kyS]
    by_cases hl : e.cl < x.cl
    · rw [if_pos (by simpa using hl)]
      have ha : ∀ y ∈ x :: r, e.cl < y.cl := fun y hy => by
        rcases List.mem_cons.1 hy with rfl | hy
        · exact hl
        · have := hs'.1 y hy; omega
      unfold setS
      rw [filter_none_lt ha, filter_all_gt ha]
      rfl
    · rw [if_neg (by simpa using hl), ih]
      have h1 : x.cl < e.cl := by omega
      unfold setS
      rw [List.filter_cons, if_pos (by simpa using h1), List.filter_cons, if_neg (by simpa using hl)]
      rfl
theorem mapS_put {l : List SE} (hs : SortedE l) (e : SE) : (mapS l).put (kyS e.cl) (sessD e) = mapS (setS l e) := by
  simp only [mapS, DataW.put]
  have h1 : (l.map fun x => (kyS x.cl, sessD x)).filter (fun p => !p.1.sameKey (kyS e.cl)) = (l.filter fun x => decide (x.cl ≠ e.cl)).map fun x => (kyS x.cl, sessD x) := by
    rw [List.filter_map]
    congr 1
    refine List.filter_congr fun x _ => ?_
    simp [same_kyS]
  rw [h1, insert_S e _ (hs.filter _) (fun x hx => by have := (List.mem_filter.1 hx).2; simpa using this)]
  unfold setS
  rw [List.filter_filter, List.filter_filter]
  have e1 : ∀ x : SE, (decide (x.cl < e.cl) && decide (x.cl ≠ e.cl)) = decide (x.cl < e.cl) := fun x => by
    rw [Bool.eq_iff_iff]; simp; omega
  have e2 : ∀ x : SE, (decide (e.cl < x.cl) && decide (x.cl ≠ e.cl)) = decide (e.cl < x.cl) := fun x => by
    rw [Bool.eq_iff_iff]; simp; omega
  simp only [e1, e2]
theorem mapS_at (l : List SE) (c : Nat) (z : DataW Unit) : (mapS l).atKey (kyS c) z = (lookS l c).elim z sessD := by
  simp only [mapS, DataW.atKey]
  have : (l.map fun x => (kyS x.cl, sessD x)).find? (fun p => p.1.sameKey (kyS c)) = (l.find? fun x => decide (x.cl = c)).map fun x => (kyS x.cl, sessD x) := by
    rw [List.find?_map]
    congr 2
    funext x
    simp [same_kyS]
  rw [this, lookS]
  cases l.find? fun x => decide (x.cl = c) <;> rfl
theorem mapS_has (l : List SE) (c : Nat) : has (mapS l) (kyS c) = (lookS l c).isSome := by
  simp only [mapS, has_eq]
  rw [lookS, List.any_map, Bool.eq_iff_iff, List.any_eq_true, List.find?_isSome]
  simp [same_kyS]
theorem mapS_size (l : List SE) : size (mapS l) = l.length := by simp [mapS, size_eq]

def sessV (e : SE) : Value := .agg #[.int .u32 (e.sq : Int), .int .u8 (e.cd : Int), .string e.tx]
def sessR (v : Value) : Option (DataW Unit × List MemPlace) := match v with
  | .agg cs => match cs.toList with
    | [.int .u32 s, .int .u8 c, .string t] => if 0 ≤ s ∧ 0 ≤ c ∧ t.size ≤ maxLen then some (.agg [.lit (.int .u32 s), .lit (.int .u8 c), .lit (litT t)], []) else none
    | _ => none
  | _ => none
theorem sessR_mk {e : SE} (h : e.tx.size ≤ maxLen) : sessR (sessV e) = some (sessD e, []) := by
  simp [sessR, sessV, sessD, h]
theorem sessR_inv {v : Value} {z : DataW Unit × List MemPlace} (h : sessR v = some z) : ∃ e : SE, v = sessV e ∧ z = (sessD e, []) := by
  unfold sessR at h
  split at h
  · rename_i cs
    split at h
    · rename_i s c t hc
      split at h
      · rename_i h0
        cases h
        refine ⟨⟨0, s.toNat, c.toNat, t⟩, ?_, ?_⟩
        · rw [sessV]
          congr 1
          refine Array.ext' ?_
          rw [hc]
          show _ = [Value.int .u32 ((s.toNat : Nat) : Int), Value.int .u8 ((c.toNat : Nat) : Int), Value.string t]
          rw [Int.toNat_of_nonneg h0.1, Int.toNat_of_nonneg h0.2.1]
        · show _ = ((DataW.agg [DataW.lit (.int .u32 ((s.toNat : Nat) : Int)), DataW.lit (.int .u8 ((c.toNat : Nat) : Int)), DataW.lit (litT t)] : DataW Unit), [])
          rw [Int.toNat_of_nonneg h0.1, Int.toNat_of_nonneg h0.2.1]
      · cases h
    · cases h
  · cases h
theorem sessD_eq {a b : SE} (h : sessD a = sessD b) : sessV a = sessV b := by
  simp only [sessD, DataW.agg.injEq, List.cons.injEq, DataW.lit.injEq, Lit.int.injEq, and_true, true_and] at h
  obtain ⟨h1, h2, h3⟩ := h
  rw [sessV, sessV, h1, h2, litT_inj h3]
theorem zeroSv (w : World) : (zeroValue 58).run Try.prog w = .ok (sessV ⟨0, 0, 0, ⟨#[]⟩⟩) w := by kernel_rfl
theorem keyedU : Maps.Keyed Try.prog 34 := Maps.int_keyed Try.underlying34
/-- Block b is a map that holds these entries. -/
def MapQ (w : World) (b : Nat) (l : List SE) : Prop := w.ownsMap Try.prog 34 sessR b l.length (mapS l)
/-- A map, nil or not. -/
def MapO (w : World) (p : Option Nat) (l : List SE) : Prop := match p with
  | none => l = []
  | some b => MapQ w b l
/-- What a look comes to. -/
def valS (l : List SE) (c : Nat) : SE := (lookS l c).getD ⟨0, 0, 0, ⟨#[]⟩⟩
section
variable {w w' : World} {b n : Nat} {l : List SE} {p : Option Nat}
theorem MapQ.of (h : w.ownsMap Try.prog 34 sessR b n (mapS l)) : MapQ w b l := by
  obtain ⟨es, clock, hb, F, hs, hD⟩ := h
  refine ⟨es, clock, hb, F, ?_, hD⟩
  have := congrArg Maps.size hD
  rw [mapS_size] at this
  simp [Maps.size, length_sorted] at this
  omega
theorem MapQ.new (w : World) : MapQ (w.alloc (.map #[] 0)) w.heap.size [] := World.ownsMap_made w _ _ _
theorem MapQ.lt (h : MapQ w b l) : b < w.heap.size := World.ownsMap.lt h
theorem MapQ.keep (h : MapQ w b l) (hk : w'.heap[b]? = w.heap[b]?) : MapQ w' b l := by
  obtain ⟨es, clock, hb, F, hs, hD⟩ := h
  exact ⟨es, clock, hk.trans hb, F, hs, hD⟩
theorem MapQ.blk (h : MapQ w b l) : ∃ es clock, w.heap[b]? = some (.map es clock) := by
  obtain ⟨es, clock, hb, _⟩ := h
  exact ⟨es, clock, hb⟩
theorem MapQ.below (h : MapQ w b l) (hb : Below w.heap.size w w') : MapQ w' b l := h.keep (hb.block b h.lt)
theorem wf_u32n {c : Nat} (h : c < 4294967296) : (Lit.int .u32 (c : Int)).wf = true := by
  simp [Lit.wf, IntKind.min, IntKind.max, IntKind.signed, IntKind.bits]
  omega
theorem keyU {c : Nat} (h : c < 4294967296) : keyOf Try.prog 34 (.int .u32 (c : Int)) = some (kyS c) := keyOf_int_mk Try.underlying34 (wf_u32n h)
theorem look_val {v : Value} {c : Nat} {ps : List MemPlace} (h : sessR v = some ((mapS l).atKey (kyS c) (sessD ⟨0, 0, 0, ⟨#[]⟩⟩), ps)) : v = sessV (valS l c) := by
  obtain ⟨e, rfl, hz⟩ := sessR_inv h
  rw [mapS_at] at hz
  have h1 := congrArg Prod.fst hz
  unfold valS
  cases hl : lookS l c with
  | none => rw [hl] at h1; exact (sessD_eq h1).symm
  | some x => rw [hl] at h1; exact (sessD_eq h1).symm
theorem MapQ.look (h : MapQ w b l) {c : Nat} (hc : c < 4294967296) : (Instr.lookup 64 (.map (some b)) (.int .u32 (c : Int)) true).run Try.prog w = .ok (.tuple #[sessV (valS l c), .bool (lookS l c).isSome]) w := by
  obtain ⟨v, ps, hrun, hv⟩ := World.ownsMap.look_ok h keyedU Try.underlying64 (zeroSv w) (sessR_mk (e := ⟨0, 0, 0, ⟨#[]⟩⟩) (by decide)) (keyU hc)
  rw [look_val hv, mapS_has] at hrun
  exact hrun
theorem MapQ.get (h : MapQ w b l) {c : Nat} (hc : c < 4294967296) : (Instr.lookup 64 (.map (some b)) (.int .u32 (c : Int)) false).run Try.prog w = .ok (sessV (valS l c)) w := by
  obtain ⟨v, ps, hrun, hv⟩ := World.ownsMap.lookup h keyedU Try.underlying64 (zeroSv w) (sessR_mk (e := ⟨0, 0, 0, ⟨#[]⟩⟩) (by decide)) (keyU hc)
  rw [look_val hv] at hrun
  exact hrun
theorem MapQ.put (h : MapQ w b l) (hs : SortedE l) (hn : l.length < maxLen) {e : SE} (hc : e.cl < 4294967296) (ht : e.tx.size ≤ maxLen) : ∃ w', (Instr.mapUpdate 64 (.map (some b)) (.int .u32 (e.cl : Int)) (sessV e)).run Try.prog w = .ok () w' ∧ MapQ w' b (setS l e) ∧ w.grownBy w' (some b) := by
  obtain ⟨w', hrun, h1, h2⟩ := World.ownsMap.update h keyedU Try.underlying64 hn (keyU hc) (sessR_mk ht)
  rw [mapS_put hs] at h1
  exact ⟨w', hrun, MapQ.of h1, h2⟩
theorem MapO.keep (h : MapO w p l) (hk : ∀ b, p = some b → w'.heap[b]? = w.heap[b]?) : MapO w' p l := by
  cases p with
  | none => exact h
  | some b => exact MapQ.keep h (hk b rfl)
theorem MapO.below (h : MapO w p l) (hb : Below w.heap.size w w') : MapO w' p l := by
  cases p with
  | none => exact h
  | some b => exact MapQ.below h hb
theorem MapO.look (h : MapO w p l) {c : Nat} (hc : c < 4294967296) : (Instr.lookup 64 (.map p) (.int .u32 (c : Int)) true).run Try.prog w = .ok (.tuple #[sessV (valS l c), .bool (lookS l c).isSome]) w := by
  cases p with
  | none =>
    obtain rfl : l = [] := h
    exact Maps.look_nil true keyedU Try.underlying64 (zeroSv w) (keyU hc)
  | some b => exact MapQ.look h hc
theorem MapO.get (h : MapO w p l) {c : Nat} (hc : c < 4294967296) : (Instr.lookup 64 (.map p) (.int .u32 (c : Int)) false).run Try.prog w = .ok (sessV (valS l c)) w := by
  cases p with
  | none =>
    obtain rfl : l = [] := h
    exact Maps.look_nil false keyedU Try.underlying64 (zeroSv w) (keyU hc)
  | some b => exact MapQ.get h hc
theorem MapO.len (h : MapO w p l) (ty : TypeId) : (Builtin.len_ #[64] ty #[.map p]).run Try.prog w = .ok (.int .i64 (l.length : Int)) w := by
  cases p with
  | none =>
    obtain rfl : l = [] := h
    exact Maps.len_nil Try.underlying64 ty
  | some b =>
    have := World.ownsMap.len (show w.ownsMap _ _ _ b _ _ from h) Try.underlying64 ty
    rw [mapS_size] at this
    exact this
theorem MapO.blk {q : Nat} (h : MapO w p l) (hp : p = some q) : ∃ es clock, w.heap[q]? = some (.map es clock) := by
  subst hp
  exact MapQ.blk h
end

/-- A table of these entries: a block with the address of a map, or of none. -/
structure StQ (w : World) (R : Nat) (p : Option Nat) (l : List SE) : Prop where
  cell : w.heap[R]? = some (.cells #[.map p] 68 (0, 0))
  map : MapO w p l
section
variable {w w' W : World} {R : Nat} {p : Option Nat} {l l' : List SE}
theorem StQ.lt (h : StQ w R p l) : R < w.heap.size := (Array.getElem?_eq_some_iff.1 h.cell).1
theorem StQ.ne (h : StQ w R p l) : ∀ b, p = some b → R ≠ b := fun b hp e => by
  obtain ⟨es, clock, hb⟩ := h.map.blk hp
  have := h.cell
  rw [e, hb] at this
  cases this
theorem StQ.blt (h : StQ w R p l) : ∀ b, p = some b → b < w.heap.size := fun b hp => by
  obtain ⟨es, clock, hb⟩ := h.map.blk hp
  exact (Array.getElem?_eq_some_iff.1 hb).1
theorem StQ.below (h : StQ w R p l) (hb : Below w.heap.size w w') : StQ w' R p l := ⟨(hb.block R h.lt).trans h.cell, h.map.below hb⟩
theorem StQ.keep (h : StQ w R p l) (hR : w'.heap[R]? = w.heap[R]?) (hk : ∀ b, p = some b → w'.heap[b]? = w.heap[b]?) : StQ w' R p l := ⟨hR.trans h.cell, h.map.keep hk⟩
theorem StQ.mp (h : StQ w R p l) : w.cell? ⟨R, 0, none⟩ = some (.map p) := by simpa using blk_cell h.cell 0
theorem StQ.fz (h : StQ w R p l) : w.frozen? ⟨R, 0, none⟩ = false := blk_frozen h.cell 0
/-- What a call did to a table: only its own blocks and new ones have changed. -/
structure Chg (w W : World) (R : Nat) (p : Option Nat) (l : List SE) : Prop where
  ex : ∃ p', StQ W R p' l ∧ ∀ b, p' = some b → p = some b ∨ w.heap.size ≤ b
  only : Only (fun x => x = R ∨ p = some x) w W
theorem Chg.same (h : StQ w R p l) (hb : Below w.heap.size w W) : Chg w W R p l := ⟨⟨p, h.below hb, fun _b hp => .inl hp⟩, Only.of_grew hb⟩
theorem Chg.trans {w0 : World} {p' : Option Nat} {l2 : List SE} (hp : ∀ b, p' = some b → p = some b ∨ w0.heap.size ≤ b) (ho : Only (fun x => x = R ∨ p = some x) w0 w) (h : Chg w W R p' l2) : Chg w0 W R p l2 := by
  obtain ⟨q, s, hq⟩ := h.ex
  refine ⟨⟨q, s, fun b hb => ?_⟩, ?_⟩
  · rcases hq b hb with h1 | h1
    · exact hp b h1
    · exact .inr (Nat.le_trans ho.size h1)
  · refine ⟨h.only.os.trans ho.os, h.only.tape.trans ho.tape, h.only.output.trans ho.output, Nat.le_trans ho.size h.only.size, fun x hx hn => (h.only.block x (Nat.lt_of_lt_of_le hx ho.size) (fun e => ?_)).trans (ho.block x hx hn)⟩
    rcases e with e | e
    · exact hn (.inl e)
    · rcases hp x e with h1 | h1
      · exact hn (.inr h1)
      · omega
end
end Go.Proofs.Ytelbgjnaceffeaa
