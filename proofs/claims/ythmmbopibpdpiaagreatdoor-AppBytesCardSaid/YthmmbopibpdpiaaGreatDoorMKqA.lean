/- A map of texts as it lies, told by pairs: what a look, a store, a removal, the number of keys and the sorted keys come to. No program's own code. A map of texts, each in a struct of its own, told by pairs, at the program's operations; how a state lies. Of the program it takes types alone. The package's small functions: New, all, Len, Get, set, move, done, sum. What a function of the table of effects has at hand once its command and its reply have blocks; done, move, doPut, doGet, doDel, doCas. -/
import Derived.Test.YthmmbopibpdpiaaGreatDoorMKvD
import Derived.Maps.OwnSet
import Derived.Sort.KeysCollected
import Derived.StringKeys
import Derived.Shelf.SlMaps.Clone
import Derived.Test.YthmmbopibpdpiaaGreatDoorMKvM
import Derived.Deep.QuietTactic
import Derived.BigQuiet
import Derived.Handy
-- KvD
namespace Go.Proofs.YthmmbopibpdpiaaGreatDoor
open Go.RowKit Go.Maps

def litB (b : ByteArray) : Lit := .string b.data.toList
/-- Pairs as a map's datum. -/
def mapD (l : List PV) : DataW Unit := .map (l.map fun p => (litB p.1, .lit (litB p.2)))
theorem litB_inj {a b : ByteArray} : litB a = litB b ↔ a = b :=
  ⟨fun h => by
    have : a.data.toList = b.data.toList := by simpa [litB] using h
    exact ByteArray.ext (Array.ext' this), fun h => by rw [h]⟩
theorem same_litB (a b : ByteArray) : (litB a).sameKey (litB b) = decide (a = b) := by
  by_cases h : a = b
  · subst h; simp [litB, Lit.sameKey]
  · rw [decide_eq_false h]
    exact sameKey_ne (fun e => h (litB_inj.1 e))
theorem before_less : ∀ x y : List UInt8, bytesBefore x y = Op.bytesLess x y
  | [], [] => by simp [bytesBefore, Op.bytesLess]
  | [], _ :: _ => by simp [bytesBefore, Op.bytesLess]
  | _ :: _, [] => by simp [bytesBefore, Op.bytesLess]
  | a :: x, b :: y => by rw [bytesBefore, Op.bytesLess, before_less x y]
theorem before_litB (a b : ByteArray) : (litB a).before (litB b) = ltB a b := by
  rw [ltB, ByteArray.toList_eq, ByteArray.toList_eq]
  exact before_less _ _
theorem mapD_del (l : List PV) (k : ByteArray) : (mapD l).del (litB k) = mapD (withoutP l k) := by
  simp only [mapD, DataW.del, withoutP]
  congr 1
  rw [List.filter_map]
  congr 1
  refine List.filter_congr fun p _ => ?_
  simp [same_litB]
theorem insert_litB (k v : ByteArray) : ∀ r : List PV, (∀ p ∈ r, p.1 ≠ k) → DataW.insert (litB k, (.lit (litB v) : DataW Unit)) (r.map fun p => (litB p.1, .lit (litB p.2))) = (r.take (placeP r k) ++ (k, v) :: r.drop (placeP r k)).map fun p => (litB p.1, .lit (litB p.2))
  | [], _ => rfl
  | p :: r, h => by
    have hp := h p (List.mem_cons_self ..)
    have ih := insert_litB k v r (fun q hq => h q (List.mem_cons_of_mem _ hq))
    rw [List.map_cons, DataW.insert, before_litB]
    by_cases hl : ltB p.1 k = true
    · have hk : ltB k p.1 = false := by
        cases hh : ltB k p.1
        · rfl
        · have := ltB_trans hl hh
          rw [ltB_irr] at this
          cases this
      have hpl : placeP (p :: r) k = placeP r k + 1 := by simp [placeP, hl]
      rw [hpl, if_neg (by rw [hk]; decide), ih]
      rfl
    · have hl' : ltB p.1 k = false := by simpa using hl
      have hk := ltB_tot hp hl'
      have hpl : placeP (p :: r) k = 0 := by simp [placeP, hl']
      rw [hpl, if_pos hk]
      rfl
theorem mapD_put (l : List PV) (k v : ByteArray) : (mapD l).put (litB k) (.lit (litB v)) = mapD (withP l k v) := by
  have hd := mapD_del l k
  simp only [mapD, DataW.del, DataW.map.injEq] at hd
  simp only [mapD, DataW.put]
  rw [hd, insert_litB k v _ withoutP_ne]
  rfl
theorem find_litB (l : List PV) (k : ByteArray) : (l.map fun p => (litB p.1, (.lit (litB p.2) : DataW Unit))).find? (fun p => p.1.sameKey (litB k)) = (l.find? fun p => decide (p.1 = k)).map fun p => (litB p.1, .lit (litB p.2)) := by
  rw [List.find?_map]
  congr 2
  funext p
  simp [same_litB]
theorem mapD_at (l : List PV) (k : ByteArray) (z : DataW Unit) : (mapD l).atKey (litB k) z = (lookP l k).elim z fun v => .lit (litB v) := by
  simp only [mapD, DataW.atKey]
  rw [find_litB, lookP]
  cases l.find? fun p => decide (p.1 = k) <;> rfl
theorem mapD_has (l : List PV) (k : ByteArray) : has (mapD l) (litB k) = (lookP l k).isSome := by
  simp only [mapD, has_eq]
  rw [lookP, Option.isSome_map, List.any_map, Bool.eq_iff_iff, List.any_eq_true, List.find?_isSome]
  simp [same_litB]
theorem mapD_size (l : List PV) : size (mapD l) = l.length := by simp [mapD, size_eq]
theorem mapD_keys (l : List PV) : strKeys (mapD l) = l.map fun p => p.1.data.toList := by
  simp [mapD, strKeys, strOf, litB]
theorem less_lt : ∀ x y : List UInt8, Op.bytesLess x y = true ↔ x < y
  | [], [] => by simp [Op.bytesLess]
  | [], _ :: _ => by simp [Op.bytesLess]
  | _ :: _, [] => by simp [Op.bytesLess]
  | a :: x, b :: y => by
    rw [Op.bytesLess, List.cons_lt_cons_iff, ← less_lt x y]
    simp
/-- The keys, sorted. -/
theorem sorted_keys {l : List PV} (h : SortedP l) {ss : List (List UInt8)} (hp : ss.Perm (strKeys (mapD l))) : (ss.mergeSort Go.leB).map encStr = l.map fun p => .string p.1 := by
  rw [mergeSort_of_perm hp, mapD_keys]
  have hs : (l.map fun p => p.1.data.toList).Pairwise fun x y => Go.leB x y = true := by
    refine List.pairwise_map.2 (h.imp fun {a b} hab => ?_)
    rw [ltB, ByteArray.toList_eq, ByteArray.toList_eq] at hab
    have := (less_lt _ _).1 hab
    exact decide_eq_true (List.le_of_lt this)
  rw [List.mergeSort_of_pairwise hs, List.map_map]
  refine List.map_congr_left fun p _ => ?_
  simp [encStr]
end Go.Proofs.YthmmbopibpdpiaaGreatDoor

-- KqA
namespace Go.Proofs.YthmmbopibpdpiaaGreatDoor
open Go.RowKit Go.Maps Go.WideMaps

abbrev heldV (s : ByteArray) : Value := .agg #[.string s]
def heldR (v : Value) : Option (DataW Unit × List MemPlace) := match v with
  | .agg cs => match cs.toList with
    | [.string s] => if s.size ≤ maxLen then some (.lit (litB s), []) else none
    | _ => none
  | _ => none
theorem heldR_mk {s : ByteArray} (hs : s.size ≤ maxLen) : heldR (heldV s) = some (.lit (litB s), []) := by simp [heldR, hs]
theorem heldR_inv {v : Value} {z : DataW Unit × List MemPlace} (h : heldR v = some z) : ∃ s, v = heldV s ∧ z = (.lit (litB s), []) := by
  unfold heldR at h
  split at h
  · rename_i cs
    split at h
    · rename_i s hc
      split at h
      · cases h
        exact ⟨s, by rw [heldV]; congr 1; exact Array.ext' (by simpa using hc), rfl⟩
      · cases h
    · cases h
  · cases h
theorem zeroHd (w : World) : (zeroValue 107).run Tryz.prog w = .ok (heldV ⟨#[]⟩) w := by kernel_rfl
theorem keyedS : Maps.Keyed Tryz.prog 9 := Maps.string_keyed Tryz.underlying9
/-- Block b is a map that holds these pairs. -/
def MapQ (w : World) (b : Nat) (l : List PV) : Prop := w.ownsMap Tryz.prog 9 heldR b l.length (mapD l)
/-- A map, nil or not. -/
def MapO (w : World) (p : Option Nat) (l : List PV) : Prop := match p with
  | none => l = []
  | some b => MapQ w b l
section
variable {w w' : World} {b n : Nat} {l : List PV} {p : Option Nat}
theorem MapQ.of (h : w.ownsMap Tryz.prog 9 heldR b n (mapD l)) : MapQ w b l := by
  obtain ⟨es, clock, hb, F, hs, hD⟩ := h
  refine ⟨es, clock, hb, F, ?_, hD⟩
  have := congrArg Maps.size hD
  rw [mapD_size] at this
  simp [Maps.size, length_sorted] at this
  omega
theorem MapQ.new (w : World) : MapQ (w.alloc (.map #[] 0)) w.heap.size [] := World.ownsMap_made w _ _ _
theorem MapQ.lt (h : MapQ w b l) : b < w.heap.size := World.ownsMap.lt h
theorem MapQ.keep (h : MapQ w b l) (hk : w'.heap[b]? = w.heap[b]?) : MapQ w' b l := by
  obtain ⟨es, clock, hb, F, hs, hD⟩ := h
  exact ⟨es, clock, hk.trans hb, F, hs, hD⟩
theorem MapQ.blk (h : MapQ w b l) : ∃ es clock, w.heap[b]? = some (.map es clock) := by
  obtain ⟨es, clock, hb, _⟩ := h
  exact ⟨es, clock, hb⟩
theorem MapQ.below (h : MapQ w b l) (hb : Below w.heap.size w w') : MapQ w' b l := h.keep (hb.block b h.lt)
theorem keyL {s : ByteArray} (hs : s.size ≤ maxLen) : keyOf Tryz.prog 9 (.string s) = some (litB s) := keyOf_string_mk Tryz.underlying9 hs
theorem look_val {v : Value} {k : ByteArray} {ps : List MemPlace} (h : heldR v = some ((mapD l).atKey (litB k) (.lit (litB ⟨#[]⟩)), ps)) : v = heldV ((lookP l k).getD ⟨#[]⟩) := by
  obtain ⟨s, rfl, hz⟩ := heldR_inv h
  rw [mapD_at] at hz
  have h1 := congrArg Prod.fst hz
  cases hl : lookP l k with
  | none => rw [hl] at h1; rw [litB_inj.1 (DataW.lit.inj h1).symm]; rfl
  | some x => rw [hl] at h1; rw [litB_inj.1 (DataW.lit.inj h1).symm]; rfl
theorem MapQ.look (h : MapQ w b l) {k : ByteArray} (hk : k.size ≤ maxLen) : (Instr.lookup 90 (.map (some b)) (.string k) true).run Tryz.prog w = .ok (.tuple #[heldV ((lookP l k).getD ⟨#[]⟩), .bool (lookP l k).isSome]) w := by
  obtain ⟨v, ps, hrun, hv⟩ := World.ownsMap.look_ok h keyedS Tryz.underlying90 (zeroHd w) (heldR_mk (s := ⟨#[]⟩) (by decide)) (keyL hk)
  rw [look_val hv, mapD_has] at hrun
  exact hrun
theorem MapQ.get (h : MapQ w b l) {k : ByteArray} (hk : k.size ≤ maxLen) : (Instr.lookup 90 (.map (some b)) (.string k) false).run Tryz.prog w = .ok (heldV ((lookP l k).getD ⟨#[]⟩)) w := by
  obtain ⟨v, ps, hrun, hv⟩ := World.ownsMap.lookup h keyedS Tryz.underlying90 (zeroHd w) (heldR_mk (s := ⟨#[]⟩) (by decide)) (keyL hk)
  rw [look_val hv] at hrun
  exact hrun
theorem MapQ.put (h : MapQ w b l) (hn : l.length < maxLen) {k s : ByteArray} (hk : k.size ≤ maxLen) (hs : s.size ≤ maxLen) : ∃ w', (Instr.mapUpdate 90 (.map (some b)) (.string k) (heldV s)).run Tryz.prog w = .ok () w' ∧ MapQ w' b (withP l k s) ∧ w.grownBy w' (some b) := by
  obtain ⟨w', hrun, h1, h2⟩ := World.ownsMap.update h keyedS Tryz.underlying90 hn (keyL hk) (heldR_mk hs)
  rw [mapD_put] at h1
  exact ⟨w', hrun, MapQ.of h1, h2⟩
theorem MapQ.del (h : MapQ w b l) {k : ByteArray} (hk : k.size ≤ maxLen) (ty : TypeId) : ∃ w', (Builtin.delete_ #[90, 9] ty #[.map (some b), .string k]).run Tryz.prog w = .ok (.tuple #[]) w' ∧ MapQ w' b (withoutP l k) ∧ w.grownBy w' (some b) := by
  obtain ⟨w', hrun, h1, h2⟩ := World.ownsMap.drop h keyedS Tryz.underlying90 (keyL hk) ty
  rw [mapD_del] at h1
  exact ⟨w', hrun, MapQ.of h1, h2.grown⟩
theorem MapO.keep (h : MapO w p l) (hk : ∀ b, p = some b → w'.heap[b]? = w.heap[b]?) : MapO w' p l := by
  cases p with
  | none => exact h
  | some b => exact MapQ.keep h (hk b rfl)
theorem MapO.below (h : MapO w p l) (hb : Below w.heap.size w w') : MapO w' p l := by
  cases p with
  | none => exact h
  | some b => exact MapQ.below h hb
theorem MapO.look (h : MapO w p l) {k : ByteArray} (hk : k.size ≤ maxLen) : (Instr.lookup 90 (.map p) (.string k) true).run Tryz.prog w = .ok (.tuple #[heldV ((lookP l k).getD ⟨#[]⟩), .bool (lookP l k).isSome]) w := by
  cases p with
  | none =>
    obtain rfl : l = [] := h
    exact Maps.look_nil true keyedS Tryz.underlying90 (zeroHd w) (keyL hk)
  | some b => exact MapQ.look h hk
theorem MapO.get (h : MapO w p l) {k : ByteArray} (hk : k.size ≤ maxLen) : (Instr.lookup 90 (.map p) (.string k) false).run Tryz.prog w = .ok (heldV ((lookP l k).getD ⟨#[]⟩)) w := by
  cases p with
  | none =>
    obtain rfl : l = [] := h
    exact Maps.look_nil false keyedS Tryz.underlying90 (zeroHd w) (keyL hk)
  | some b => exact MapQ.get h hk
theorem MapO.del (h : MapO w p l) {k : ByteArray} (hk : k.size ≤ maxLen) (ty : TypeId) : ∃ w', (Builtin.delete_ #[90, 9] ty #[.map p, .string k]).run Tryz.prog w = .ok (.tuple #[]) w' ∧ MapO w' p (withoutP l k) ∧ w.grownBy w' p := by
  cases p with
  | none =>
    obtain rfl : l = [] := h
    exact ⟨w, Maps.drop_nil keyedS Tryz.underlying90 (keyL hk) ty, rfl, World.grownBy.refl _ _⟩
  | some b => exact MapQ.del h hk ty
theorem MapO.len (h : MapO w p l) (ty : TypeId) : (Builtin.len_ #[90] ty #[.map p]).run Tryz.prog w = .ok (.int .i64 (l.length : Int)) w := by
  cases p with
  | none =>
    obtain rfl : l = [] := h
    exact Maps.len_nil Tryz.underlying90 ty
  | some b =>
    have := World.ownsMap.len (show w.ownsMap _ _ _ b _ _ from h) Tryz.underlying90 ty
    rw [mapD_size] at this
    exact this
theorem MapO.blk {q : Nat} (h : MapO w p l) (hp : p = some q) : ∃ es clock, w.heap[q]? = some (.map es clock) := by
  subst hp
  exact MapQ.blk h
end

/-- A state of these pairs: a block with the address of a map, or of none. -/
structure StQ (w : World) (R : Nat) (p : Option Nat) (l : List PV) : Prop where
  cell : w.heap[R]? = some (.cells #[.map p] 92 (0, 0))
  map : MapO w p l
section
variable {w w' W : World} {R : Nat} {p : Option Nat} {l l' : List PV}
theorem StQ.lt (h : StQ w R p l) : R < w.heap.size := (Array.getElem?_eq_some_iff.1 h.cell).1
theorem StQ.ne (h : StQ w R p l) : ∀ b, p = some b → R ≠ b := fun b hp e => by
  obtain ⟨es, clock, hb⟩ := h.map.blk hp
  have := h.cell
  rw [e, hb] at this
  cases this
theorem StQ.blt (h : StQ w R p l) : ∀ b, p = some b → b < w.heap.size := fun b hp => by
  obtain ⟨es, clock, hb⟩ := h.map.blk hp
  exact (Array.getElem?_eq_some_iff.1 hb).1
theorem StQ.below (h : StQ w R p l) (hb : Below w.heap.size w w') : StQ w' R p l := ⟨(hb.block R h.lt).trans h.cell, h.map.below hb⟩
theorem StQ.keep (h : StQ w R p l) (hR : w'.heap[R]? = w.heap[R]?) (hk : ∀ b, p = some b → w'.heap[b]? = w.heap[b]?) : StQ w' R p l := ⟨hR.trans h.cell, h.map.keep hk⟩
theorem StQ.mp (h : StQ w R p l) : w.cell? ⟨R, 0, none⟩ = some (.map p) := by simpa using blk_cell h.cell 0
theorem StQ.fz (h : StQ w R p l) : w.frozen? ⟨R, 0, none⟩ = false := blk_frozen h.cell 0
/-- A cell of another block was written. -/
theorem StQ.set {ty : TypeId} {rp : Array Value} {q : Nat} (h : StQ w R p l) (hk : w.heap[q]? = some (.cells rp ty (0, 0))) (hq : q ≠ R) (i : Nat) (u : Value) : StQ (w.setCell ⟨q, i, none⟩ u) R p l := by
  refine h.keep (Below.heap_setCell _ _ _ _ (fun e => hq (by simpa using e.symm))) (fun b hb => Below.heap_setCell _ _ _ _ (fun e => ?_))
  obtain ⟨es, clock, hm⟩ := h.map.blk hb
  have e' : b = q := by simpa using e
  rw [e', hk] at hm
  cases hm
/-- What a call did to a state: only its own blocks and new ones have changed. -/
structure Chg (w W : World) (R : Nat) (p : Option Nat) (l : List PV) : Prop where
  ex : ∃ p', StQ W R p' l ∧ ∀ b, p' = some b → p = some b ∨ w.heap.size ≤ b
  only : Only (fun x => x = R ∨ p = some x) w W
theorem Chg.same (h : StQ w R p l) (hb : Below w.heap.size w W) : Chg w W R p l := ⟨⟨p, h.below hb, fun _b hp => .inl hp⟩, Only.of_grew hb⟩
theorem Chg.trans {w0 : World} {p' : Option Nat} {l2 : List PV} (hp : ∀ b, p' = some b → p = some b ∨ w0.heap.size ≤ b) (ho : Only (fun x => x = R ∨ p = some x) w0 w) (h : Chg w W R p' l2) : Chg w0 W R p l2 := by
  obtain ⟨q, s, hq⟩ := h.ex
  refine ⟨⟨q, s, fun b hb => ?_⟩, ?_⟩
  · rcases hq b hb with h1 | h1
    · exact hp b h1
    · exact .inr (Nat.le_trans ho.size h1)
  · refine ⟨h.only.os.trans ho.os, h.only.tape.trans ho.tape, h.only.output.trans ho.output, Nat.le_trans ho.size h.only.size, fun x hx hn => (h.only.block x (Nat.lt_of_lt_of_le hx ho.size) (fun e => ?_)).trans (ho.block x hx hn)⟩
    rcases e with e | e
    · exact hn (.inl e)
    · rcases hp x e with h1 | h1
      · exact hn (.inr h1)
      · omega
end
end Go.Proofs.YthmmbopibpdpiaaGreatDoor

-- KqB
namespace Go.Proofs.YthmmbopibpdpiaaGreatDoor
open Go.RowKit Go.Maps Go.WideMaps

theorem all_any {w : World} {R : Nat} {p : Option Nat} {l : List PV} (h : StQ w R p l) : Calls Tryz.prog 52 #[.pointer (some ⟨R, 0, none⟩)] w fun e W' => e = .returned (.map p) ∧ W' = w := by
  have hm := h.mp
  go_enter Tryz.func52, Tryz.ntmps52
  go_wp2
  go_ret
  exact ⟨rfl, rfl⟩
theorem all_nil (w : World) : Calls Tryz.prog 52 #[.pointer none] w fun e W' => e = .returned (.map none) ∧ W' = w := by
  go_enter Tryz.func52, Tryz.ntmps52
  go_wp2
  go_ret
  exact ⟨rfl, rfl⟩
theorem new_any (w : World) : Calls Tryz.prog 19 #[] w fun e W' => e = .returned (.pointer (some ⟨w.heap.size, 0, none⟩)) ∧ W' = w.alloc (.cells #[.map none] 92) := by
  go_enter Tryz.func19, Tryz.ntmps19
  go_wp2
  go_ret
  exact ⟨rfl, rfl⟩
theorem len_any {w : World} {R : Nat} {p : Option Nat} {l : List PV} (h : StQ w R p l) : Calls Tryz.prog 40 #[.pointer (some ⟨R, 0, none⟩)] w fun e W' => e = .returned (.int .i64 (l.length : Int)) ∧ W' = w := by
  have HA := Lib.hid (all_any h)
  have hl := fun ty => h.map.len ty
  obtain ⟨L, hL⟩ : ∃ L, L = l.length := ⟨_, rfl⟩
  rw [← hL] at hl ⊢
  clear h hL
  go_enter Tryz.func40, Tryz.ntmps40
  go_wp2_with fail
  refine HA.out.mono ?_
  rintro e W ⟨rfl, rfl⟩
  go_wp2
  go_ret
  exact ⟨rfl, rfl⟩
theorem len_nil (w : World) : Calls Tryz.prog 40 #[.pointer none] w fun e W' => e = .returned (.int .i64 0) ∧ W' = w := by
  have HA := Lib.hid (all_nil w)
  have hl := fun ty => (show MapO w none [] from rfl).len ty
  go_enter Tryz.func40, Tryz.ntmps40
  go_wp2_with fail
  refine HA.out.mono ?_
  rintro e W ⟨rfl, rfl⟩
  go_wp2
  go_ret
  exact ⟨rfl, rfl⟩
set_option maxRecDepth 100000 in
theorem get_map {w : World} {p : Option Nat} {l : List PV} (hm : MapO w p l) (a : Value) (k : ByteArray) (hk : k.size ≤ maxLen) (hA : Calls Tryz.prog 52 #[a] w fun e W' => e = .returned (.map p) ∧ W' = w) :
    Calls Tryz.prog 75 #[a, .string k] w fun e W' => e = .returned (.tuple #[.string ((lookP l k).getD ⟨#[]⟩), .bool (lookP l k).isSome]) ∧ Below w.heap.size w W' := by
  have HA := Lib.hid hA
  have hrun := hm.look hk
  obtain ⟨v, hv⟩ : ∃ v, v = (lookP l k).getD ⟨#[]⟩ := ⟨_, rfl⟩
  obtain ⟨b, hb⟩ : ∃ b, b = (lookP l k).isSome := ⟨_, rfl⟩
  rw [← hv, ← hb] at hrun ⊢
  clear hm hA hv hb
  go_enter Tryz.func75, Tryz.ntmps75
  go_wp2_with fail
  refine HA.out.mono ?_
  rintro e W ⟨rfl, rfl⟩
  go_wp2
  go_ret2
  exact ⟨rfl, (Below.refl _ _).alloc (Nat.le_refl _) _⟩
theorem get_any {w : World} {R : Nat} {p : Option Nat} {l : List PV} (h : StQ w R p l) (k : ByteArray) (hk : k.size ≤ maxLen) :
    Calls Tryz.prog 75 #[.pointer (some ⟨R, 0, none⟩), .string k] w fun e W' => e = .returned (.tuple #[.string ((lookP l k).getD ⟨#[]⟩), .bool (lookP l k).isSome]) ∧ Below w.heap.size w W' := get_map h.map _ k hk (all_any h)
theorem get_nil (w : World) (k : ByteArray) (hk : k.size ≤ maxLen) :
    Calls Tryz.prog 75 #[.pointer none, .string k] w fun e W' => e = .returned (.tuple #[.string ⟨#[]⟩, .bool false]) ∧ Below w.heap.size w W' := get_map (l := []) (p := none) rfl _ k hk (all_nil w)
set_option maxRecDepth 100000 in
theorem set_any {w : World} {R : Nat} {p : Option Nat} {l : List PV} (h : StQ w R p l) (hl : l.length ≤ 1000000) (k s : ByteArray) (hk : k.size ≤ maxLen) (hs : s.size ≤ maxLen) :
    Calls Tryz.prog 31 #[.pointer (some ⟨R, 0, none⟩), .string k, .string s] w fun e W' => e = .returned (.tuple #[]) ∧ Chg w W' R p (withP l k s) := by
  have hc := h.mp
  have hz := h.fz
  have hq := fun w => run_eql_map_nil_sl (P := Tryz.prog) w 90 _ _ p Tryz.underlying90
  cases p with
  | none =>
    obtain rfl : l = [] := h.map
    obtain ⟨W1, hW1⟩ : ∃ W1, W1 = (w.alloc (.map #[] 0)).setCell ⟨R, 0, none⟩ (.map (some w.heap.size)) := ⟨_, rfl⟩
    have hR := h.lt
    have hB : Below w.heap.size w (w.alloc (.map #[] 0)) := (Below.refl _ w).alloc (Nat.le_refl _) _
    have hm1 : MapQ W1 w.heap.size [] := by
      rw [hW1]
      exact (MapQ.new w).keep (Below.heap_setCell _ _ _ _ (fun e => absurd (show w.heap.size = R by simpa using e) (by omega)))
    have hc1 : W1.heap[R]? = some (.cells #[.map (some w.heap.size)] 92 (0, 0)) := by
      rw [hW1]
      exact blk_set ((hB.block R hR).trans h.cell) 0 _
    have ho1 : Only (fun x => x = R ∨ (none : Option Nat) = some x) w W1 := by
      rw [hW1]
      exact (Only.of_grew hB).setCell (p := ⟨R, 0, none⟩) (.inl (.inl rfl)) _
    obtain ⟨W2, hrun, hm2, hg2⟩ := hm1.put (by decide) hk hs
    have hc1' : W1.cell? ⟨R, 0, none⟩ = some (.map (some w.heap.size)) := by simpa using blk_cell hc1 0
    have hz1 : (w.alloc (.map #[] 0)).frozen? ⟨R, 0, none⟩ = false := blk_frozen ((hB.block R hR).trans h.cell) 0
    have hc0 : (w.alloc (.map #[] 0)).cell? ⟨R, 0, none⟩ = some (.map none) := by simpa using blk_cell ((hB.block R hR).trans h.cell) 0
    have HH := Lib.hid (And.intro hm2 (And.intro hg2 (And.intro hc1 (And.intro ho1 hR))))
    have hfin : Chg w W2 R none (withP [] k s) := by
      obtain ⟨a1, a2, a3, a4, a5⟩ := HH.out
      refine ⟨⟨some w.heap.size, ⟨(a2.block R (by have := (Array.getElem?_eq_some_iff.1 a3).1; exact this) (fun e => by have := Option.some.inj e; omega)).trans a3, a1⟩, fun b e => .inr (by cases e; exact Nat.le_refl _)⟩, a4.grown a2 (fun j e => .inr (by cases e; exact Nat.le_refl _))⟩
    have HF := Lib.hid hfin
    clear hm1 hm2 hg2 hc1 ho1 hB hR h hfin HH
    obtain ⟨N, hN⟩ : ∃ N, N = w.heap.size := ⟨_, rfl⟩
    rw [← hN] at hrun hc1' hW1
    go_enter Tryz.func31, Tryz.ntmps31
    have hmk := run_makeMap (P := Tryz.prog) 90 w
    rw [← hN] at hmk
    go_upto_region 2 with (fail)
    first | rw [← hW1] | rw [← hN, ← hW1]
    clear hW1 hc hz hz1 hc0 hmk hN
    go_wp2
    go_end0
    exact ⟨rfl, HF.out⟩
  | some b =>
    obtain ⟨W2, hrun, hm2, hg2⟩ := MapQ.put (show MapQ w b l from h.map) (by simp only [maxLen]; omega) hk hs
    have HF : Hid (Chg w W2 R (some b) (withP l k s)) := Lib.hid ⟨⟨some b, ⟨(hg2.block R h.lt (fun e => h.ne b rfl (Option.some.inj e))).trans h.cell, hm2⟩, fun _ e => .inl e⟩, Only.of_grown hg2 (fun j e => .inr e)⟩
    clear hm2 hg2 h
    go_enter Tryz.func31, Tryz.ntmps31
    go_wp2
    go_end0
    exact ⟨rfl, HF.out⟩
end Go.Proofs.YthmmbopibpdpiaaGreatDoor

-- KqC
namespace Go.Proofs.YthmmbopibpdpiaaGreatDoor
open Go.RowKit Go.Maps Go.WideMaps

def reply0 : Array Value := #[.int .u8 0, .string ⟨#[]⟩]
/-- A command and a reply have new blocks. -/
structure Prep (w W : World) (R : Nat) (m : Option Nat) (p q : Nat) (l : List PV) (cs : Array Value) : Prop where
  st : StQ W R m l
  cmd : W.heap[p]? = some (.cells cs 34 (0, 0))
  rep : W.heap[q]? = some (.cells reply0 36 (0, 0))
  below : Below w.heap.size w W
  ps : p = w.heap.size ∧ q = p + 1
  size : W.heap.size = p + 2
theorem prep {w W0 W1 : World} {R : Nat} {m : Option Nat} {l : List PV} {cs : Array Value} (h : StQ w R m l) (h0 : W0 = w.alloc (.cells cs 34)) (h1 : W1 = W0.alloc (.cells reply0 36)) : Prep w W1 R m w.heap.size (w.heap.size + 1) l cs := by
  have hB0 : Below w.heap.size w W0 := by rw [h0]; exact (Below.refl _ w).alloc (Nat.le_refl _) _
  have hs0 : W0.heap.size = w.heap.size + 1 := by rw [h0]; exact Array.size_push _
  have hB1 : Below W0.heap.size W0 W1 := by rw [h1]; exact (Below.refl _ W0).alloc (Nat.le_refl _) _
  have hs1 : W1.heap.size = W0.heap.size + 1 := by rw [h1]; exact Array.size_push _
  have k0 : W0.heap[w.heap.size]? = some (.cells cs 34 (0, 0)) := by rw [h0]; exact World.alloc_heap_new w _
  have k1 : W1.heap[W0.heap.size]? = some (.cells reply0 36 (0, 0)) := by rw [h1]; exact World.alloc_heap_new W0 _
  have hb : Below w.heap.size w W1 := hB0.trans (Below.mono hB1 hB0.size)
  exact ⟨h.below hb, (hB1.block _ (by omega)).trans k0, by rw [← hs0]; exact k1, hb, ⟨rfl, rfl⟩, by omega⟩
section
variable {w W W' W'' : World} {R p q : Nat} {m : Option Nat} {l l' : List PV} {cs : Array Value}
theorem Prep.cell (h : Prep w W R m p q l cs) (i : Nat) : W.cell? ⟨p, i, none⟩ = cs[i]? := by simpa using blk_cell h.cmd i
theorem Prep.key (h : Prep w W R m p q l cs) {kb o : Nat} {t : ByteArray} (hlt : kb < w.heap.size) (hc : w.cell? ⟨kb, o, none⟩ = some (.string t)) : W.cell? ⟨kb, o, none⟩ = some (.string t) := (h.below.cell (p := ⟨kb, o, none⟩) hlt).trans hc
/-- Behind calls that made blocks only. -/
theorem Prep.grew (h : Prep w W R m p q l cs) (hb : Below W.heap.size W W') : StQ W' R m l ∧ W'.heap[p]? = some (.cells cs 34 (0, 0)) ∧ W'.heap[q]? = some (.cells reply0 36 (0, 0)) ∧ Below w.heap.size w W' := by
  have hs := h.size
  have hp := h.ps
  exact ⟨h.st.below hb, (hb.block p (by omega)).trans h.cmd, (hb.block q (by omega)).trans h.rep, h.below.trans (Below.mono hb h.below.size)⟩
/-- Behind a call that changed the state: the command and the reply are as they were. -/
theorem Prep.chg (h : Prep w W R m p q l cs) (hm : ∀ b, m = some b → b < w.heap.size) (hR : R < w.heap.size) (hc : Chg W W' R m l') : Chg w W' R m l' ∧ W'.heap[p]? = some (.cells cs 34 (0, 0)) ∧ W'.heap[q]? = some (.cells reply0 36 (0, 0)) := by
  have hs := h.size
  have hp := h.ps
  refine ⟨Chg.trans (fun b e => .inl e) (Only.of_grew h.below) hc, (hc.only.block p (by omega) (fun e => ?_)).trans h.cmd, (hc.only.block q (by omega) (fun e => ?_)).trans h.rep⟩
  · rcases e with e | e
    · omega
    · have := hm p e; omega
  · rcases e with e | e
    · omega
    · have := hm q e; omega
end
/-- The reply is written behind a change. -/
theorem Chg.reply {w W : World} {R : Nat} {m : Option Nat} {l : List PV} {q : Nat} {rp : Array Value} (h : Chg w W R m l) (hk : W.heap[q]? = some (.cells rp 36 (0, 0))) (hq : w.heap.size ≤ q) (hR : R < w.heap.size) (i : Nat) (u : Value) : Chg w (W.setCell ⟨q, i, none⟩ u) R m l := by
  obtain ⟨p', s, hp⟩ := h.ex
  exact ⟨⟨p', s.set hk (by omega) i u, hp⟩, h.only.setCell (p := ⟨q, i, none⟩) (.inr hq) u⟩
set_option maxRecDepth 100000 in
theorem done_any (t : ByteArray) (w : World) : Calls Tryz.prog 74 #[.string t] w fun e W' => e = .returned (ReplyV (0, t)) ∧ Below w.heap.size w W' := by
  go_enter Tryz.func74, Tryz.ntmps74
  go_upto_region 1 with (fail)
  obtain ⟨W0, hW0⟩ : ∃ W0, W0 = w.alloc (Obj.cells #[.int .u8 0, .string ⟨#[]⟩] 36) := ⟨_, rfl⟩
  rw [← hW0]
  have hB0 : Below w.heap.size w W0 := by rw [hW0]; exact (Below.refl _ w).alloc (Nat.le_refl _) _
  have k0 : W0.heap[w.heap.size]? = some (.cells reply0 36 (0, 0)) := by rw [hW0]; exact World.alloc_heap_new w _
  obtain ⟨q, hq⟩ : ∃ q, q = w.heap.size := ⟨_, rfl⟩
  rw [← hq] at k0 ⊢
  have y0 : W0.cell? ⟨q, 0, none⟩ = some (.int .u8 0) := by simpa [reply0] using blk_cell k0 0
  have y1 : W0.cell? ⟨q, 1, none⟩ = some (.string ⟨#[]⟩) := by simpa [reply0] using blk_cell k0 1
  have u0 := blk_frozen k0 0
  have u1 := blk_frozen k0 1
  have HB := Lib.hid (And.intro hB0 (And.intro k0 hq))
  clear hW0 hB0 k0 hq
  go_wp2
  obtain ⟨W3, hW3⟩ : ∃ W3, W3 = (W0.setCell ⟨q, 0, none⟩ (.int .u8 0)).setCell ⟨q, 1, none⟩ (.string t) := ⟨_, rfl⟩
  rw [← hW3]
  have k3 : W3.heap[q]? = some (.cells #[.int .u8 0, .string t] 36 (0, 0)) := by rw [hW3]; exact blk_set (blk_set HB.out.2.1 0 _) 1 _
  have hqq := HB.out.2.2
  have hb3 : Below q w W3 := by rw [hW3]; exact ((hqq ▸ HB.out.1).setCell (p := ⟨q, 0, none⟩) (Nat.le_refl _) _).setCell (p := ⟨q, 1, none⟩) (Nat.le_refl _) _
  have d0 : W3.cell? ⟨q, 0, none⟩ = some (.int .u8 0) := by simpa using blk_cell k3 0
  have d1 : W3.cell? ⟨q, 1, none⟩ = some (.string t) := by simpa using blk_cell k3 1
  exact bodyPost_ret (v := ReplyV (0, t)) (by simp [results, Tryz.results74, go_sem, d0, d1, ReplyV]) rfl ⟨rfl, hqq ▸ hb3⟩
/-- What a key had, or none, becomes another key's. -/
def putW (l : List PV) (k v : ByteArray) (is : Bool) : List PV := if is then withP l k v else withoutP l k
set_option maxRecDepth 100000 in
theorem move_any {w : World} {R : Nat} {p : Option Nat} {l : List PV} (h : StQ w R p l) (hl : l.length ≤ 1000000) (k v : ByteArray) (is : Bool) (hk : k.size ≤ maxLen) (hv : v.size ≤ maxLen) :
    Calls Tryz.prog 79 #[.pointer (some ⟨R, 0, none⟩), .string k, .string v, .bool is] w fun e W' => e = .returned (.tuple #[]) ∧ Chg w W' R p (putW l k v is) := by
  have HS := Lib.hid (set_any h hl k v hk hv)
  have hc := h.mp
  cases is with
  | true =>
    clear h hc
    go_enter Tryz.func79, Tryz.ntmps79
    go_wp2_with fail
    refine HS.out.mono ?_
    rintro e W ⟨rfl, hch⟩
    have HC := Lib.hid hch
    clear hch
    go_wp2
    go_returns
    exact ⟨rfl, HC.out⟩
  | false =>
    obtain ⟨W2, hrun, hm2, hg2⟩ := h.map.del hk 0
    have HF : Hid (Chg w W2 R p (withoutP l k)) := Lib.hid ⟨⟨p, ⟨(hg2.block R h.lt (fun e => h.ne R e.symm rfl)).trans h.cell, hm2⟩, fun _ e => .inl e⟩, Only.of_grown hg2 (fun j e => .inr e)⟩
    clear hm2 hg2 h
    go_enter Tryz.func79, Tryz.ntmps79
    go_wp2
    go_end0
    exact ⟨rfl, HF.out⟩
end Go.Proofs.YthmmbopibpdpiaaGreatDoor
