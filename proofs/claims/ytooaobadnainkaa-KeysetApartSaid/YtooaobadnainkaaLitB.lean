/- Texts as keys of maps: pairs as a map, its keys in order. -/
import Derived.Test.YtooaobadnainkaaMKvD
import Derived.Maps.OwnSet
import Derived.Sort.KeysCollected
import Derived.StringKeys
namespace Go.Proofs.Ytooaobadnainkaa
open Go.RowKit Go.Maps

def litB (b : ByteArray) : Lit := .string b.data.toList
/-- Pairs as a map's datum. -/
def mapD (l : List PV) : DataW Unit := .map (l.map fun p => (litB p.1, .lit (litB p.2)))
theorem litB_inj {a b : ByteArray} : litB a = litB b ↔ a = b :=
  ⟨fun h => by
    have : a.data.toList = b.data.toList := by simpa [litB] using h
    exact ByteArray.ext (Array.ext' this), fun h => by rw [h]⟩
theorem same_litB (a b : ByteArray) : (litB a).sameKey (litB b) = decide (a = b) := by
  by_cases h : a = b
  · subst h; simp [litB, Lit.sameKey]
  · rw [decide_eq_false h]
    exact sameKey_ne (fun e => h (litB_inj.1 e))
theorem before_less : ∀ x y : List UInt8, bytesBefore x y = Op.bytesLess x y
  | [], [] => by simp [bytesBefore, Op.bytesLess]
  | [], _ :: _ => by simp [bytesBefore, Op.bytesLess]
  | _ :: _, [] => by simp [bytesBefore, Op.bytesLess]
  | a :: x, b :: y => by rw [bytesBefore, Op.bytesLess, before_less x y]
theorem before_litB (a b : ByteArray) : (litB a).before (litB b) = ltB a b := by
  rw [ltB, ByteArray.toList_eq, ByteArray.toList_eq]
  exact before_less _ _
theorem mapD_del (l : List PV) (k : ByteArray) : (mapD l).del (litB k) = mapD (withoutP l k) := by
  simp only [mapD, DataW.del, withoutP]
  congr 1
  rw [List.filter_map]
  congr 1
  refine List.filter_congr fun p _ => ?_
  simp [same_litB]
theorem insert_litB (k v : ByteArray) : ∀ r : List PV, (∀ p ∈ r, p.1 ≠ k) → DataW.insert (litB k, (.lit (litB v) : DataW Unit)) (r.map fun p => (litB p.1, .lit (litB p.2))) = (r.take (placeP r k) ++ (k, v) :: r.drop (placeP r k)).map fun p => (litB p.1, .lit (litB p.2))
  | [], _ => rfl
  | p :: r, h => by
    have hp := h p (List.mem_cons_self ..)
    have ih := insert_litB k v r (fun q hq => h q (List.mem_cons_of_mem _ hq))
    rw [List.map_cons, DataW.insert, before_litB]
    by_cases hl : ltB p.1 k = true
    · have hk : ltB k p.1 = false := by
        cases hh : ltB k p.1
        · rfl
        · have := ltB_trans hl hh
          rw [ltB_irr] at this
          cases this
      have hpl : placeP (p :: r) k = placeP r k + 1 := by simp [placeP, hl]
      rw [hpl, if_neg (by rw [hk]; decide), ih]
      rfl
    · have hl' : ltB p.1 k = false := by simpa using hl
      have hk := ltB_tot hp hl'
      have hpl : placeP (p :: r) k = 0 := by simp [placeP, hl']
      rw [hpl, if_pos hk]
      rfl
theorem mapD_put (l : List PV) (k v : ByteArray) : (mapD l).put (litB k) (.lit (litB v)) = mapD (withP l k v) := by
  have hd := mapD_del l k
  simp only [mapD, DataW.del, DataW.map.injEq] at hd
  simp only [mapD, DataW.put]
  rw [hd, insert_litB k v _ withoutP_ne]
  rfl
theorem find_litB (l : List PV) (k : ByteArray) : (l.map fun p => (litB p.1, (.lit (litB p.2) : DataW Unit))).find? (fun p => p.1.sameKey (litB k)) = (l.find? fun p => decide (p.1 = k)).map fun p => (litB p.1, .lit (litB p.2)) := by
  rw [List.find?_map]
  congr 2
  funext p
  simp [same_litB]
theorem mapD_at (l : List PV) (k : ByteArray) (z : DataW Unit) : (mapD l).atKey (litB k) z = (lookP l k).elim z fun v => .lit (litB v) := by
  simp only [mapD, DataW.atKey]
  rw [find_litB, lookP]
  cases l.find? fun p => decide (p.1 = k) <;> rfl
theorem mapD_has (l : List PV) (k : ByteArray) : has (mapD l) (litB k) = (lookP l k).isSome := by
  simp only [mapD, has_eq]
  rw [lookP, Option.isSome_map, List.any_map, Bool.eq_iff_iff, List.any_eq_true, List.find?_isSome]
  simp [same_litB]
theorem mapD_size (l : List PV) : size (mapD l) = l.length := by simp [mapD, size_eq]
theorem mapD_keys (l : List PV) : strKeys (mapD l) = l.map fun p => p.1.data.toList := by
  simp [mapD, strKeys, strOf, litB]
theorem less_lt : ∀ x y : List UInt8, Op.bytesLess x y = true ↔ x < y
  | [], [] => by simp [Op.bytesLess]
  | [], _ :: _ => by simp [Op.bytesLess]
  | _ :: _, [] => by simp [Op.bytesLess]
  | a :: x, b :: y => by
    rw [Op.bytesLess, List.cons_lt_cons_iff, ← less_lt x y]
    simp
/-- The keys, sorted. -/
theorem sorted_keys {l : List PV} (h : SortedP l) {ss : List (List UInt8)} (hp : ss.Perm (strKeys (mapD l))) : (ss.mergeSort Go.leB).map encStr = l.map fun p => .string p.1 := by
  rw [mergeSort_of_perm hp, mapD_keys]
  have hs : (l.map fun p => p.1.data.toList).Pairwise fun x y => Go.leB x y = true := by
    refine List.pairwise_map.2 (h.imp fun {a b} hab => ?_)
    rw [ltB, ByteArray.toList_eq, ByteArray.toList_eq] at hab
    have := (less_lt _ _).1 hab
    exact decide_eq_true (List.le_of_lt this)
  rw [List.mergeSort_of_pairwise hs, List.map_map]
  refine List.map_congr_left fun p _ => ?_
  simp [encStr]
theorem keyedS : Maps.Keyed Try.prog 9 := Maps.string_keyed Try.underlying9
theorem keyL {s : ByteArray} (hs : s.size ≤ maxLen) : keyOf Try.prog 9 (.string s) = some (litB s) := WideMaps.keyOf_string_mk Try.underlying9 hs
end Go.Proofs.Ytooaobadnainkaa
