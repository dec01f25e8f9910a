/- Pairs of texts as they lie; the reference's Find. The reference's Without: pairs without a key. The reference's With: pairs with a key's value, in its place. The reference's swap. The reference's digits. The reference's Decimal. The reference's Number. The reference's add. The reference's Bytes: a state's bytes. -/
import Derived.Test.YtooaobadnainkaaMBaseO
import Derived.Test.YtooaobadnainkaaCmSpec
import Derived.Deep.DeepCutAuto
import Derived.Maps.AppendAt
import Derived.IntWalk
import Derived.Test.YtooaobadnainkaaFoldMath
-- KvSpec
namespace Go.Proofs.Ytooaobadnainkaa
open Go.RowKit
/-- A key and its value. -/
abbrev PV := ByteArray × ByteArray
/-- Pairs that lie in a row. -/
def HasP (w : World) (A : Option Addr) (l : List PV) : Prop := l ≠ [] → ∃ b o, A = some ⟨b, o, none⟩ ∧ b < w.heap.size ∧ ∀ j (h : j < l.length), w.cell? ⟨b, o + j * 2, none⟩ = some (.string l[j].1) ∧ w.cell? ⟨b, o + j * 2 + 1, none⟩ = some (.string l[j].2)
theorem HasP.below {w W : World} {A : Option Addr} {l : List PV} (h : HasP w A l) (hb : Below w.heap.size w W) : HasP W A l := fun hl => by
  obtain ⟨b, o, e, h1, h2⟩ := h hl
  exact ⟨b, o, e, Nat.lt_of_lt_of_le h1 hb.size, fun j hj => ⟨(hb.cell (p := ⟨b, o + j * 2, none⟩) h1).trans (h2 j hj).1, (hb.cell (p := ⟨b, o + j * 2 + 1, none⟩) h1).trans (h2 j hj).2⟩⟩
/-- Where a key is. -/
def findP (l : List PV) (k : ByteArray) : Nat := l.findIdx fun p => decide (p.1 = k)
def findI (l : List PV) (k : ByteArray) : Int := if findP l k < l.length then (findP l k : Int) else -1
theorem toList_inj9 {a b : ByteArray} : a.toList = b.toList ↔ a = b :=
  ⟨fun h => by rw [ByteArray.toList_eq, ByteArray.toList_eq] at h; exact ByteArray.ext (Array.ext' h), fun h => by rw [h]⟩
theorem findI_at {l : List PV} {k : ByteArray} {j : Nat} (hj : j < l.length) (h1 : l[j].1 = k) (h2 : ∀ i (hi : i < l.length), i < j → l[i].1 ≠ k) : findI l k = (j : Int) := by
  have : findP l k = j := (List.findIdx_eq hj).2 ⟨by simpa using h1, fun i hi => by simpa using h2 i (by omega) hi⟩
  rw [findI, this, if_pos hj]
theorem findI_no {l : List PV} {k : ByteArray} (h : ∀ i (hi : i < l.length), l[i].1 ≠ k) : findI l k = -1 := by
  have : ¬ findP l k < l.length := fun hlt => by
    have := List.findIdx_getElem (p := fun p : PV => decide (p.1 = k)) (xs := l) (w := hlt)
    exact h (List.findIdx (fun p : PV => decide (p.1 = k)) l) hlt (of_decide_eq_true this)
  rw [findI, if_neg this]
end Go.Proofs.Ytooaobadnainkaa
-- KvList
namespace Go.Proofs.Ytooaobadnainkaa
open Go.RowKit
/-- The cells of pairs. -/
def cellsP (l : List PV) : List Value := l.flatMap fun p => [.string p.1, .string p.2]
theorem cellsP_len : ∀ (l : List PV), (cellsP l).length = l.length * 2
  | [] => rfl
  | p :: l => by rw [cellsP, List.flatMap_cons, List.length_append]; have := cellsP_len l; rw [cellsP] at this; rw [this, List.length_cons]; simp; omega
theorem cellsP_append (l m : List PV) : cellsP (l ++ m) = cellsP l ++ cellsP m := by simp [cellsP]
theorem cellsP_one (l : List PV) : ∀ u ∈ cellsP l, u.oneCell' = true := by
  intro u hu
  obtain ⟨p, _, hp⟩ := List.mem_flatMap.1 hu
  simp at hp
  rcases hp with rfl | rfl <;> rfl
theorem cellsP_get : ∀ (l : List PV) (j : Nat) (h : j < l.length), (cellsP l)[j * 2]? = some (.string l[j].1) ∧ (cellsP l)[j * 2 + 1]? = some (.string l[j].2)
  | p :: l, 0, _ => ⟨rfl, rfl⟩
  | p :: l, j + 1, h => by
    have := cellsP_get l j (by simpa using h)
    have e : cellsP (p :: l) = .string p.1 :: .string p.2 :: cellsP l := rfl
    rw [e, show (j + 1) * 2 = j * 2 + 1 + 1 by omega]
    simpa using this
def withoutP (l : List PV) (k : ByteArray) : List PV := l.filter fun p => decide (p.1 ≠ k)
theorem withoutP_len (l : List PV) (k : ByteArray) : (withoutP l k).length ≤ l.length := List.length_filter_le _ _
theorem withoutP_succ {l : List PV} {k : ByteArray} {j : Nat} (hj : j < l.length) : withoutP (l.take (j + 1)) k = withoutP (l.take j) k ++ (if l[j].1 ≠ k then [l[j]] else []) := by
  rw [List.take_succ_eq_append_getElem hj, withoutP, List.filter_append]
  congr 1
  by_cases h : l[j].1 = k
  · simp [h]
  · simp [h]
end Go.Proofs.Ytooaobadnainkaa
-- KvWith
namespace Go.Proofs.Ytooaobadnainkaa
open Go.RowKit
/-- The order of keys. -/
def ltB (a b : ByteArray) : Bool := Op.bytesLess a.toList b.toList
def placeP (r : List PV) (k : ByteArray) : Nat := (r.takeWhile fun p => ltB p.1 k).length
def withP (l : List PV) (k v : ByteArray) : List PV := (withoutP l k).take (placeP (withoutP l k) k) ++ (k, v) :: (withoutP l k).drop (placeP (withoutP l k) k)
theorem placeP_le (r : List PV) (k : ByteArray) : placeP r k ≤ r.length := by
  unfold placeP
  exact (List.takeWhile_prefix _).length_le
theorem placeP_is : ∀ {r : List PV} {k : ByteArray} {n : Nat}, n ≤ r.length → (∀ i (h : i < r.length), i < n → ltB r[i].1 k = true) → (∀ h : n < r.length, ltB r[n].1 k = false) → placeP r k = n
  | [], k, n, hn, _, _ => by
    obtain rfl : n = 0 := by simpa using hn
    rfl
  | p :: r, k, 0, _, _, h2 => by
    have := h2 (by simp)
    simp only [List.getElem_cons_zero] at this
    unfold placeP
    rw [List.takeWhile_cons_of_neg (by simp [this])]
    rfl
  | p :: r, k, n + 1, hn, h1, h2 => by
    have h0 := h1 0 (by simp) (by omega)
    simp only [List.getElem_cons_zero] at h0
    have ih := placeP_is (r := r) (k := k) (n := n) (by simpa using hn) (fun i h hi => by
      have := h1 (i + 1) (by simpa using h) (by omega)
      simpa using this) (fun h => by
      have := h2 (by simpa using h)
      simpa using this)
    unfold placeP at ih ⊢
    rw [List.takeWhile_cons_of_pos (by simp [h0]), List.length_cons, ih]
theorem withP_len (l : List PV) (k v : ByteArray) : (withP l k v).length ≤ l.length + 1 := by
  have h1 := withoutP_len l k
  have h2 := placeP_le (withoutP l k) k
  unfold withP
  rw [List.length_append, List.length_cons, List.length_take, List.length_drop]
  omega
theorem HasP.take {w : World} {A : Option Addr} {l : List PV} (h : HasP w A l) (n : Nat) : HasP w A (l.take n) := fun hn => by
  obtain ⟨b, o, e, h1, h2⟩ := h (fun e => hn (by rw [e]; simp))
  refine ⟨b, o, e, h1, fun j hj => ?_⟩
  have hj' : j < l.length := by rw [List.length_take] at hj; omega
  rw [List.getElem_take]
  exact h2 j hj'
theorem HasP.drop {w : World} {A A' : Option Addr} {l : List PV} {n : Nat} (h : HasP w A l) (hA : ∀ b o, A = some ⟨b, o, none⟩ → n < l.length → A' = some ⟨b, o + n * 2, none⟩) : HasP w A' (l.drop n) := fun hn => by
  have hm : n < l.length := Nat.lt_of_not_le (fun hle => hn (List.drop_eq_nil_of_le hle))
  obtain ⟨b, o, e, h1, h2⟩ := h (fun e => by rw [e] at hm; simp at hm)
  refine ⟨b, o + n * 2, hA b o e hm, h1, fun j hj => ?_⟩
  have hj' : n + j < l.length := by rw [List.length_drop] at hj; omega
  rw [List.getElem_drop]
  have := h2 (n + j) hj'
  rw [show o + n * 2 + j * 2 = o + (n + j) * 2 by omega]
  exact this
end Go.Proofs.Ytooaobadnainkaa
-- KvSwap
namespace Go.Proofs.Ytooaobadnainkaa
open Go.RowKit
/-- A key's value. -/
def lookP (l : List PV) (k : ByteArray) : Option ByteArray := (l.find? fun p => decide (p.1 = k)).map (·.2)
theorem find_cases : ∀ (l : List PV) (k : ByteArray), (findI l k = -1 ∧ lookP l k = none) ∨ ∃ j, ∃ h : j < l.length, findI l k = (j : Int) ∧ lookP l k = some l[j].2 := by
  intro l k
  have key : (findP l k = l.length ∧ lookP l k = none) ∨ ∃ h : findP l k < l.length, lookP l k = some l[findP l k].2 := by
    induction l with
    | nil => exact .inl ⟨rfl, rfl⟩
    | cons p l ih =>
      by_cases hp : p.1 = k
      · refine .inr ?_
        have e : findP (p :: l) k = 0 := by simp [findP, List.findIdx_cons, hp]
        have e2 : lookP (p :: l) k = some p.2 := by simp [lookP, hp]
        exact ⟨by rw [e]; simp, by rw [e2]; simp [e]⟩
      · have e : findP (p :: l) k = findP l k + 1 := by simp [findP, List.findIdx_cons, hp]
        have e2 : lookP (p :: l) k = lookP l k := by simp [lookP, hp]
        rcases ih with ⟨h1, h2⟩ | ⟨h1, h2⟩
        · exact .inl ⟨by rw [e, h1]; rfl, by rw [e2, h2]⟩
        · refine .inr ⟨by rw [e, List.length_cons]; omega, ?_⟩
          rw [e2, h2]
          simp [e]
  rcases key with ⟨h1, h2⟩ | ⟨h1, h2⟩
  · exact .inl ⟨by rw [findI, h1, if_neg (by omega)], h2⟩
  · exact .inr ⟨_, h1, by rw [findI, if_pos h1], h2⟩
def putP (o : List PV) (k : ByteArray) : Option ByteArray → List PV
  | none => o
  | some v => withP o k v
def swapP (l : List PV) (a b : ByteArray) : List PV := putP (putP (withoutP (withoutP l a) b) a (lookP l b)) b (lookP l a)
end Go.Proofs.Ytooaobadnainkaa
-- KvDig
namespace Go.Proofs.Ytooaobadnainkaa
open Go.RowKit
/-- Decimal digits. -/
def decN (n : Nat) : List UInt8 := if n < 10 then [UInt8.ofNat (48 + n)] else decN (n / 10) ++ [UInt8.ofNat (48 + n % 10)]
theorem decN_lt {n : Nat} (h : n < 10) : decN n = [UInt8.ofNat (48 + n)] := by rw [decN, if_pos h]
theorem decN_ge {n : Nat} (h : ¬ n < 10) : decN n = decN (n / 10) ++ [UInt8.ofNat (48 + n % 10)] := by rw [decN, if_neg h]
theorem decN_le : ∀ (k n : Nat), n < 10 ^ (k + 1) → (decN n).length ≤ k + 1
  | 0, n, h => by rw [decN_lt (by simpa using h)]; simp
  | k + 1, n, h => by
    by_cases h10 : n < 10
    · rw [decN_lt h10]; simp
    · have := decN_le k (n / 10) (by rw [Nat.pow_succ] at h; omega)
      rw [decN_ge h10, List.length_append, List.length_singleton]
      omega
theorem decN_len (n : Nat) (h : n < 18446744073709551616) : (decN n).length ≤ 20 := decN_le 19 n (by omega)
theorem wrap_u64 {x : Int} (h0 : 0 ≤ x) (h1 : x < 18446744073709551616) : IntKind.u64.wrap x = x := by
  simp [IntKind.wrap, IntKind.bits, IntKind.signed]
  omega
theorem wrap_u8 {x : Int} (h0 : 0 ≤ x) (h1 : x < 256) : IntKind.u8.wrap x = x := by
  simp [IntKind.wrap, IntKind.bits, IntKind.signed]
  omega
/-- What each slot comes to. -/
def psiDG (n : Nat) : Nat → Value → World → Prop
  | 0, v, _ => v = .int .u64 (n : Int)
  | 1, v, _ => v = .int .u64 ((n / 10 : Nat) : Int)
  | 2, v, _ => v = .string (str (decN (n / 10)))
  | 3, v, _ => v = .int .u64 (n : Int)
  | 4, v, _ => v = .int .u64 ((n % 10 : Nat) : Int)
  | 5, v, _ => v = .int .u64 ((48 + n % 10 : Nat) : Int)
  | 6, v, _ => v = .int .u8 ((48 + n % 10 : Nat) : Int)
  | 7, v, w => IsB w v ([UInt8.ofNat (48 + n % 10)])
  | 8, v, _ => v = .string (str ([UInt8.ofNat (48 + n % 10)]))
  | 9, v, _ => v = .string (str (decN (n / 10) ++ [UInt8.ofNat (48 + n % 10)]))
  | 10, v, _ => v = .string (str (decN (n / 10) ++ [UInt8.ofNat (48 + n % 10)]))
  | _, _, _ => True
theorem psiDG_grew (n : Nat) : ∀ i v w w', psiDG n i v w → Grew w w' → psiDG n i v w' := by
  intro i v w w' h hg
  rcases i with _ | _ | _ | _ | _ | _ | _ | _ | _ | _ | _ | i
  · exact h
  · exact h
  · exact h
  · exact h
  · exact h
  · exact h
  · exact h
  · exact IsB.grew h hg
  · exact h
  · exact h
  · exact h
  · trivial
end Go.Proofs.Ytooaobadnainkaa
-- KvDec
namespace Go.Proofs.Ytooaobadnainkaa
open Go.RowKit
/-- A number's digits. -/
def decI (n : Int) : List UInt8 := if n < 0 then 45 :: decN (-n).toNat else decN n.toNat
theorem decI_len {n : Int} (h1 : -9223372036854775808 ≤ n) (h2 : n ≤ 9223372036854775807) : (decI n).length ≤ 21 := by
  unfold decI
  split
  · have := decN_len (-n).toNat (by omega); simp; omega
  · have := decN_len n.toNat (by omega); omega
end Go.Proofs.Ytooaobadnainkaa
-- KvNum
namespace Go.Proofs.Ytooaobadnainkaa
open Go.RowKit
/-- What is a number's text. -/
def dig (c : UInt8) : Bool := decide (48 ≤ c.toNat ∧ c.toNat ≤ 57)
def valD (d : List UInt8) : Nat := d.foldl (fun n c => 10 * n + (c.toNat - 48)) 0
def badD (neg : Bool) (d : List UInt8) : Prop := d.length = 0 ∨ 19 < d.length ∨ (d[0]? = some 48 ∧ (1 < d.length ∨ neg = true))
open Classical in
noncomputable def numD (neg : Bool) (d : List UInt8) : Option Int := if badD neg d then none else if ¬ d.all dig then none else if neg then (if valD d ≤ 9223372036854775808 then some (-(valD d : Int)) else none) else if valD d < 9223372036854775808 then some (valD d : Int) else none
noncomputable def numM (bs : List UInt8) : Option Int := if bs[0]? = some 45 then numD true (bs.drop 1) else numD false bs
def BD (bad neg : Bool) (d : List UInt8) : Prop := bad = true ↔ badD neg d
/-- What Number answers. -/
def NumP (bs : List UInt8) (w : World) (e : Ending) (W' : World) : Prop := W' = w ∧ ∃ (x : Int) (ok : Bool), e = .returned (.tuple #[.int .i64 x, .bool ok]) ∧ numM bs = if ok then some x else none
theorem valD_succ {d : List UInt8} {k : Nat} (h : k < d.length) : valD (d.take (k + 1)) = 10 * valD (d.take k) + (d[k].toNat - 48) := by
  unfold valD
  rw [List.take_succ_eq_append_getElem h, List.foldl_append]
  rfl
theorem all_succ {d : List UInt8} {k : Nat} (h : k < d.length) (h1 : (d.take k).all dig = true) (h2 : dig d[k] = true) : (d.take (k + 1)).all dig = true := by
  rw [List.take_succ_eq_append_getElem h, List.all_append, h1]
  simp [h2]
theorem str_at (d : List UInt8) (j : Nat) (_h : j < d.length) (hj : j < (str d).size) : ((str d)[j]'hj).toNat = d[j].toNat := rfl
theorem str_drop1 (b : UInt8) (d : List UInt8) : (str (b :: d)).extract 1 (str (b :: d)).size = str d := by
  apply ByteArray.ext
  simp [str, ByteArray.size]
end Go.Proofs.Ytooaobadnainkaa
-- KvAdd
namespace Go.Proofs.Ytooaobadnainkaa
open Go.RowKit
/-- What Add begins from. -/
noncomputable def seedP (l : List PV) (k : ByteArray) : Option Int := match lookP l k with | none => some 0 | some v => numM v.data.toList
/-- What Add comes to: the sum, if there is one. -/
noncomputable def sumP (l : List PV) (k : ByteArray) (n : Int) : Option Int :=
  match seedP l k with
  | none => none
  | some m => if -9223372036854775808 ≤ m + n ∧ m + n ≤ 9223372036854775807 then some (m + n) else none
noncomputable def addP (l : List PV) (k : ByteArray) (n : Int) : List PV × Nat × ByteArray :=
  match sumP l k n with
  | none => (l, 2, ⟨#[]⟩)
  | some s => (withP l k (str (decI s)), 0, str (decI s))
theorem numD_range {neg : Bool} {d : List UInt8} {m : Int} (h : numD neg d = some m) : -9223372036854775808 ≤ m ∧ m ≤ 9223372036854775807 := by
  unfold numD at h
  split at h
  · cases h
  · split at h
    · cases h
    · split at h
      · split at h
        · cases h; omega
        · cases h
      · split at h
        · cases h; omega
        · cases h
theorem numM_range {bs : List UInt8} {m : Int} (h : numM bs = some m) : -9223372036854775808 ≤ m ∧ m ≤ 9223372036854775807 := by
  unfold numM at h
  split at h
  · exact numD_range h
  · exact numD_range h
theorem sumP_none {l : List PV} {k : ByteArray} {n : Int} (h : seedP l k = none) : sumP l k n = none := by rw [sumP, h]
theorem sumP_some {l : List PV} {k : ByteArray} {n m : Int} (h : seedP l k = some m) : sumP l k n = if -9223372036854775808 ≤ m + n ∧ m + n ≤ 9223372036854775807 then some (m + n) else none := by rw [sumP, h]
/-- Pairs, those that were handed in or new ones, and a reply. -/
def PR (w : World) (A : Option Addr) (l : List PV) (r : List PV × Nat × ByteArray) (e : Ending) (W' : World) : Prop := ∃ A' L' c', e = .returned (.tuple #[.slice A' L' c', .agg #[.int .u8 (r.2.1 : Int), .string r.2.2]]) ∧ L' = r.1.length ∧ HasP W' A' r.1 ∧ (A' = A ∧ r.1 = l ∨ ∀ b o m, A' = some ⟨b, o, m⟩ → w.heap.size ≤ b) ∧ Below w.heap.size w W'
theorem seedP_range {l : List PV} {k : ByteArray} {m : Int} (h : seedP l k = some m) : -9223372036854775808 ≤ m ∧ m ≤ 9223372036854775807 := by
  unfold seedP at h
  split at h
  · cases h; omega
  · exact numM_range h
theorem reply_set {B q : Nat} {w W : World} {c0 c1 : Value} {t : TypeId} (a b : Value) (h : W.heap[q]? = some (.cells #[c0, c1] t (0, 0))) (hb : Below B w W) (hB : B ≤ q) (hW : B ≤ W.heap.size) :
    ((W.setCell ⟨q, 0, none⟩ a).setCell ⟨q, 1, none⟩ b).cell? ⟨q, 0, none⟩ = some a ∧ ((W.setCell ⟨q, 0, none⟩ a).setCell ⟨q, 1, none⟩ b).cell? ⟨q, 1, none⟩ = some b ∧ Below B w ((W.setCell ⟨q, 0, none⟩ a).setCell ⟨q, 1, none⟩ b) ∧ Below q W ((W.setCell ⟨q, 0, none⟩ a).setCell ⟨q, 1, none⟩ b) := by
  have h1 := blk_set h 0 a
  have h2 := blk_set h1 1 b
  have hq : q < W.heap.size := (Array.getElem?_eq_some_iff.1 h).1
  have hs : (W.setCell ⟨q, 0, none⟩ a).heap.size = W.heap.size := by simp [World.setCell]
  refine ⟨by rw [blk_cell h2 0]; rfl, by rw [blk_cell h2 1]; rfl, ?_, ?_⟩
  · exact (hb.grown (grownBy_set W q 0 a) hW (fun k e => by cases e; exact hB)).grown (grownBy_set _ q 1 b) (by omega) (fun k e => by cases e; exact hB)
  · exact ((Below.refl q W).grown (grownBy_set W q 0 a) (by omega) (fun k e => by cases e; exact Nat.le_refl _)).grown (grownBy_set _ q 1 b) (by omega) (fun k e => by cases e; exact Nat.le_refl _)
end Go.Proofs.Ytooaobadnainkaa
-- KvBytes
namespace Go.Proofs.Ytooaobadnainkaa
open Go.RowKit
def pairB (p : PV) : List UInt8 := txt p.1 ++ txt p.2
def pairsTo (l : List PV) (k : Nat) : List UInt8 := (l.take k).flatMap pairB
theorem pairsTo_succ {l : List PV} {k : Nat} (h : k < l.length) : pairsTo l (k + 1) = pairsTo l k ++ txt l[k].1 ++ txt l[k].2 := by
  unfold pairsTo
  rw [List.take_succ_eq_append_getElem h, List.flatMap_append, List.append_assoc]
  simp [pairB]
def bytesP (l : List PV) : List UInt8 := vb l.length ++ l.flatMap pairB
end Go.Proofs.Ytooaobadnainkaa
