/- Parts of the proof: CmSpec, MMath, MKvN, MCmP, StepC, Store, OwnS. -/
import Derived.Test.YtfjmdkhemnmkpaaGreatDoorA01
import Derived.Test.YtfjmdkhemnmkpaaGreatDoorProg
import Derived.Test.YtfjmdkhemnmkpaaGreatDoorRows
import Derived.Laws.BitsAllLaws
import Derived.Laws.Bits64
import Derived.Laws.BitsLemmas
import Derived.Below
import Derived.Laws.OwnMore
import Derived.Laws.MakeOwn
import Derived.Laws.CopyRow
import Derived.Laws.IdiomCopy
import Derived.Laws.BytesArg
import Derived.Shelf.Bytes.SlSmallAll
import Derived.Deep.AppendLies
import Derived.Deep.AppendSrc
import Derived.OwnWalk
import Derived.BigFrame
import Derived.OwnWalkIn
import Derived.Maps.AppendAt
import Derived.OrdersIn
import Derived.RangeFuncBox
import Derived.WalkKit
import Derived.Lib.Hide
import Derived.Lib.SliceRun
import Derived.ProofKit
import Derived.Deep.RegionHeld3
import Derived.RangeFuncNested
import Derived.RangeFuncBound
import Derived.RangeFuncCalls
import Derived.RangeFuncLeaves
import Derived.LoopTactic
import Derived.Deep.DeepCutAuto
import Derived.IntWalk
import Derived.Deep.CutBlock
namespace Go.Proofs.YtfjmdkhemnmkpaaGreatDoor
open Go.RowKit
def HasS (w : World) (A : Option Addr) (l : List ByteArray) : Prop := l ≠ [] → ∃ b o, A = some ⟨b, o, none⟩ ∧ b < w.heap.size ∧ ∀ j (h : j < l.length), w.cell? ⟨b, o + j, none⟩ = some (.string l[j])
theorem HasS.below {w W : World} {A : Option Addr} {l : List ByteArray} (h : HasS w A l) (hb : Below w.heap.size w W) : HasS W A l := fun hl => by
  obtain ⟨b, o, e, h1, h2⟩ := h hl
  exact ⟨b, o, e, Nat.lt_of_lt_of_le h1 hb.size, fun j hj => (hb.cell (p := ⟨b, o + j, none⟩) h1).trans (h2 j hj)⟩
structure CmdV where
  cl : Nat
  sq : Nat
  kd : Nat
  A : Option Addr
  L : Nat
  c : Nat
  ks : List ByteArray
  old : ByteArray
  new : ByteArray
  n : Int
def CmdV.cells (a : CmdV) : Array Value := #[.int .u32 (a.cl : Int), .int .u32 (a.sq : Int), .int .u8 (a.kd : Int), .slice a.A a.L a.c, .string a.old, .string a.new, .int .i64 a.n]
def CmdV.val (a : CmdV) : Value := .agg a.cells
structure CmdV.ok (w : World) (a : CmdV) : Prop where
  cl : a.cl < 4294967296
  sq : a.sq < 4294967296
  kd : a.kd < 256
  n : -9223372036854775808 ≤ a.n ∧ a.n ≤ 9223372036854775807
  len : a.L = a.ks.length
  max : a.L ≤ 140737488351232
  has : HasS w a.A a.ks
  each : ∀ k ∈ a.ks, k.size ≤ maxLen
  old : a.old.size ≤ maxLen
  new : a.new.size ≤ maxLen
end Go.Proofs.YtfjmdkhemnmkpaaGreatDoor

namespace Go.Proofs.YtfjmdkhemnmkpaaGreatDoor
def vb (n : Nat) : List UInt8 := if n < 128 then [UInt8.ofNat n] else UInt8.ofNat (n % 128 + 128) :: vb (n / 128)
termination_by n
decreasing_by omega
end Go.Proofs.YtfjmdkhemnmkpaaGreatDoor
namespace Go.Proofs.YtfjmdkhemnmkpaaGreatDoor
def stp (c : Nat) : Nat := c / 2 ^^^ (if c % 2 = 1 then 2197175160 else 0)
def stps : Nat → Nat → Nat
  | 0, c => c
  | n + 1, c => stps n (stp c)
def crcS (c : Nat) (bs : List UInt8) : Nat := bs.foldl (fun c b => stps 8 (c ^^^ b.toNat)) c
def crcSum (bs : List UInt8) : Nat := crcS 4294967295 bs ^^^ 4294967295
def leB : Nat → Nat → List UInt8
  | 0, _ => []
  | n + 1, x => UInt8.ofNat (x % 256) :: leB n (x / 256)
end Go.Proofs.YtfjmdkhemnmkpaaGreatDoor
namespace Go.Proofs.YtfjmdkhemnmkpaaGreatDoor
end Go.Proofs.YtfjmdkhemnmkpaaGreatDoor
namespace Go.Proofs.YtfjmdkhemnmkpaaGreatDoor
def body (x : List UInt8) : List UInt8 := leB 4 (crcSum x) ++ x
def frm (x : List UInt8) : List UInt8 := vb x.length ++ body x
end Go.Proofs.YtfjmdkhemnmkpaaGreatDoor
namespace Go.Proofs.YtfjmdkhemnmkpaaGreatDoor
end Go.Proofs.YtfjmdkhemnmkpaaGreatDoor

namespace Go.Proofs.YtfjmdkhemnmkpaaGreatDoor
open Go.RowKit
abbrev PV := ByteArray × ByteArray
theorem toList_inj9 {a b : ByteArray} : a.toList = b.toList ↔ a = b :=
  ⟨fun h => by rw [ByteArray.toList_eq, ByteArray.toList_eq] at h; exact ByteArray.ext (Array.ext' h), fun h => by rw [h]⟩
end Go.Proofs.YtfjmdkhemnmkpaaGreatDoor
namespace Go.Proofs.YtfjmdkhemnmkpaaGreatDoor
open Go.RowKit
def withoutP (l : List PV) (k : ByteArray) : List PV := l.filter fun p => decide (p.1 ≠ k)
theorem withoutP_len (l : List PV) (k : ByteArray) : (withoutP l k).length ≤ l.length := List.length_filter_le _ _
end Go.Proofs.YtfjmdkhemnmkpaaGreatDoor
namespace Go.Proofs.YtfjmdkhemnmkpaaGreatDoor
open Go.RowKit
def ltB (a b : ByteArray) : Bool := Op.bytesLess a.toList b.toList
def placeP (r : List PV) (k : ByteArray) : Nat := (r.takeWhile fun p => ltB p.1 k).length
def withP (l : List PV) (k v : ByteArray) : List PV := (withoutP l k).take (placeP (withoutP l k) k) ++ (k, v) :: (withoutP l k).drop (placeP (withoutP l k) k)
theorem placeP_le (r : List PV) (k : ByteArray) : placeP r k ≤ r.length := by
  unfold placeP
  exact (List.takeWhile_prefix _).length_le
theorem withP_len (l : List PV) (k v : ByteArray) : (withP l k v).length ≤ l.length + 1 := by
  have h1 := withoutP_len l k
  have h2 := placeP_le (withoutP l k) k
  unfold withP
  rw [List.length_append, List.length_cons, List.length_take, List.length_drop]
  omega
end Go.Proofs.YtfjmdkhemnmkpaaGreatDoor
namespace Go.Proofs.YtfjmdkhemnmkpaaGreatDoor
open Go.RowKit
def lookP (l : List PV) (k : ByteArray) : Option ByteArray := (l.find? fun p => decide (p.1 = k)).map (·.2)
def putP (o : List PV) (k : ByteArray) : Option ByteArray → List PV
  | none => o
  | some v => withP o k v
def swapP (l : List PV) (a b : ByteArray) : List PV := putP (putP (withoutP (withoutP l a) b) a (lookP l b)) b (lookP l a)
end Go.Proofs.YtfjmdkhemnmkpaaGreatDoor
namespace Go.Proofs.YtfjmdkhemnmkpaaGreatDoor
open Go.RowKit
def decN (n : Nat) : List UInt8 := if n < 10 then [UInt8.ofNat (48 + n)] else decN (n / 10) ++ [UInt8.ofNat (48 + n % 10)]
theorem decN_lt {n : Nat} (h : n < 10) : decN n = [UInt8.ofNat (48 + n)] := by rw [decN, if_pos h]
theorem decN_ge {n : Nat} (h : ¬ n < 10) : decN n = decN (n / 10) ++ [UInt8.ofNat (48 + n % 10)] := by rw [decN, if_neg h]
theorem decN_le : ∀ (k n : Nat), n < 10 ^ (k + 1) → (decN n).length ≤ k + 1
  | 0, n, h => by rw [decN_lt (by simpa using h)]; simp
  | k + 1, n, h => by
    by_cases h10 : n < 10
    · rw [decN_lt h10]; simp
    · have := decN_le k (n / 10) (by rw [Nat.pow_succ] at h; omega)
      rw [decN_ge h10, List.length_append, List.length_singleton]
      omega
theorem decN_len (n : Nat) (h : n < 18446744073709551616) : (decN n).length ≤ 20 := decN_le 19 n (by omega)
end Go.Proofs.YtfjmdkhemnmkpaaGreatDoor
namespace Go.Proofs.YtfjmdkhemnmkpaaGreatDoor
open Go.RowKit
def decI (n : Int) : List UInt8 := if n < 0 then 45 :: decN (-n).toNat else decN n.toNat
theorem decI_len {n : Int} (h1 : -9223372036854775808 ≤ n) (h2 : n ≤ 9223372036854775807) : (decI n).length ≤ 21 := by
  unfold decI
  split
  · have := decN_len (-n).toNat (by omega); simp; omega
  · have := decN_len n.toNat (by omega); omega
end Go.Proofs.YtfjmdkhemnmkpaaGreatDoor
namespace Go.Proofs.YtfjmdkhemnmkpaaGreatDoor
open Go.RowKit
def dig (c : UInt8) : Bool := decide (48 ≤ c.toNat ∧ c.toNat ≤ 57)
def valD (d : List UInt8) : Nat := d.foldl (fun n c => 10 * n + (c.toNat - 48)) 0
def badD (neg : Bool) (d : List UInt8) : Prop := d.length = 0 ∨ 19 < d.length ∨ (d[0]? = some 48 ∧ (1 < d.length ∨ neg = true))
open Classical in
noncomputable def numD (neg : Bool) (d : List UInt8) : Option Int := if badD neg d then none else if ¬ d.all dig then none else if neg then (if valD d ≤ 9223372036854775808 then some (-(valD d : Int)) else none) else if valD d < 9223372036854775808 then some (valD d : Int) else none
noncomputable def numM (bs : List UInt8) : Option Int := if bs[0]? = some 45 then numD true (bs.drop 1) else numD false bs
end Go.Proofs.YtfjmdkhemnmkpaaGreatDoor
namespace Go.Proofs.YtfjmdkhemnmkpaaGreatDoor
open Go.RowKit
noncomputable def seedP (l : List PV) (k : ByteArray) : Option Int := match lookP l k with | none => some 0 | some v => numM v.data.toList
noncomputable def sumP (l : List PV) (k : ByteArray) (n : Int) : Option Int :=
  match seedP l k with
  | none => none
  | some m => if -9223372036854775808 ≤ m + n ∧ m + n ≤ 9223372036854775807 then some (m + n) else none
noncomputable def addP (l : List PV) (k : ByteArray) (n : Int) : List PV × Nat × ByteArray :=
  match sumP l k n with
  | none => (l, 2, ⟨#[]⟩)
  | some s => (withP l k (str (decI s)), 0, str (decI s))
theorem numD_range {neg : Bool} {d : List UInt8} {m : Int} (h : numD neg d = some m) : -9223372036854775808 ≤ m ∧ m ≤ 9223372036854775807 := by
  unfold numD at h
  split at h
  · cases h
  · split at h
    · cases h
    · split at h
      · split at h
        · cases h; omega
        · cases h
      · split at h
        · cases h; omega
        · cases h
theorem numM_range {bs : List UInt8} {m : Int} (h : numM bs = some m) : -9223372036854775808 ≤ m ∧ m ≤ 9223372036854775807 := by
  unfold numM at h
  split at h
  · exact numD_range h
  · exact numD_range h
theorem sumP_none {l : List PV} {k : ByteArray} {n : Int} (h : seedP l k = none) : sumP l k n = none := by rw [sumP, h]
theorem sumP_some {l : List PV} {k : ByteArray} {n m : Int} (h : seedP l k = some m) : sumP l k n = if -9223372036854775808 ≤ m + n ∧ m + n ≤ 9223372036854775807 then some (m + n) else none := by rw [sumP, h]
end Go.Proofs.YtfjmdkhemnmkpaaGreatDoor
namespace Go.Proofs.YtfjmdkhemnmkpaaGreatDoor
open Go.RowKit
end Go.Proofs.YtfjmdkhemnmkpaaGreatDoor

namespace Go.Proofs.YtfjmdkhemnmkpaaGreatDoor
structure CM where
  cl : Nat
  sq : Nat
  kd : Nat
  ks : List ByteArray
  old : ByteArray
  new : ByteArray
  n : Int
def leastK (kd : Nat) : Nat := if kd = 6 then 2 else 1
def mostK (kd : Nat) : Nat := if kd = 6 then 2 else if kd = 7 ∨ kd = 8 then 16 else 1
structure CM.May (m : CM) : Prop where
  kd : 1 ≤ m.kd ∧ m.kd ≤ 8
  each : ∀ k ∈ m.ks, 1 ≤ k.size ∧ k.size ≤ 32
  cl : 0 < m.cl
  len : leastK m.kd ≤ m.ks.length ∧ m.ks.length ≤ mostK m.kd
  old : m.old.size ≤ 64
  new : m.new.size ≤ 64
  old0 : m.old.size = 0 ∨ m.kd = 5
  new0 : m.new.size = 0 ∨ m.kd = 1 ∨ m.kd = 5
  n0 : m.n = 0 ∨ m.kd = 4
open Classical in
noncomputable def CM.may (m : CM) : Bool := decide m.May
theorem CM.may_iff {m : CM} : m.may = true ↔ m.May := by simp [CM.may]
theorem mostK_le (kd : Nat) : mostK kd ≤ 16 := by unfold mostK; split <;> (try split) <;> omega
end Go.Proofs.YtfjmdkhemnmkpaaGreatDoor
namespace Go.Proofs.YtfjmdkhemnmkpaaGreatDoor
open Go.RowKit
def HasC (w : World) (A : Option Addr) (l : List CmdV) : Prop := l ≠ [] → ∃ b o, A = some ⟨b, o, none⟩ ∧ b < w.heap.size ∧ ∀ j (h : j < l.length), (∀ i u, l[j].cells[i]? = some u → w.cell? ⟨b, o + j * 7 + i, none⟩ = some u) ∧ l[j].ok w
theorem CmdV.ok.below {w W : World} {a : CmdV} (h : a.ok w) (hb : Below w.heap.size w W) : a.ok W :=
  ⟨h.cl, h.sq, h.kd, h.n, h.len, h.max, h.has.below hb, h.each, h.old, h.new⟩
theorem HasC.below {w W : World} {A : Option Addr} {l : List CmdV} (h : HasC w A l) (hb : Below w.heap.size w W) : HasC W A l := fun hl => by
  obtain ⟨b, o, e, h1, h2⟩ := h hl
  exact ⟨b, o, e, Nat.lt_of_lt_of_le h1 hb.size, fun j hj => ⟨fun i u hu => (hb.cell (p := ⟨b, o + j * 7 + i, none⟩) h1).trans ((h2 j hj).1 i u hu), (h2 j hj).2.below hb⟩⟩
end Go.Proofs.YtfjmdkhemnmkpaaGreatDoor
namespace Go.Proofs.YtfjmdkhemnmkpaaGreatDoor
open Go.RowKit
def CmdV.m (a : CmdV) : CM := ⟨a.cl, a.sq, a.kd, a.ks, a.old, a.new, a.n⟩
theorem size0 {s : ByteArray} : s.size = 0 ↔ s = ⟨#[]⟩ := by
  constructor
  · intro h
    obtain ⟨d⟩ := s
    have : d.size = 0 := h
    rw [Array.eq_empty_of_size_eq_zero this]
  · rintro rfl; rfl
theorem toE (s : ByteArray) : s.toList.isEmpty = decide (s.size = 0) := by
  rw [ByteArray.toList_eq]
  obtain ⟨d⟩ := s
  show d.toList.isEmpty = decide (d.size = 0)
  rw [← Array.length_toList]
  cases d.toList <;> simp
theorem toNil (s : ByteArray) : s.toList = [] ↔ s.size = 0 := by
  have := toE s
  rw [Bool.eq_iff_iff, List.isEmpty_iff, decide_eq_true_iff] at this
  exact this
theorem kdE (a k : Nat) : ((a : Int) == (k : Int)) = decide (a = k) := by
  rw [Bool.eq_iff_iff]; simp; omega
end Go.Proofs.YtfjmdkhemnmkpaaGreatDoor

namespace Go.Proofs.YtfjmdkhemnmkpaaGreatDoor
open Go.RowKit
section
variable {n : Nat} {Q : Exit → Act → World → Prop} {ops : Array Oper} {i : Nat} {o : Oper} {a : Act} {w : World} {K : Act → World → Prop}
theorem step_callD {f : FuncId} {xs : Array Operand} {ts : Array TypeId} {vs : Array Value} (hi : ops[i]? = some o) (hw : Region.wanted o (yielded ops a.tmps) = true)
    (ho : o.op = .call { callee := .value (.func f), args := xs, argTypes := ts }) (eg : ∀ args w, (callFunc f args).run Tryz.prog w = .ok (.enter f args) w) (hxs : xs.map a.eval = vs) (hc : Calls Tryz.prog f vs w fun e w' => ∃ v, e = .returned v ∧ K (a.put o.dst v) w') : wpOpIn Fence.wide n Tryz.prog ops Q i K a w := by
  refine step_call hi hw ho trivial (fun h => by cases h) eg ?_
  rw [hxs]
  exact callsIn_wide.2 hc
end
end Go.Proofs.YtfjmdkhemnmkpaaGreatDoor

namespace Go.Proofs.YtfjmdkhemnmkpaaGreatDoor
open Go.RowKit
section
variable {F : Fence} {n : Nat} {P : Program} {Q : Exit → Act → World → Prop} {ops : List Oper}
theorem wpIn_region_store {id : Nat} {a : Act} {w : World} {last : Oper} (N : Nat) (hN : a.tmps.size = N) (hm : P.follows .mixedOrders = true) (hb : backwards (ops ++ [last]) = true) (hs : slotsOk N ops = true)
    (hall : ((List.range ops.length).all (hasEdge last)) = true)
    (Rl : World → World → Prop) (hr : ∀ w, Rl w w) (ht : ∀ {x y z}, Rl x y → Rl y z → Rl x z)
    (ψ : Nat → Value → World → Prop) (hψ : ∀ i v w w', ψ i v w → Rl w w' → ψ i v w')
    (hstep : ∀ i o d, ops.toArray[i]? = some o → o.dst = some d → ∀ a' w', Frm ops a a' → Rl w.drew w' →
      (∀ j o' d', hasEdge o j = true → ops.toArray[j]? = some o' → o'.dst = some d' → ψ j (a'.tmps.getD d' undef) w') →
      wpOpIn F n P (ops ++ [last]).toArray Q i (fun a'' w'' => ∃ v, a'' = a'.put (some d) v ∧ ψ i v w'' ∧ Rl w' w'') a' w')
    (hlast : ∀ a' w', Frm ops a a' → Rl w.drew w' → (∀ j o' d', ops.toArray[j]? = some o' → o'.dst = some d' → ψ j (a'.tmps.getD d' undef) w') →
      wpOpIn F n P (ops ++ [last]).toArray Q ops.length (fun a'' w'' => Q .normal a'' w'') a' w') :
    (Code.region id (ops ++ [last]).toArray true).wpIn F n P Q a w := by
  have hold : ∀ (i : Nat) (o : Oper), i < ops.length → (ops ++ [last]).toArray[i]? = some o → ops.toArray[i]? = some o := by
    intro i o hi ho
    simp only [List.getElem?_toArray] at ho ⊢
    rwa [List.getElem?_append_left hi] at ho
  have hnew : ∀ (i : Nat) (o : Oper), ops.toArray[i]? = some o → i < ops.length := by
    intro i o ho
    have := (Array.getElem?_eq_some_iff.1 ho).1
    simpa using this
  have hlst : (ops ++ [last]).toArray[ops.length]? = some last := by simp
  have hdst : ∀ (i : Nat) (o : Oper), ops.toArray[i]? = some o → ∃ d, o.dst = some d ∧ d < N := by
    intro i o ho
    have h1 := (Bool.and_eq_true _ _ ▸ hs).1
    rw [List.all_eq_true] at h1
    have hmem : o ∈ ops := by simpa using List.mem_of_getElem? (by simpa using ho)
    have := h1 o hmem
    cases hd : o.dst with
    | none => rw [hd] at this; cases this
    | some d => rw [hd] at this; exact ⟨d, rfl, by simpa using this⟩
  have hinj : ∀ (i j : Nat) (o o' : Oper) (d : Nat), ops.toArray[i]? = some o → ops.toArray[j]? = some o' → o.dst = some d → o'.dst = some d → i = j := by
    intro i j o o' d hi hj hd hd'
    have h1 := (Bool.and_eq_true _ _ ▸ hs).2
    have hnd : (ops.map (·.dst)).Nodup := by simpa using h1
    have hi' : (ops.map (·.dst))[i]? = some (some d) := by simp at hi; simp [hi, hd]
    have hj' : (ops.map (·.dst))[j]? = some (some d) := by simp at hj; simp [hj, hd']
    have hlt : i < (ops.map (·.dst)).length := by
      rcases Nat.lt_or_ge i (ops.map (·.dst)).length with h | h
      · exact h
      · rw [List.getElem?_eq_none h] at hi'; cases hi'
    exact (List.getElem?_inj hlt hnd).1 (hi'.trans hj'.symm)
  have hedge : ∀ j, j < ops.length → ∃ e ∈ last.after, e.on = j ∧ Region.binds .any e = true := by
    intro j hj
    rw [List.all_eq_true] at hall
    have := hall j (List.mem_range.2 hj)
    unfold hasEdge at this
    rw [List.any_eq_true] at this
    obtain ⟨e, hem, he⟩ := this
    exact ⟨e, by simpa using hem, by simpa using he⟩
  refine wpIn_region_by hm hb (fun L a' w' => (L ops.length = false ∧ Frm ops a a' ∧ Rl w.drew w' ∧ ∀ j o' d', L j = true → ops.toArray[j]? = some o' → o'.dst = some d' → ψ j (a'.tmps.getD d' undef) w') ∨ (L ops.length = true ∧ Q .normal a' w'))
    (.inl ⟨rfl, ⟨rfl, rfl, fun _ _ => rfl⟩, hr _, fun _ _ _ h => absurd h (by simp)⟩) ?_ ?_
  · rintro L a' w' i o (⟨hLn, hF, hR, hL⟩ | ⟨hLn, _⟩) hi hli hpre hcl
    · rcases Nat.lt_or_ge i ops.length with hin | hin
      · have hi' := hold i o hin hi
        obtain ⟨d, hd, hdN⟩ := hdst i o hi'
        refine wpOpIn_mono ?_ (hstep i o d hi' hd a' w' hF hR (fun j o' d' he hj hd' => hL j o' d' ?_ hj hd'))
        · rintro a'' w'' ⟨v, rfl, hv, hR'⟩
          refine .inl ⟨by have : ¬ (ops.length = i) := by omega
                          simp [hLn, this], ⟨size_put.trans hF.size, defers_put.trans hF.defers, fun s hs' => ?_⟩, ht hR hR', fun j o' d' hj ho' hd' => ?_⟩
          · have hmem : o ∈ ops := by simpa using List.mem_of_getElem? (by simpa using hi')
            rw [getD_put_ne (fun e => hs' o hmem (by rw [hd, e]))]
            exact hF.old s hs'
          · by_cases hji : j = i
            · subst hji
              rw [hi'] at ho'; cases ho'
              rw [hd] at hd'; cases hd'
              rw [getD_put_same (by rw [hF.size, hN]; exact hdN)]
              exact hv
            · have hne : d' ≠ d := fun e => hji (by subst e; exact hinj j i o' o d' ho' hi' hd' hd)
              rw [getD_put_ne hne]
              have hlj : L j = true := by simpa [hji] using hj
              exact hψ j _ _ _ (hL j o' d' hlj ho' hd') hR'
        · unfold hasEdge at he
          rw [List.any_eq_true] at he
          obtain ⟨e, hem, he'⟩ := he
          have h1 : e.on = j ∧ Region.binds .any e = true := by simpa using he'
          rw [← h1.1]
          exact hpre e (by simpa using hem) h1.2
      · have hieq : i = ops.length := by
          have := (Array.getElem?_eq_some_iff.1 hi).1
          simp at this
          omega
        subst hieq
        rw [hlst] at hi; cases hi
        refine wpOpIn_mono ?_ (hlast a' w' hF hR (fun j o' d' hj hd' => hL j o' d' ?_ hj hd'))
        · intro a'' w'' h
          exact .inr ⟨by simp, h⟩
        · obtain ⟨e, hem, he, hbd⟩ := hedge j (hnew j o' hj)
          rw [← he]; exact hpre e hem hbd
    · rcases Nat.lt_or_ge i ops.length with hin | hin
      · obtain ⟨e, hem, he, hbd⟩ := hedge i hin
        have := hcl ops.length last e hlst hLn hem hbd
        rw [he, hli] at this; cases this
      · have hieq : i = ops.length := by
          have := (Array.getElem?_eq_some_iff.1 hi).1
          simp at this
          omega
        rw [hieq, hLn] at hli; cases hli
  · rintro L a' w' (⟨hLn, _⟩ | ⟨_, h⟩) hl
    · have := hl ops.length (by simp)
      rw [hLn] at this; cases this
    · exact h
end
end Go.Proofs.YtfjmdkhemnmkpaaGreatDoor

namespace Go.Proofs.YtfjmdkhemnmkpaaGreatDoor
open Go.RowKit
theorem infoS : (Tryz.prog.info? 9).map (fun i => (i.zero, i.size, i.bytes)) = some (some (.string ⟨#[]⟩), 1, 16) := by kernel_rfl
theorem infoS_parts : ∃ i, Tryz.prog.info? 9 = some i ∧ i.zero = some (.string ⟨#[]⟩) ∧ i.size = 1 ∧ i.bytes = 16 := by
  have h := infoS
  cases hi : Tryz.prog.info? 9 with
  | none => rw [hi] at h; cases h
  | some i => rw [hi] at h; simp at h; exact ⟨i, rfl, h.1, h.2.1, h.2.2⟩
def cellsS (l : List ByteArray) : List Value := l.map .string
def OwnS (base : Nat) (w : World) (v : Value) (l : List ByteArray) : Prop := w.ownsRow base 9 1 v l.length (cellsS l)
theorem OwnS.form {base : Nat} {w : World} {v : Value} {l : List ByteArray} (h : OwnS base w v l) : ∃ A c, v = .slice A l.length c ∧ l.length ≤ c := by
  rcases h.2 with ⟨rfl, h0⟩ | ⟨g, cap, cur, rfl, _, _, hn, _⟩
  · exact ⟨none, 0, by rw [h0], by omega⟩
  · exact ⟨_, _, rfl, hn⟩
theorem OwnS.has {base : Nat} {w : World} {A : Option Addr} {n c : Nat} {l : List ByteArray} (h : OwnS base w (.slice A n c) l) : HasS w A l := fun hl => by
  have hl' : 0 < l.length := List.length_pos_iff.2 hl
  rcases h.2 with ⟨e, h0⟩ | ⟨g, cap, cur, e, _, hg, hn, _⟩
  · omega
  · cases e
    refine ⟨g, 0, rfl, (Array.getElem?_eq_some_iff.1 hg).1, fun j hj => ?_⟩
    have c0 := World.ownsRow.cells h (g := g) rfl j (.string l[j]) (by simp [cellsS, hj])
    rw [addr_add] at c0
    exact c0
theorem OwnS.mono {b b' : Nat} {w : World} {v : Value} {l : List ByteArray} (h : OwnS b w v l) (hb : b' ≤ b) : OwnS b' w v l := by
  refine ⟨h.1, ?_⟩
  rcases h.2 with h2 | ⟨g, cap, cur, e, h1, h2⟩
  · exact .inl h2
  · exact .inr ⟨g, cap, cur, e, Nat.le_trans hb h1, h2⟩
end Go.Proofs.YtfjmdkhemnmkpaaGreatDoor
