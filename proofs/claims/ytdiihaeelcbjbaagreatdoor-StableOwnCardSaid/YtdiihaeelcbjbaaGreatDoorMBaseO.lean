/- Small facts on bits: or with 128, and-not with 128, a sum of parts that share no bit, complements. Words of our own for slices of bytes: what a slice holds ('HasA'), and laws for append, copy, make and the conversion to a string over them. Laws of our own for a statement whose order of evaluation is open: by an invariant over what has been carried out, in place of a walk through every order. Words and laws of our own over this translation: slices of bytes given back, blocks, worlds that grew, steps of regions that draw their order, opening arguments. A frame behind a region that drew its order, put together again; more steps of such regions. Footprints: a call that changes no block but those of a given set, and new ones. A law of our own for a statement whose order is open and that ends in two operations, one behind all others and one behind that: by what each slot holds, then these two. A law of our own for a statement whose order is open and whose calls change what they are called on: by what has been carried out so far. Opening words beyond the base: a slice of bytes that came in, with its capacity; small numbers. An append to a row of bytes: whose block the new row lies in. Copying bytes into the middle of a block; the step of a region that does so. Making a slice of bytes, and copying bytes into one, at a plain step. A law of our own for 'for .. := range f', where the iterator f and the loop's body share cells: the two are tied by invariants at each call of yield. Its conditions: the fence is not inside a round; each invariant abides the turn of a new block that holds no cells. A law of our own for a range over a function whose variables lie in blocks of their own, new in each round: iterator and body are tied by what holds at each call of yield. -/
-- Bits
import Derived.Test.YtdiihaeelcbjbaaGreatDoorProg
import Derived.Test.YtdiihaeelcbjbaaGreatDoorRows
import Derived.Laws.BitsAllLaws
import Derived.Laws.Bits64
import Derived.Laws.BitsLemmas
import Derived.Below
import Derived.Laws.OwnMore
import Derived.Laws.MakeOwn
import Derived.Laws.CopyRow
import Derived.Laws.IdiomCopy
import Derived.Laws.BytesArg
import Derived.Shelf.Abstract
import Derived.Lib.MinMax
import Derived.Lib.Walk
import Derived.Deep.AppendLies
import Derived.Deep.AppendSrc
import Derived.OwnWalk
import Derived.BigFrame
import Derived.OwnWalkIn
import Derived.Maps.AppendAt
import Derived.OrdersIn
import Derived.RangeFuncBox
import Derived.WalkKit
import Derived.Lib.Hide
import Derived.Lib.SliceRun
import Derived.ProofKit
import Derived.Deep.RegionHeld3
import Derived.RangeFuncNested
import Derived.RangeFuncBound
import Derived.RangeFuncCalls
import Derived.RangeFuncLeaves
namespace Go.Proofs.YtdiihaeelcbjbaaGreatDoor
/-- A byte as a value. -/
def enc (b : UInt8) : Value := .int .u8 (b.toNat : Int)
set_option maxRecDepth 100000 in
theorem or128_fin : ∀ b : Fin 256, b.val ||| 128 = b.val % 128 + 128 := by decide
theorem or128 (b : Nat) (h : b < 256) : b ||| 128 = b % 128 + 128 := or128_fin ⟨b, h⟩
set_option maxRecDepth 100000 in
theorem and127_fin : ∀ b : Fin 256, b.val &&& 127 = b.val % 128 := by decide
theorem and127 (b : Nat) (h : b < 256) : b &&& 127 = b % 128 := and127_fin ⟨b, h⟩
theorem enc_ofNat {n : Nat} (h : n < 256) : enc (UInt8.ofNat n) = .int .u8 (n : Int) := by
  simp [enc, Nat.mod_eq_of_lt h]
theorem enc_hi (r : Nat) : Value.int .u8 (bits .or .u8 ((r : Int) % 256) 128) = enc (UInt8.ofNat (r % 128 + 128)) := by
  rw [enc_ofNat (by omega), u8_or _ _ (by omega) (by omega) (by omega) (by omega)]
  have e1 : ((r : Int) % 256).toNat = r % 256 := by omega
  have e2 : ((128 : Int)).toNat = 128 := rfl
  rw [e1, e2, or128 _ (by omega)]
  have : r % 256 % 128 = r % 128 := by omega
  rw [this]
theorem andNot128 (c : UInt8) : bits .andNot .u8 (c.toNat : Int) 128 = ((c.toNat % 128 : Nat) : Int) := by
  have hc := c.toNat_lt
  have := u8_andNot_nat c.toNat 128 (by omega) (by omega)
  rw [show ((128 : Nat) : Int) = 128 from rfl] at this
  rw [this, show 255 - 128 = 127 from rfl, and127 _ (by omega)]
theorem or_disjoint (a b i : Nat) (ha : a < 2 ^ i) : a ||| (b * 2 ^ i) = a + b * 2 ^ i := by
  rw [Nat.or_comm, Nat.mul_comm b, Nat.add_comm, Nat.two_pow_add_eq_or_of_lt ha]
theorem xor_ones (x : Nat) (h : x < 18446744073709551616) : 18446744073709551615 ^^^ x = 18446744073709551615 - x := by
  have h1 : (BitVec.allOnes 64 ^^^ BitVec.ofNat 64 x).toNat = 18446744073709551615 - x := by
    rw [BitVec.allOnes_xor, BitVec.toNat_not, BitVec.toNat_ofNat]
    omega
  rw [BitVec.toNat_xor, BitVec.toNat_allOnes, BitVec.toNat_ofNat, Nat.mod_eq_of_lt (by omega)] at h1
  exact h1
theorem not_u64 (x : Int) (h0 : 0 ≤ x) (h : x < 18446744073709551616) : bits .xor .u64 IntKind.u64.max x = 18446744073709551615 - x := by
  obtain ⟨n, rfl⟩ := Int.eq_ofNat_of_zero_le h0
  have e : IntKind.u64.max = ((18446744073709551615 : Nat) : Int) := by decide
  rw [e, u64_xor_nat _ _ (by omega) (by omega), xor_ones _ (by omega)]
  omega
theorem not_i64 (x : Int) (h0 : 0 ≤ x) (h : x < 9223372036854775808) : bits .xor .i64 (-1) x = -x - 1 := by
  obtain ⟨n, rfl⟩ := Int.eq_ofNat_of_zero_le h0
  have e : (BitVec.ofInt IntKind.i64.bits (-1) ^^^ BitVec.ofInt IntKind.i64.bits (n : Int)).toNat = 18446744073709551615 - n := by
    rw [BitVec.ofInt_natCast, BitVec.toNat_xor, BitVec.toNat_ofNat]
    show 18446744073709551615 ^^^ n % 18446744073709551616 = _
    rw [Nat.mod_eq_of_lt (by omega), xor_ones _ (by omega)]
  simp only [bits, e]
  rw [IntKind.wrap_i64]
  omega
theorem and1_u64 (u : Nat) (h : u < 18446744073709551616) : bits .and .u64 (u : Int) 1 = ((u % 2 : Nat) : Int) := by
  have := u64_and_nat u 1 h (by omega)
  rw [show ((1 : Nat) : Int) = 1 from rfl] at this
  rw [this, Nat.and_one_is_mod]
end Go.Proofs.YtdiihaeelcbjbaaGreatDoor
-- Own
namespace Go.Proofs.YtdiihaeelcbjbaaGreatDoor
open Go.RowKit
/-- The address A, below block B, bears the bytes bs (anything where there are none). -/
def HasA (w : World) (B : Nat) (A : Option Addr) (bs : List UInt8) : Prop :=
  bs ≠ [] → ∃ b o, A = some ⟨b, o, none⟩ ∧ b < B ∧ ∀ i (h : i < bs.length), w.cell? ⟨b, o + i, none⟩ = some (enc bs[i])
theorem enc_one (b : UInt8) : (enc b).oneCell' = true := rfl
theorem encs_one (bs : List UInt8) : ∀ u ∈ bs.map enc, u.oneCell' = true := by
  intro u hu
  obtain ⟨b, _, rfl⟩ := List.mem_map.1 hu
  rfl
theorem addr_add (b o j : Nat) : (⟨b, o, none⟩ : Addr).add j = ⟨b, o + j, none⟩ := by unfold Addr.add; split <;> simp_all
section
variable {w w' : World} {B B' : Nat} {A : Option Addr} {bs : List UInt8}
theorem HasA.nil (w : World) (B : Nat) (A : Option Addr) : HasA w B A [] := fun h => absurd rfl h
theorem HasA.keep (h : HasA w B A bs) (hk : ∀ p : Addr, p.block < B → w'.cell? p = w.cell? p) : HasA w' B A bs := fun hn => by
  obtain ⟨b, o, e, hb, hc⟩ := h hn
  exact ⟨b, o, e, hb, fun i hi => (hk ⟨b, o + i, none⟩ hb).trans (hc i hi)⟩
theorem HasA.more (h : HasA w B A bs) (hB : B ≤ B') : HasA w B' A bs := fun hn => by
  obtain ⟨b, o, e, hb, hc⟩ := h hn
  exact ⟨b, o, e, by omega, hc⟩
theorem HasA.below (h : HasA w B A bs) (hb : Below B w w') : HasA w' B A bs := h.keep fun _ hp => hb.cell hp
theorem HasA.below' (h : HasA w w.heap.size A bs) (hb : Below w.heap.size w w') : HasA w' w'.heap.size A bs := (h.below hb).more hb.size
theorem HasA.alloc (h : HasA w B A bs) (hB : B ≤ w.heap.size) (o : Obj) : HasA (w.alloc o) B A bs := h.keep fun p hp => World.cell?_alloc_lt w o p (by omega)
theorem HasA.cut (h : HasA w B A bs) (b o k : Nat) (hA : A = some ⟨b, o, none⟩) : HasA w B (some ⟨b, o + k, none⟩) (bs.drop k) := fun hn => by
  have hne : bs ≠ [] := by rintro rfl; simp at hn
  obtain ⟨b', o', e, hb, hc⟩ := h hne
  rw [hA] at e; cases e
  refine ⟨b, o + k, rfl, hb, fun i hi => ?_⟩
  have hi' : k + i < bs.length := by simp at hi; omega
  have := hc (k + i) hi'
  rw [Nat.add_assoc, this]; simp
theorem HasA.take (h : HasA w B A bs) (k : Nat) : HasA w B A (bs.take k) := fun hn => by
  have hne : bs ≠ [] := by rintro rfl; simp at hn
  obtain ⟨b, o, e, hb, hc⟩ := h hne
  refine ⟨b, o, e, hb, fun i hi => ?_⟩
  have hi' : i < bs.length := by simp at hi; omega
  rw [hc i hi']; simp
theorem HasA.of_own {base n c : Nat} {e : TypeId} (h : w.ownsRow base e 1 (.slice A n c) n (bs.map enc)) : HasA w w.heap.size A bs := fun hn => by
  have hl : bs.length = n := by have := h.1; simpa using this
  have hp : 0 < n := by rcases bs with _ | ⟨x, r⟩; exact absurd rfl hn; simp at hl; omega
  obtain ⟨g, cap, hv, _, hlt⟩ := h.form hp
  have hA : A = some ⟨g, 0, none⟩ := by injection hv
  subst hA
  refine ⟨g, 0, rfl, hlt, fun i hi => ?_⟩
  have := h.cells (g := g) rfl i (enc bs[i]) (by simp [hi])
  rwa [addr_add] at this
theorem HasA.src (h : HasA w B A bs) {b o : Nat} (hA : A = some ⟨b, o, none⟩) : ∀ j u, (bs.map enc)[j]? = some u → w.cell? ((⟨b, o, none⟩ : Addr).add j) = some u := by
  intro j u hu
  have hj : j < bs.length := by
    rcases Nat.lt_or_ge j bs.length with h | h
    · exact h
    · simp [List.getElem?_eq_none (show bs.length ≤ j from h)] at hu
  obtain ⟨b', o', e, _, hc⟩ := h (by rintro rfl; simp at hj)
  rw [hA] at e; cases e
  rw [addr_add, hc j hj]
  simpa [hj] using hu
end
/-- A list of bytes as a string. -/
def str (bs : List UInt8) : ByteArray := ⟨bs.toArray⟩
theorem str_data (s : ByteArray) : str s.data.toList = s := by cases s; simp [str]
theorem str_inj {a b : List UInt8} : str a = str b ↔ a = b := by
  constructor
  · intro h; injection h with h; simpa using h
  · rintro rfl; rfl
theorem str_append (a b : List UInt8) : str (a ++ b) = str a ++ str b := by
  apply ByteArray.ext; simp [str]
theorem str_size (a : List UInt8) : (str a).size = a.length := by simp [str, ByteArray.size]
section
variable {P : Program} {w : World}
theorem run_conv {B : Nat} {A : Option Addr} {bs : List UInt8} (h : HasA w B A bs) (c : Nat) {t e d : TypeId} (ht : P.underlying t = some (.slice e)) (he : P.underlying e = some (.int .u8)) (hd : P.underlying d = some .string) {n : Nat} (hn : n = bs.length) :
    (convert t d (.slice A n c)).run P w = .ok (.string (str bs)) w := by
  subst hn
  by_cases hb : bs = []
  · subst hb
    rw [List.length_nil, run_convert_bytes_string w t d e A 0 c ht he hd]
    cases A <;> simp [Conv.bytesToString, loadCells] <;> rfl
  · obtain ⟨b, o, rfl, _, hc⟩ := h hb
    rw [run_convert_bytes_arg (P := P) w t e ht he b o bs.length c (bs.map fun x => (x.toNat : Int)) (by simp) (fun i hi => by rw [hc i hi]; simp [enc, List.getD, hi]) d hd]
    congr 2
    apply ByteArray.ext
    simp only [strOfNums, str, List.map_map]
    congr 1
    conv => rhs; rw [← List.map_id bs]
    apply List.map_congr_left
    intro x _
    simp
theorem run_append_has (base : Nat) (t ty e : TypeId) (i : TypeInfo) (ht : P.underlying t = some (.slice e)) (hi : P.info? e = some i) (hz : i.zero = some (.int .u8 0))
    (hsize : i.size = 1) (hby : i.bytes = 1) (v : Value) (n : Nat) (xs : List UInt8) (hown : w.ownsRow base e 1 v n (xs.map enc))
    (B : Nat) (A : Option Addr) (m c : Nat) (bs : List UInt8) (hm : m = bs.length) (h : HasA w B A bs) (h63 : n + m ≤ 140737488355328) (hbase : base ≤ w.heap.size) :
    ∃ v' w', (Builtin.append_ #[t, t] ty #[v, .slice A m c]).run P w = .ok v' w' ∧ w'.ownsRow base e 1 v' (n + m) ((xs ++ bs).map enc) ∧ w.grownBy w' v.ownBlock := by
  subst hm
  by_cases hb : bs = []
  · subst hb
    refine ⟨v, w, ?_, by simpa using hown, ⟨rfl, rfl, rfl, Nat.le_refl _, fun _ _ _ => rfl⟩⟩
    have hfc : (Builtin.firstCells 1 0 (.slice A 0 c)).run P w = .ok #[] w := by
      cases A <;> simp [Builtin.firstCells, loadCells, loadCellsFrom]
    rcases hown.2 with ⟨rfl, rfl⟩ | ⟨g, cap, cur, rfl, _, _, hnc, _⟩
    · simp [Builtin.append_, run_underlying ht, sizeOf, typeInfo, hi, Builtin.lenOf, hsize, hfc]
    · simp [Builtin.append_, run_underlying ht, sizeOf, typeInfo, hi, Builtin.lenOf, hsize, hfc, hnc, storeCells]
  · obtain ⟨b, o, rfl, _, _⟩ := id h hb
    obtain ⟨v', w', hr, h1, h2, _⟩ := run_append_own (P := P) w base t ty e i _ 1 1 ht hi hz hsize hby rfl (by omega) v n _ hown ⟨b, o, none⟩ bs.length c (bs.map enc) (by simp) (h.src rfl) (encs_one bs) (by simp only [maxLen]; omega) (by omega) hbase
    exact ⟨v', w', hr, by simpa using h1, h2⟩
theorem wpList_append_has {ops : Array Oper} {rest : List Oper} {o : Oper} {a : Act} {Q : Exit → Act → World → Prop} (hgd : Region.wanted o (yielded ops a.tmps) = true) (s x : Operand) (t : TypeId)
    (ho : o.op = .call { callee := .builtin .append, args := #[s, x], argTypes := #[t, t] })
    (base : Nat) (e : TypeId) (i : TypeInfo) (ht : P.underlying t = some (.slice e)) (hi : P.info? e = some i) (hz : i.zero = some (.int .u8 0)) (hsize : i.size = 1) (hby : i.bytes = 1)
    (v : Value) (n : Nat) (xs : List UInt8) (hs : a.eval s = v) (hown : w.ownsRow base e 1 v n (xs.map enc))
    (B : Nat) (A : Option Addr) (m c : Nat) (bs : List UInt8) (hx : a.eval x = .slice A m c) (hm : m = bs.length) (hr : HasA w B A bs)
    (h63 : n + m ≤ 140737488355328) (hbase : base ≤ w.heap.size)
    (h : ∀ v' w', w'.ownsRow base e 1 v' (n + m) ((xs ++ bs).map enc) → w.grownBy w' v.ownBlock → wpList P ops Q rest (a.put o.dst v') w') : wpList P ops Q (o :: rest) a w := by
  obtain ⟨v', w', hrun, h2, h3⟩ := run_append_has (P := P) base t o.type e i ht hi hz hsize hby v n xs hown B A m c bs hm hr h63 hbase
  refine BigFrame.wpList_want hgd fun K hK => ?_
  unfold Oper.wp execOp
  simp only [ho, resolve, invoke, builtin, Sem.run_bind, Sem.run_pure, Result.andThen_ok, List.map_toArray, List.map_cons, List.map_nil, hs, hx, hrun]
  exact hK _ _ (h v' w' h2 h3)
theorem run_append_str (base : Nat) (t u ty e : TypeId) (i : TypeInfo) (ht : P.underlying t = some (.slice e)) (hu : P.underlying u = some .string) (hi : P.info? e = some i) (hz : i.zero = some (.int .u8 0))
    (hsize : i.size = 1) (hby : i.bytes = 1) (v : Value) (n : Nat) (xs : List UInt8) (hown : w.ownsRow base e 1 v n (xs.map enc))
    (s : ByteArray) (h63 : n + s.size ≤ 140737488355328) (hbase : base ≤ w.heap.size) :
    ∃ v' w', (Builtin.append_ #[t, u] ty #[v, .string s]).run P w = .ok v' w' ∧ w'.ownsRow base e 1 v' (n + s.size) ((xs ++ s.data.toList).map enc) ∧ w.grownBy w' v.ownBlock := by
  have hxl : xs.length = n := by simpa using hown.1
  have hdl : s.data.toList.length = s.size := by simp
  have hlen : ((xs ++ s.data.toList).map enc).length = n + s.size := by
    simp only [List.length_map, List.length_append, hxl, hdl]
  have hfc := firstCells_string (P := P) s w
  have hbc : byteCells s = s.data.toList.map enc := rfl
  have hsl : (byteCells s).length = s.size := byteCells_length s
  have hsrc : Src P i.size u (.string s) s.size (byteCells s) w := by rw [hsize]; exact Src.ofString w hu s
  have grown : ∀ (old : Nat) (b : Option Addr), old < n + s.size → (Builtin.firstCells i.size n (.slice b n old)).run P w.drew = .ok (xs.map enc).toArray w.drew → ∀ (row : Option Nat),
      ∃ v' w', (Builtin.append_ #[t, u] ty #[.slice b n old, .string s]).run P w = .ok v' w' ∧ w'.ownsRow base e 1 v' (n + s.size) ((xs ++ s.data.toList).map enc) ∧ w.grownBy w' row := by
    intro old b ho hold row
    have hge := grownCap_ge w (n + s.size) old e
    have hcm : grownCap w (n + s.size) old e ≤ maxLen := grownCap_le_maxLen w (n + s.size) old e (by simp only [maxLen]; omega)
    refine ⟨_, _, run_append_grow_src (P := P) w t u ty e i _ ht hi hz b n old (xs.map enc) hold (.string s) s.size (byteCells s) hsrc ho (by omega) (growslice_fits ho (by rw [hby]; omega)), ⟨by rw [hlen]; simp, .inr ⟨w.heap.size, _, _, rfl, hbase, heap_alloc_new w.drew _, hge, hcm, ?_, ?_⟩⟩, ⟨rfl, rfl, rfl, by simp, fun k hk _ => Below.heap_alloc w.drew _ k hk⟩⟩
    · rw [hbc, ← List.map_append]
      simp only [Array.size_append, List.size_toArray, size_zeroCells, hlen, Nat.mul_one]
      show n + s.size + _ * 1 = _
      omega
    · rw [hbc, ← List.map_append, Array.toList_append, Nat.mul_one]
      rw [show n + s.size = (List.map enc (xs ++ s.data.toList)).toArray.toList.length from hlen.symm]
      exact List.take_left
  rcases hown.2 with ⟨rfl, rfl⟩ | ⟨g, cap, cur, rfl, hbg, hg, hnc, hcm, hcs, htake⟩
  · by_cases hs0 : s.size = 0
    · have hd0 : s.data.toList = [] := List.eq_nil_of_length_eq_zero (by rw [hdl]; exact hs0)
      refine ⟨.slice none 0 0, w, ?_, by rw [hd0, hs0, List.append_nil]; exact hown, ⟨rfl, rfl, rfl, Nat.le_refl _, fun _ _ _ => rfl⟩⟩
      have hfc' : (Builtin.firstCells 1 0 (.string s)).run P w = .ok #[] w := by
        have := hfc
        rw [hs0] at this
        rw [this, hbc, hd0]; rfl
      simp [Builtin.append_, run_underlying ht, run_underlying hu, sizeOf, typeInfo, hi, Builtin.lenOf, hsize, hs0, hfc']
    · obtain rfl : xs = [] := List.eq_nil_of_length_eq_zero hxl
      exact grown 0 none (by omega) (by simp [Builtin.firstCells]) _
  · by_cases hroom : n + s.size ≤ cap
    · have hst := run_storeCells_at P g n e (byteCells s) 0 cur w hg (by rw [hsl]; simp at hcs; omega) (by rw [hbc]; exact encs_one _)
      simp only [Nat.add_zero] at hst
      refine ⟨.slice (some ⟨g, 0, none⟩) (n + s.size) cap, w.setRow g (cur.toList.take n ++ byteCells s ++ cur.toList.drop (n + (byteCells s).length)).toArray, ?_, ⟨by rw [hlen]; simp, .inr ⟨g, cap, _, rfl, hbg, setRow_heap w g cur _ e _ hg, hroom, hcm, ?_, ?_⟩⟩, ⟨rfl, rfl, rfl, by simp, fun k _ hk => setRow_other w g k _ (fun e => hk (by simp [Value.ownBlock, e]))⟩⟩
      · simp [Builtin.append_, run_underlying ht, run_underlying hu, sizeOf, typeInfo, hi, hsize, Builtin.lenOf, hroom, hfc, Addr.add_lit, hst]
      · simp only [List.size_toArray, List.length_append, List.length_take, List.length_drop, Array.length_toList, hsl]
        simp at hcs; omega
      · rw [Nat.mul_one] at htake ⊢
        rw [htake, hbc, ← List.map_append]
        show List.take (n + s.size) (List.map enc (xs ++ s.data.toList) ++ _) = _
        rw [← hlen]
        exact List.take_left
    · have hold := hown.cells (g := g) rfl
      refine grown cap (some ⟨g, 0, none⟩) (by omega) ?_ _
      rw [hsize]
      exact run_firstCells_some (P := P) w.drew 1 n ⟨g, 0, none⟩ n cap (xs.map enc) (by simp [hxl]) hold
theorem wpList_append_str {ops : Array Oper} {rest : List Oper} {o : Oper} {a : Act} {Q : Exit → Act → World → Prop} (hgd : Region.wanted o (yielded ops a.tmps) = true) (sl x : Operand) (t u : TypeId)
    (ho : o.op = .call { callee := .builtin .append, args := #[sl, x], argTypes := #[t, u] })
    (base : Nat) (e : TypeId) (i : TypeInfo) (ht : P.underlying t = some (.slice e)) (hu : P.underlying u = some .string) (hi : P.info? e = some i) (hz : i.zero = some (.int .u8 0)) (hsize : i.size = 1) (hby : i.bytes = 1)
    (v : Value) (n : Nat) (xs : List UInt8) (hs : a.eval sl = v) (hown : w.ownsRow base e 1 v n (xs.map enc)) (s : ByteArray) (hx : a.eval x = .string s)
    (h63 : n + s.size ≤ 140737488355328) (hbase : base ≤ w.heap.size)
    (h : ∀ v' w', w'.ownsRow base e 1 v' (n + s.size) ((xs ++ s.data.toList).map enc) → w.grownBy w' v.ownBlock → wpList P ops Q rest (a.put o.dst v') w') : wpList P ops Q (o :: rest) a w := by
  obtain ⟨v', w', hrun, h2, h3⟩ := run_append_str (P := P) base t u o.type e i ht hu hi hz hsize hby v n xs hown s h63 hbase
  refine BigFrame.wpList_want hgd fun K hK => ?_
  unfold Oper.wp execOp
  simp only [ho, resolve, invoke, builtin, Sem.run_bind, Sem.run_pure, Result.andThen_ok, List.map_toArray, List.map_cons, List.map_nil, hs, hx, hrun]
  exact hK _ _ (h v' w' h2 h3)
/-- 'make([]byte, l, c)'. -/
theorem wpListIn_make_bytes {F : Fence} {n : Nat} {ops : Array Oper} {rest : List Oper} {o : Oper} {a : Act} {Q : Exit → Act → World → Prop}
    (hg : o.guard = none) (l c : Operand) (t : TypeId) (hop : o.op = Op.makeSlice t l c) (base : Nat) (e : TypeId) (i : TypeInfo) (ht : P.underlying t = some (.slice e)) (hi : P.info? e = some i) (hz : i.zero = some (.int .u8 0)) (hsize : i.size = 1) (hby : i.bytes = 1)
    (L C : Nat) (x : Int) (hl : a.eval l = .int .i64 (L : Int)) (hc : a.eval c = .int .i64 x) (hxC : x = (C : Int)) (hLC : L ≤ C) (hC : C ≤ 140737488355328) (hb : base ≤ w.heap.size)
    (hK : ∀ w', w'.ownsRow base e 1 (.slice (some ⟨w.heap.size, 0, none⟩) L C) L ((List.replicate L (0 : UInt8)).map enc) → w.grownBy w' none → wpListIn F n P ops Q rest (a.put o.dst (.slice (some ⟨w.heap.size, 0, none⟩) L C)) w') :
    wpListIn F n P ops Q (o :: rest) a w := by
  subst hxC
  have hr := run_make (P := P) w t e i _ ht hi hz .i64 .i64 (L : Int) (C : Int) (by omega) (by omega) (by rw [hby]; omega) (by omega)
  simp only [Int.toNat_natCast] at hr
  refine wpListIn_plain hg fun K hK' => ?_
  unfold Oper.wpIn
  refine ⟨?_, ?_⟩
  · simp [Oper.about, hop]
  · rw [Oper.semAt_plain F _ _ (by rw [hop]; intro c hc'; cases hc')]
    simp [execOp, hop, hl, hc, hr, Result.andThen]
    refine hK' _ _ (hK _ ⟨by simp, .inr ⟨w.heap.size, C, _, rfl, hb, heap_alloc_new w _, hLC, by simp only [maxLen]; omega, ?_, ?_⟩⟩ (World.grownBy_alloc w _ none))
    · rw [size_madeCells, hsize]
    · rw [hsize, Nat.mul_one, Nat.mul_one]
      show List.take L (madeCells #[Value.int .u8 0] C).toList = _
      rw [toList_madeCells_one]
      simp [List.take_replicate, Nat.min_eq_left hLC]
      right; rfl
/-- 'copy(dst, src)', dst a row of the call's own of the same length. -/
theorem wpListIn_copy_bytes {F : Fence} {n : Nat} {ops : Array Oper} {rest : List Oper} {o : Oper} {a : Act} {Q : Exit → Act → World → Prop}
    (hg : o.guard = none) (d s : Operand) (t : TypeId) (hop : o.op = .call { callee := .builtin .copy, args := #[d, s], argTypes := #[t, t] }) (base : Nat) (e : TypeId) (ht : P.underlying t = some (.slice e)) (hsz : (P.info? e).map (·.size) = some 1)
    (g L C : Nat) (xs : List UInt8) (B : Nat) (A : Option Addr) (c : Nat) (bs : List UInt8) (hd : a.eval d = .slice (some ⟨g, 0, none⟩) L C) (hs : a.eval s = .slice A L c) (hL : L = bs.length)
    (hown : w.ownsRow base e 1 (.slice (some ⟨g, 0, none⟩) L C) L (xs.map enc)) (hsrc : HasA w B A bs)
    (hK : ∀ w', w'.ownsRow base e 1 (.slice (some ⟨g, 0, none⟩) L C) L (bs.map enc) → w.grownBy w' (some g) → wpListIn F n P ops Q rest (a.put o.dst (goInt L)) w') :
    wpListIn F n P ops Q (o :: rest) a w := by
  subst hL
  have hrun : ∃ w', (Builtin.copy_ #[t, t] o.type #[.slice (some ⟨g, 0, none⟩) bs.length C, .slice A bs.length c]).run P w = .ok (goInt bs.length) w' ∧ w'.ownsRow base e 1 (.slice (some ⟨g, 0, none⟩) bs.length C) bs.length (bs.map enc) ∧ w.grownBy w' (some g) := by
    by_cases hb : bs = []
    · subst hb
      have := run_copy_none (P := P) w t t o.type e (some ⟨g, 0, none⟩) A 0 C 0 c ht hsz rfl
      have hx : xs = [] := List.eq_nil_of_length_eq_zero (by simpa using hown.1)
      subst hx
      exact ⟨w, this, hown, ⟨rfl, rfl, rfl, Nat.le_refl _, fun _ _ _ => rfl⟩⟩
    · obtain ⟨b, off, rfl, _, _⟩ := id hsrc hb
      rcases hown.2 with ⟨h, _⟩ | ⟨g', cap, cur, hv, hbg, hgg, hnc, hcm, hcs, htake⟩
      · cases h
      · cases hv
        have hfit : 0 + (bs.map enc).length ≤ cur.size := by simp at hcs ⊢; omega
        have := run_copy_row (P := P) w t t o.type e g 0 bs.length C ⟨b, off, none⟩ bs.length c cur e (bs.map enc) ht hsz hgg (by simp) (hsrc.src rfl) hfit (encs_one bs)
        refine ⟨_, by simpa using this, ⟨by simp, .inr ⟨g, C, _, rfl, hbg, setRow_heap w g cur _ e _ hgg, hnc, hcm, ?_, ?_⟩⟩, ⟨rfl, rfl, rfl, by simp, fun k _ hk => setRow_other w g k _ (fun e => hk (by simp [e]))⟩⟩
        · simp at hcs ⊢; omega
        · simp
  obtain ⟨w', hr, h1, h2⟩ := hrun
  refine wpListIn_plain hg fun K hK' => ?_
  unfold Oper.wpIn
  refine ⟨?_, ?_⟩
  · simp [Oper.about, hop, resolve, Target.leads, Sem.run_pure]
  · rw [Oper.semAt_plain F _ _ (by rw [hop]; intro c hc'; cases hc')]
    simp [execOp, hop, resolve, invoke, builtin, hd, hs, hr, Result.andThen]
    exact hK' _ _ (hK _ h1 h2)
end
end Go.Proofs.YtdiihaeelcbjbaaGreatDoor
-- Region
namespace Go.Proofs.YtdiihaeelcbjbaaGreatDoor
open Go.RowKit
/-- Every edge that binds leads back. -/
def backwards (ops : List Oper) : Bool := ops.zipIdx.all fun (o, i) => o.after.all fun e => !(Region.binds .any e) || decide (e.on < i)
theorem backwards_spec {ops : List Oper} (h : backwards ops = true) {i : Nat} {o : Oper} (ho : ops.toArray[i]? = some o) {e : Edge} (he : e ∈ o.after) (hbd : Region.binds .any e = true) : e.on < i := by
  unfold backwards at h
  rw [List.all_eq_true] at h
  have hm : (o, i) ∈ ops.zipIdx := by
    rw [List.mem_zipIdx_iff_getElem?]
    simpa using ho
  have := h _ hm
  simp only [Array.all_eq_true_iff_forall_mem] at this
  simpa [hbd] using this e he
section
variable {F : Fence} {n : Nat} {P : Program} {Q : Exit → Act → World → Prop} {ops : List Oper}
/-- What has been carried out, as a function. -/
def lst (listed : Array Bool) (j : Nat) : Bool := listed.getD j false
theorem lst_set {listed : Array Bool} {i : Nat} (hi : i < listed.size) (j : Nat) : lst (listed.setIfInBounds i true) j = (lst listed j || j == i) := by
  unfold lst
  by_cases h : j = i
  · subst h; simp [hi]
  · simp [Ne.symm h, h]
theorem wpAnyIn_by (hb : backwards ops = true) (Inv : (Nat → Bool) → Act → World → Prop)
    (hstep : ∀ L a w i o, Inv L a w → ops.toArray[i]? = some o → L i = false → (∀ e ∈ o.after, Region.binds .any e = true → L e.on = true) →
      (∀ j o' e, ops.toArray[j]? = some o' → L j = true → e ∈ o'.after → Region.binds .any e = true → L e.on = true) →
      wpOpIn F n P ops.toArray Q i (fun a' w' => Inv (fun j => L j || j == i) a' w') a w)
    (hdone : ∀ L a w, Inv L a w → (∀ j, j < ops.length → L j = true) → Q .normal a w) :
    ∀ (fuel : Nat) (listed : Array Bool) (a : Act) (w : World), listed.size = ops.length → (listed.toList.countP (!·)) ≤ fuel →
      (∀ j o' e, ops.toArray[j]? = some o' → lst listed j = true → e ∈ o'.after → Region.binds .any e = true → lst listed e.on = true) →
      Inv (lst listed) a w → wpAnyIn F n P .any ops.toArray Q fuel listed a w := by
  have hall : ∀ listed : Array Bool, listed.size = ops.length → Region.ready .any ops.toArray listed = [] → ∀ j, j < ops.length → lst listed j = true := by
    intro listed hs hr j
    induction j using Nat.strongRecOn with
    | ind j ih =>
      intro hj
      refine Classical.byContradiction fun hn => ?_
      have hmem : j ∈ Region.ready .any ops.toArray listed := by
        rw [mem_ready]
        obtain ⟨o, ho⟩ : ∃ o, ops.toArray[j]? = some o := ⟨ops[j], by simp [hj]⟩
        refine ⟨?_, o, ho, ?_⟩
        · have : listed.getD j true = listed.getD j false := by simp [Array.getD, hs, hj]
          rw [this]; simpa [lst] using hn
        · intro e he hbd
          have hlt := backwards_spec hb ho he hbd
          exact ih e.on hlt (by omega)
      rw [hr] at hmem
      cases hmem
  intro fuel
  induction fuel with
  | zero =>
    intro listed a w hs hc hcl hi
    have hlist : ∀ j, j < ops.length → lst listed j = true := by
      intro j hj
      have h0 : listed.toList.countP (!·) = 0 := by omega
      rw [List.countP_eq_zero] at h0
      have hm : listed[j]'(by omega) ∈ listed.toList := by simp
      have := h0 _ hm
      simp [lst, Array.getD, hs, hj] at this ⊢
      exact this
    refine ⟨?_, hdone _ a w hi hlist⟩
    apply List.eq_nil_iff_forall_not_mem.2
    intro j hj
    rw [mem_ready] at hj
    obtain ⟨hl, o, ho, _⟩ := hj
    have hj' : j < ops.length := by
      have := (Array.getElem?_eq_some_iff.1 ho).1
      simpa using this
    have := hlist j hj'
    simp [lst, Array.getD, hs, hj'] at this hl
    rw [this] at hl; cases hl
  | succ fuel ih =>
    intro listed a w hs hc hcl hi
    refine ⟨fun hr => hdone _ a w hi (hall listed hs hr), fun i hmem => ?_⟩
    rw [mem_ready] at hmem
    obtain ⟨hl, o, ho, hp⟩ := hmem
    have hi' : i < ops.length := by
      have := (Array.getElem?_eq_some_iff.1 ho).1
      simpa using this
    have hli : lst listed i = false := by
      have : listed.getD i true = listed.getD i false := by simp [Array.getD, hs, hi']
      unfold lst; rw [← this]; exact hl
    have hpre : ∀ e ∈ o.after, Region.binds .any e = true → lst listed e.on = true := fun e he hbd => hp e he hbd
    refine wpOpIn_mono (fun a' w' h => ?_) (hstep (lst listed) a w i o hi ho hli hpre hcl)
    have heq : (fun j => lst listed j || j == i) = lst (listed.setIfInBounds i true) := by
      funext j; rw [lst_set (by omega)]
    refine ih _ a' w' (by simpa using hs) ?_ ?_ (heq ▸ h)
    · have hset : (listed.setIfInBounds i true).toList = listed.toList.set i true := by simp
      rw [hset]
      have hget : listed.toList[i]'(by simp; omega) = false := by
        have := hli
        simp [lst, Array.getD, hs, hi'] at this
        simpa using this
      have := List.countP_set (p := fun b : Bool => !b) (l := listed.toList) (i := i) (a := true) (by simp; omega)
      rw [this, hget]
      show List.countP _ _ - 1 + 0 ≤ fuel
      omega
    · intro j o' e hj hlj he hbd
      rw [lst_set (by omega)] at hlj ⊢
      rcases Bool.or_eq_true _ _ ▸ hlj with h | h
      · rw [hcl j o' e hj h he hbd]; rfl
      · have : j = i := by simpa using h
        subst this
        rw [ho] at hj; cases hj
        rw [hpre e he hbd]; rfl
/-- A region that draws its order, by an invariant. -/
theorem wpIn_region_by {id : Nat} {a : Act} {w : World} (hm : P.follows .mixedOrders = true) (hb : backwards ops = true) (Inv : (Nat → Bool) → Act → World → Prop)
    (h0 : Inv (fun _ => false) a w.drew)
    (hstep : ∀ L a w i o, Inv L a w → ops.toArray[i]? = some o → L i = false → (∀ e ∈ o.after, Region.binds .any e = true → L e.on = true) →
      (∀ j o' e, ops.toArray[j]? = some o' → L j = true → e ∈ o'.after → Region.binds .any e = true → L e.on = true) →
      wpOpIn F n P ops.toArray Q i (fun a' w' => Inv (fun j => L j || j == i) a' w') a w)
    (hdone : ∀ L a w, Inv L a w → (∀ j, j < ops.length → L j = true) → Q .normal a w) :
    (Code.region id ops.toArray true).wpIn F n P Q a w := by
  have hl : lst (Array.replicate ops.toArray.size false) = fun _ => false := by
    funext j
    simp [lst, Array.getD]
  refine wpIn_region_any hm (wpAnyIn_by hb Inv hstep hdone _ _ a _ (by simp) ?_ ?_ ?_)
  · rw [Array.toList_replicate]; exact Nat.le_trans (List.countP_le_length) (by simp)
  · intro j o' e hj hlj
    rw [hl] at hlj; cases hlj
  · rw [hl]; exact h0
/-- One operation that makes no call of a Go function. -/
theorem step_run {ops : Array Oper} {i : Nat} {o : Oper} {a : Act} {w w' : World} {v : Value} {K : Act → World → Prop} (hi : ops[i]? = some o) (hw : Region.wanted o (yielded ops a.tmps) = true)
    (hnd : ∀ c, o.op ≠ .defer c) (hab : o.about P w a.eval = none) (hrun : (execOp a.eval o).run P w = .ok (.value v) w') (h : K (a.put o.dst v) w') : wpOpIn F n P ops Q i K a w := by
  unfold wpOpIn
  simp only [hi, hw, if_true]
  refine ⟨fun f hf => absurd (hab.symm.trans hf) (by simp), ?_⟩
  rw [Oper.semAt_plain F _ _ hnd, hrun]
  exact h
theorem step_skip {ops : Array Oper} {i : Nat} {o : Oper} {a : Act} {w w' : World} {K : Act → World → Prop} (hi : ops[i]? = some o) (hw : Region.wanted o (yielded ops a.tmps) = true)
    (hnd : ∀ c, o.op ≠ .defer c) (hab : o.about P w a.eval = none) (hrun : (execOp a.eval o).run P w = .ok .skip w') (h : K (a.put o.dst undef) w') : wpOpIn F n P ops Q i K a w := by
  unfold wpOpIn
  simp only [hi, hw, if_true]
  refine ⟨fun f hf => absurd (hab.symm.trans hf) (by simp), ?_⟩
  rw [Oper.semAt_plain F _ _ hnd, hrun]
  exact h
/-- A call of a Go function. -/
theorem step_call {ops : Array Oper} {i : Nat} {o : Oper} {a : Act} {w : World} {K : Act → World → Prop} {f : FuncId} {xs : Array Operand} {ts : Array TypeId} (hi : ops[i]? = some o) (hw : Region.wanted o (yielded ops a.tmps) = true)
    (ho : o.op = .call { callee := .value (.func f), args := xs, argTypes := ts }) (hF : F.fn f) (hd : F.depth.isSome = true → 1 ≤ n) (eg : ∀ args w, (callFunc f args).run P w = .ok (.enter f args) w)
    (hc : CallsIn F (n - 1) P f (xs.map a.eval) w fun e w' => ∃ v, e = .returned v ∧ K (a.put o.dst v) w') : wpOpIn F n P ops Q i K a w := by
  unfold wpOpIn
  simp only [hi, hw, if_true]
  have hres : (resolve a.eval { callee := .value (.func f), args := xs, argTypes := ts } o.type).run P w = .ok { target := .fn (.func f) #[], args := xs.map a.eval } w := by
    simp [resolve, Act.eval, Deferred.ofValue]
  refine ⟨fun g hg => ?_, ?_⟩
  · simp [Oper.about, ho, hres, Target.leads] at hg
    subst hg; exact hF
  · rw [Oper.semAt_plain F _ _ (by rw [ho]; intro c hc'; cases hc')]
    have hex : (execOp a.eval o).run P w = .ok (.enter f (xs.map a.eval)) w := by
      simp [execOp, ho, hres, invoke, eg]
    rw [hex]
    refine ⟨hd, hc.mono ?_⟩
    rintro e w' ⟨v, rfl, h⟩
    exact h
/-- Every operation fills a slot of its own. -/
def slotsOk (N : Nat) (ops : List Oper) : Bool :=
  ops.all (fun o => match o.dst with | some d => decide (d < N) | none => false) && decide ((ops.map (·.dst)).Nodup)
/-- Is there an edge from j to o? -/
def hasEdge (o : Oper) (j : Nat) : Bool := o.after.toList.any fun e => e.on == j && Region.binds .any e
theorem getD_put_same {a : Act} {d : Nat} {v : Value} (h : d < a.tmps.size) : (a.put (some d) v).tmps.getD d undef = v := by
  simp [Act.put, Array.getD, h]
theorem getD_put_ne {a : Act} {d s : Nat} {v : Value} (h : s ≠ d) : (a.put (some d) v).tmps.getD s undef = a.tmps.getD s undef := by
  simp [Act.put, Array.getD_eq_getD_getElem?, Ne.symm h]
theorem size_put {a : Act} {d : Option Nat} {v : Value} : (a.put d v).tmps.size = a.tmps.size := by
  cases d <;> simp [Act.put]
theorem defers_put {a : Act} {d : Option Nat} {v : Value} : (a.put d v).defers = a.defers := by
  cases d <;> rfl
/-- The frame a' is a but for the slots that the region fills. -/
structure Frm (ops : List Oper) (a a' : Act) : Prop where
  size : a'.tmps.size = a.tmps.size
  defers : a'.defers = a.defers
  old : ∀ s, (∀ o ∈ ops, o.dst ≠ some s) → a'.tmps.getD s undef = a.tmps.getD s undef
/-- A region that draws its order, every operation of which fills a slot of its own: by what each slot holds. -/
theorem wpIn_region_vals {id : Nat} {a : Act} {w : World} (N : Nat) (hN : a.tmps.size = N) (hm : P.follows .mixedOrders = true) (hb : backwards ops = true) (hs : slotsOk N ops = true)
    (Rl : World → World → Prop) (hr : ∀ w, Rl w w) (ht : ∀ {x y z}, Rl x y → Rl y z → Rl x z)
    (ψ : Nat → Value → World → Prop) (hψ : ∀ i v w w', ψ i v w → Rl w w' → ψ i v w')
    (hstep : ∀ i o d, ops.toArray[i]? = some o → o.dst = some d → ∀ a' w', Frm ops a a' → Rl w.drew w' →
      (∀ j o' d', hasEdge o j = true → ops.toArray[j]? = some o' → o'.dst = some d' → ψ j (a'.tmps.getD d' undef) w') →
      wpOpIn F n P ops.toArray Q i (fun a'' w'' => ∃ v, a'' = a'.put (some d) v ∧ ψ i v w'' ∧ Rl w' w'') a' w')
    (hdone : ∀ a' w', Frm ops a a' → Rl w.drew w' → (∀ j o' d', ops.toArray[j]? = some o' → o'.dst = some d' → ψ j (a'.tmps.getD d' undef) w') → Q .normal a' w') :
    (Code.region id ops.toArray true).wpIn F n P Q a w := by
  have hall : ∀ (i : Nat) (o : Oper), ops.toArray[i]? = some o → ∃ d, o.dst = some d ∧ d < N := by
    intro i o ho
    have h1 := (Bool.and_eq_true _ _ ▸ hs).1
    rw [List.all_eq_true] at h1
    have hmem : o ∈ ops := by simpa using List.mem_of_getElem? (by simpa using ho)
    have := h1 o hmem
    cases hd : o.dst with
    | none => rw [hd] at this; cases this
    | some d => rw [hd] at this; exact ⟨d, rfl, by simpa using this⟩
  have hinj : ∀ (i j : Nat) (o o' : Oper) (d : Nat), ops.toArray[i]? = some o → ops.toArray[j]? = some o' → o.dst = some d → o'.dst = some d → i = j := by
    intro i j o o' d hi hj hd hd'
    have h1 := (Bool.and_eq_true _ _ ▸ hs).2
    have hnd : (ops.map (·.dst)).Nodup := by simpa using h1
    have hi' : (ops.map (·.dst))[i]? = some (some d) := by simp at hi; simp [hi, hd]
    have hj' : (ops.map (·.dst))[j]? = some (some d) := by simp at hj; simp [hj, hd']
    have hlt : i < (ops.map (·.dst)).length := by
      rcases Nat.lt_or_ge i (ops.map (·.dst)).length with h | h
      · exact h
      · rw [List.getElem?_eq_none h] at hi'; cases hi'
    exact (List.getElem?_inj hlt hnd).1 (hi'.trans hj'.symm)
  refine wpIn_region_by hm hb (fun L a' w' => Frm ops a a' ∧ Rl w.drew w' ∧ ∀ j o' d', L j = true → ops.toArray[j]? = some o' → o'.dst = some d' → ψ j (a'.tmps.getD d' undef) w')
    ⟨⟨rfl, rfl, fun _ _ => rfl⟩, hr _, fun _ _ _ h => by cases h⟩ ?_ ?_
  · rintro L a' w' i o ⟨hF, hR, hL⟩ hi hli hpre hcl
    obtain ⟨d, hd, hdN⟩ := hall i o hi
    refine wpOpIn_mono ?_ (hstep i o d hi hd a' w' hF hR (fun j o' d' he hj hd' => hL j o' d' ?_ hj hd'))
    · rintro a'' w'' ⟨v, rfl, hv, hR'⟩
      refine ⟨⟨size_put.trans hF.size, defers_put.trans hF.defers, fun s hs' => ?_⟩, ht hR hR', fun j o' d' hj ho' hd' => ?_⟩
      · have hmem : o ∈ ops := by simpa using List.mem_of_getElem? (by simpa using hi)
        rw [getD_put_ne (fun e => hs' o hmem (by rw [hd, e]))]
        exact hF.old s hs'
      · by_cases hji : j = i
        · subst hji
          rw [hi] at ho'; cases ho'
          rw [hd] at hd'; cases hd'
          rw [getD_put_same (by rw [hF.size, hN]; exact hdN)]
          exact hv
        · have hne : d' ≠ d := fun e => hji (by subst e; exact hinj j i o' o d' ho' hi hd' hd)
          rw [getD_put_ne hne]
          have hlj : L j = true := by simpa [hji] using hj
          exact hψ j _ _ _ (hL j o' d' hlj ho' hd') hR'
    · unfold hasEdge at he
      rw [List.any_eq_true] at he
      obtain ⟨e, hem, he'⟩ := he
      have h1 : e.on = j ∧ Region.binds .any e = true := by simpa using he'
      rw [← h1.1]
      exact hpre e (by simpa using hem) h1.2
  · rintro L a' w' ⟨hF, hR, hL⟩ hl
    refine hdone a' w' hF hR (fun j o' d' hj hd' => hL j o' d' (hl j ?_) hj hd')
    have := (Array.getElem?_eq_some_iff.1 hj).1
    simpa using this
end
end Go.Proofs.YtdiihaeelcbjbaaGreatDoor
-- Base
namespace Go.Proofs.YtdiihaeelcbjbaaGreatDoor
open Go.RowKit Go.ChangeShapes Go.WideShapes Go.ChangeAt Go.ChangeMaps
theorem info5 : (Tryz.prog.info? 5).map (fun i => (i.zero, i.size, i.bytes)) = some (some (.int .u8 0), 1, 1) := by kernel_rfl
theorem size5 : (Tryz.prog.info? 5).map (·.size) = some 1 := by kernel_rfl
/-- A call that began in w gives back a new slice of the bytes xs; what lay in w lies as it lay. -/
def Gives (w : World) (xs : List UInt8) (e : Ending) (W' : World) : Prop :=
  ∃ g L c, e = .returned (.slice (some ⟨g, 0, none⟩) L c) ∧ W'.ownsRow w.heap.size 5 1 (.slice (some ⟨g, 0, none⟩) L c) L (xs.map enc) ∧ Below w.heap.size w W'
theorem own_len {w : World} {base n : Nat} {e : TypeId} {v : Value} {xs : List UInt8} (h : w.ownsRow base e 1 v n (xs.map enc)) : n = xs.length := by
  have := h.1; simp at this; omega
theorem ret_int {k : IntKind} {a b : Int} (h : a = b) : Ending.returned (.int k a) = .returned (.int k b) := by rw [h]
theorem ownsRow_new (w : World) (base c : Nat) (bs : List UInt8) (hb : base ≤ w.heap.size) (hc : bs.length = c) (hl : c ≤ 1000000) :
    (w.alloc (.cells (bs.map enc).toArray 5)).ownsRow base 5 1 (.slice (some ⟨w.heap.size, 0, none⟩) c c) c (bs.map enc) := by
  subst hc
  exact ⟨by simp, .inr ⟨w.heap.size, bs.length, _, rfl, hb, heap_alloc_new w _, Nat.le_refl _, by simp only [maxLen]; omega, by simp, by rw [Nat.mul_one]; exact List.take_of_length_le (by simp)⟩⟩
/-- The address A bears the bytes bs, in a block of bytes. -/
def Data (w : World) (A : Option Addr) (bs : List UInt8) : Prop :=
  bs ≠ [] → ∃ b o cur, A = some ⟨b, o, none⟩ ∧ w.heap[b]? = some (.cells cur 5 (0, 0)) ∧ ∀ i (h : i < bs.length), cur[o + i]? = some (enc bs[i])
theorem Data.nil (w : World) (A : Option Addr) : Data w A [] := fun h => absurd rfl h
theorem Data.has {w : World} {A : Option Addr} {bs : List UInt8} (h : Data w A bs) : HasA w w.heap.size A bs := fun hn => by
  obtain ⟨b, o, cur, hA, hb, hc⟩ := h hn
  exact ⟨b, o, hA, (Array.getElem?_eq_some_iff.1 hb).1, fun i hi => (cell_of_row w b (o + i) cur 5 (0, 0) hb).trans (hc i hi)⟩
theorem Data.kept {w w' : World} {A : Option Addr} {bs : List UInt8} (h : Data w A bs) (hk : ∀ (b : Nat) (cur : Array Value), w.heap[b]? = some (.cells cur 5 (0, 0)) → w'.heap[b]? = some (.cells cur 5 (0, 0))) : Data w' A bs := fun hn => by
  obtain ⟨b, o, cur, hA, hb, hc⟩ := h hn
  exact ⟨b, o, cur, hA, hk b cur hb, hc⟩
theorem Data.cut {w : World} {b o : Nat} {bs : List UInt8} (k : Nat) (h : Data w (some ⟨b, o, none⟩) bs) : Data w (some ⟨b, o + k, none⟩) (bs.drop k) := fun hn => by
  have hne : bs ≠ [] := by rintro rfl; simp at hn
  obtain ⟨b', o', cur, hA, hb, hc⟩ := h hne
  cases hA
  refine ⟨b, o + k, cur, rfl, hb, fun i hi => ?_⟩
  have hi' : k + i < bs.length := by simp at hi; omega
  rw [Nat.add_assoc, hc (k + i) hi']; simp
theorem Data.of_own {w : World} {base n c : Nat} {A : Option Addr} {bs : List UInt8} (h : w.ownsRow base 5 1 (.slice A n c) n (bs.map enc)) : Data w A bs := fun hn => by
  have hl := own_len h
  rcases h.2 with ⟨_, h0⟩ | ⟨g, cap, cur, hv, _, hg, _, _, _, ht⟩
  · exact absurd (List.eq_nil_of_length_eq_zero (by omega)) hn
  · cases hv
    refine ⟨g, 0, cur, rfl, hg, fun i hi => ?_⟩
    have : (cur.toList.take (n * 1))[i]? = some (enc bs[i]) := by rw [ht]; simp [hi]
    rw [List.getElem?_take_of_lt (by omega)] at this
    simpa using this
theorem blk_cell {w : World} {R : Nat} {cs : Array Value} {t : TypeId} (h : w.heap[R]? = some (.cells cs t (0, 0))) (i : Nat) : w.cell? ⟨R, i, none⟩ = cs[i]? := cell_of_row w R i cs t (0, 0) h
theorem blk_frozen {w : World} {R : Nat} {cs : Array Value} {t : TypeId} (h : w.heap[R]? = some (.cells cs t (0, 0))) (i : Nat) : w.frozen? ⟨R, i, none⟩ = false := by simp [World.frozen?, h]
theorem blk_set {w : World} {R : Nat} {cs : Array Value} {t : TypeId} (h : w.heap[R]? = some (.cells cs t (0, 0))) (i : Nat) (u : Value) : (w.setCell ⟨R, i, none⟩ u).heap[R]? = some (.cells (cs.setIfInBounds i u) t (0, 0)) := by
  simp [World.setCell, Array.getElem?_modify, h]
theorem grownBy_set (w : World) (R i : Nat) (u : Value) : w.grownBy (w.setCell ⟨R, i, none⟩ u) (some R) :=
  ⟨rfl, rfl, rfl, by simp [World.setCell], fun k _ hk => Below.heap_setCell _ _ _ _ (fun e => hk (by rw [e]))⟩
theorem grownBy_trans {a b c : World} {r : Option Nat} (h : a.grownBy b r) (k : b.grownBy c r) : a.grownBy c r :=
  ⟨k.os.trans h.os, k.tape.trans h.tape, k.output.trans h.output, Nat.le_trans h.size k.size, fun i hi hn => (k.block i (Nat.lt_of_lt_of_le hi h.size) hn).trans (h.block i hi hn)⟩
theorem grownBy_of_below {a b : World} {r : Option Nat} (h : Below a.heap.size a b) : a.grownBy b r := ⟨h.os, h.tape, h.output, h.size, fun k hk _ => h.block k hk⟩
theorem grownBy_refl (a : World) (r : Option Nat) : a.grownBy a r := ⟨rfl, rfl, rfl, Nat.le_refl _, fun _ _ _ => rfl⟩
theorem follows : Tryz.prog.follows .mixedOrders = true := by kernel_rfl
theorem below_grown {B : Nat} {w W W' : World} {R : Nat} (h : Below B w W) (hB : B ≤ W.heap.size) (hR : B ≤ R) (hg : W.grownBy W' (some R)) : Below B w W' := h.grown hg hB (fun k e => by cases e; exact hR)
theorem hasA_new (w : World) (bs : List UInt8) : HasA (w.alloc (.cells (bs.map enc).toArray 5)) (w.alloc (.cells (bs.map enc).toArray 5)).heap.size (some ⟨w.heap.size, 0, none⟩) bs := fun _ =>
  ⟨w.heap.size, 0, rfl, by simp, fun i hi => by rw [blk_cell (World.alloc_heap_new w _)]; simp [hi]⟩
theorem str_toList (xs : List UInt8) : (str xs).toList = xs := by rw [ByteArray.toList_eq]; simp [str]
theorem str_beq (xs : List UInt8) : ((str xs).toList == xs) = true := by rw [str_toList]; simp
theorem own_base {w : World} {base base' n : Nat} {e : TypeId} {v : Value} {xs : List Value} (h : w.ownsRow base e 1 v n xs) (hb : base' ≤ base) : w.ownsRow base' e 1 v n xs := by
  refine ⟨h.1, ?_⟩
  rcases h.2 with h2 | ⟨g, cap, cur, a, b, r⟩
  · exact .inl h2
  · exact .inr ⟨g, cap, cur, a, Nat.le_trans hb b, r⟩
/-- The relation of worlds: nothing that lay has turned. -/
def Grew (w w' : World) : Prop := Below w.heap.size w w'
theorem Grew.refl (w : World) : Grew w w := Below.refl _ _
theorem Grew.trans {x y z : World} (h : Grew x y) (k : Grew y z) : Grew x z := Below.trans h (Below.mono k (Below.size h))
theorem Grew.undraw {w w' : World} (h : Grew w.drew w') : Grew w w' := by
  have k : Below w.drew.heap.size w.drew w' := h
  exact ⟨k.os, k.tape, k.output, k.size, k.block⟩
/-- v is a slice of the bytes X. -/
def IsB (w : World) (v : Value) (X : List UInt8) : Prop := ∃ A L c, v = .slice A L c ∧ L = X.length ∧ HasA w w.heap.size A X
theorem IsB.grew {w w' : World} {v : Value} {X : List UInt8} (h : IsB w v X) (hg : Grew w w') : IsB w' v X := by
  obtain ⟨A, L, c, hv, hL, hA⟩ := h
  exact ⟨A, L, c, hv, hL, hA.below' hg⟩
theorem IsB.own {w : World} {base n : Nat} {v : Value} {X : List UInt8} (h : w.ownsRow base 5 1 v n (X.map enc)) : IsB w v X := by
  rcases h.2 with ⟨rfl, h0⟩ | ⟨g, cap, cur, rfl, _⟩
  · subst h0
    exact ⟨none, 0, 0, rfl, own_len h, HasA.of_own h⟩
  · exact ⟨_, n, cap, rfl, own_len h, HasA.of_own h⟩
/-- A slot that the region doesn't fill. -/
theorem Frm.at {ops : List Oper} {a a' : Act} (h : Frm ops a a') (s : Nat) {v : Value} (hs : (ops.all fun o => !(o.dst == some s)) = true) (hv : a.tmps.getD s undef = v) : a'.tmps.getD s undef = v := by
  rw [← hv]
  refine h.old s fun o ho e => ?_
  rw [List.all_eq_true] at hs
  have := hs o ho
  simp [e] at this
theorem getD_some {tmps : Array Value} {d : Nat} {b : Bool} (h : tmps.getD d undef = .bool b) : tmps[d]? = some (.bool b) := by
  rw [Array.getD_eq_getD_getElem?] at h
  cases hx : tmps[d]? with
  | none => rw [hx] at h; cases h
  | some x => rw [hx] at h; simp at h; rw [h]
theorem wanted_on {ops : Array Oper} {o og : Oper} {a : Act} {g d : Nat} {b : Bool} (hg : o.guard = some (g, b)) (hog : ops[g]? = some og) (hd : og.dst = some d) (h : a.tmps.getD d undef = .bool b) : Region.wanted o (yielded ops a.tmps) = true := by
  simp [Region.wanted, hg, yielded, hog, hd, getD_some h]
theorem wanted_off {ops : Array Oper} {o og : Oper} {a : Act} {g d : Nat} {b : Bool} (hg : o.guard = some (g, b)) (hog : ops[g]? = some og) (hd : og.dst = some d) (h : a.tmps.getD d undef = .bool (!b)) : Region.wanted o (yielded ops a.tmps) = false := by
  simp [Region.wanted, hg, yielded, hog, hd, getD_some h]
section
variable {n : Nat} {Q : Exit → Act → World → Prop} {ops : Array Oper} {i : Nat} {o : Oper} {a : Act} {w : World} {K : Act → World → Prop}
/-- An operation whose guard says no. -/
theorem step_off {P : Program} (hi : ops[i]? = some o) (hw : Region.wanted o (yielded ops a.tmps) = false) (h : K (a.put o.dst undef) w) : wpOpIn Fence.wide n P ops Q i K a w := by
  unfold wpOpIn
  simp only [hi, hw]
  exact ⟨fun _ _ => trivial, h⟩
theorem step_move {x : Operand} {v : Value} (hi : ops[i]? = some o) (hw : Region.wanted o (yielded ops a.tmps) = true) (ho : o.op = .move x) (hx : a.eval x = v) (h : K (a.put o.dst v) w) : wpOpIn Fence.wide n Tryz.prog ops Q i K a w :=
  step_run hi hw (by rw [ho]; intro c h; cases h) (by simp [Oper.about, ho]) (by simp [execOp, ho, hx]) h
theorem step_assign {x : Operand} {v : Value} (hi : ops[i]? = some o) (hw : Region.wanted o (yielded ops a.tmps) = true) (ho : o.op = .assign x) (hx : a.eval x = v) (h : K (a.put o.dst v) w) : wpOpIn Fence.wide n Tryz.prog ops Q i K a w :=
  step_run hi hw (by rw [ho]; intro c h; cases h) (by simp [Oper.about, ho]) (by simp [execOp, ho, hx]) h
theorem step_pick {x y z : Operand} {b : Bool} {v : Value} (hi : ops[i]? = some o) (hw : Region.wanted o (yielded ops a.tmps) = true) (ho : o.op = .pick x y z) (hx : a.eval x = .bool b) (hv : (if b then a.eval y else a.eval z) = v) (h : K (a.put o.dst v) w) : wpOpIn Fence.wide n Tryz.prog ops Q i K a w :=
  step_run hi hw (by rw [ho]; intro c h; cases h) (by simp [Oper.about, ho]) (by cases b <;> simp_all [execOp, asBool]) h
theorem step_bin {op : BinOp} {t u : TypeId} {x y : Operand} {vx vy v : Value} (hi : ops[i]? = some o) (hw : Region.wanted o (yielded ops a.tmps) = true) (ho : o.op = .binOp op t x y u) (hx : a.eval x = vx) (hy : a.eval y = vy)
    (hg : (eqGuard op t x y vx vy).run Tryz.prog w = .ok () w) (hr : (binOp op t vx vy).run Tryz.prog w = .ok v w) (h : K (a.put o.dst v) w) : wpOpIn Fence.wide n Tryz.prog ops Q i K a w :=
  step_run hi hw (by rw [ho]; intro c h; cases h) (by simp [Oper.about, ho]) (by simp [execOp, ho, hx, hy, hg, hr]) h
/-- A call that gives back a new slice. -/
theorem step_gives {f : FuncId} {xs : Array Operand} {ts : Array TypeId} {vs : Array Value} {X : List UInt8} (hi : ops[i]? = some o) (hw : Region.wanted o (yielded ops a.tmps) = true)
    (ho : o.op = .call { callee := .value (.func f), args := xs, argTypes := ts }) (eg : ∀ args w, (callFunc f args).run Tryz.prog w = .ok (.enter f args) w) (hxs : xs.map a.eval = vs) (hc : Calls Tryz.prog f vs w (Gives w X))
    (h : ∀ v w', IsB w' v X → Grew w w' → K (a.put o.dst v) w') : wpOpIn Fence.wide n Tryz.prog ops Q i K a w := by
  refine step_call hi hw ho trivial (fun h => by cases h) eg ?_
  rw [hxs]
  refine (callsIn_wide.2 hc).mono ?_
  rintro e w' ⟨g, L, c, rfl, hown, hb⟩
  exact ⟨_, rfl, h _ _ (IsB.own hown) hb⟩
end
theorem run_add (w : World) (x y : List UInt8) (h : x.length + y.length ≤ 1000000000) : (binOp .add 9 (.string (str x)) (.string (str y))).run Tryz.prog w = .ok (.string (str (x ++ y))) w := by
  have h1 := str_size x
  have h2 := str_size y
  simp [go_sem, str_append]
  omega
theorem run_eq (w : World) (x y : List UInt8) : (binOp .eql 9 (.string (str x)) (.string (str y))).run Tryz.prog w = .ok (.bool (x == y)) w := by
  simp only [binOp_string_eql, Sem.run_pure, str_toList]
theorem run_neq (w : World) (x y : List UInt8) : (binOp .neq 9 (.string (str x)) (.string (str y))).run Tryz.prog w = .ok (.bool (x != y)) w := by
  simp [go_sem, str_toList, bne]
theorem guard_str (op : BinOp) (t : TypeId) (w : World) (x y : Operand) (s u : ByteArray) : (eqGuard op t x y (.string s) (.string u)).run Tryz.prog w = .ok () w := by
  cases op <;> simp [eqGuard]
theorem guard_int (op : BinOp) (t : TypeId) (w : World) (x y : Operand) (k k' : IntKind) (s u : Int) : (eqGuard op t x y (.int k s) (.int k' u)).run Tryz.prog w = .ok () w := by
  cases op <;> simp [eqGuard]
theorem guard_bool (op : BinOp) (t : TypeId) (w : World) (x y : Operand) (s u : Bool) : (eqGuard op t x y (.bool s) (.bool u)).run Tryz.prog w = .ok () w := by
  cases op <;> simp [eqGuard]
theorem run_eqb (t : TypeId) (ht : Tryz.prog.underlying t = some .bool) (w : World) (x y : Bool) : (binOp .eql t (.bool x) (.bool y)).run Tryz.prog w = .ok (.bool (x == y)) w := by
  simp [go_sem, ht]
theorem run_eqi (t : TypeId) (k : IntKind) (w : World) (x y : Int) : (binOp .eql t (.int k x) (.int k y)).run Tryz.prog w = .ok (.bool (x == y)) w := by
  simp [go_sem]
theorem ownKnob_none : ownKnob Tryz.prog.godebug = none := by kernel_rfl
theorem laid_out : laidOutB Tryz.prog = true := by kernel_rfl
theorem cells5 : Tryz.prog.cellsOf 5 = 1 := by kernel_rfl
section
variable {H : Type} {enc : TypeId × Value → H} {P : Program}
/-- The row's last step where nothing that lay has turned. -/
theorem post_grew {f : Func} {s : ChangeSpec} {apart fresh handsOn : Bool} {W W' : World} {args : Array Value} {v : Value} {ds gs : List (DataW H)} {before pa pv : List MemPlace}
    (hW : DataW.Whole enc P f.params.toList s.vars apart W args.toList ds gs before)
    (hres : ∀ (b : Nat) (sp : Nat → Bool) (hd : Bool), DataW.TrodAll enc P W' b sp hd f.resultTypes.toList (v.resultList f.resultTypes.size) (s.fn H (ds ++ gs)).results [])
    (hargs : DataW.TrodAll enc P W' 0 (fun b => decide (b < W.heap.size)) true f.params.toList args.toList (s.fn H (ds ++ gs)).args pa)
    (hvars : DataW.TrodVars enc P W' (fun b => decide (b < W.heap.size)) s.vars (s.fn H (ds ++ gs)).vars pv)
    (hps : before = pa ++ pv) (hb : Below W.heap.size W W') : s.post enc P f apart fresh handsOn false W args v W' := by
  refine ⟨ds, gs, before, [], pa, pv, hW, hres _ _ _, hargs, hvars, World.keptBut_mono (fun p hp => ⟨hp, ?_⟩) (hb.frame (· ∈ before)), fun h => by cases h⟩
  rw [hps, List.mem_append] at hp
  exact Or.inr hp
end
theorem wf_u64 {n : Int} (h : (Lit.int .u64 n).wf = true) : ∃ k : Nat, n = (k : Int) ∧ k < 18446744073709551616 := by
  simp [Lit.wf, IntKind.min, IntKind.max, IntKind.signed, IntKind.bits] at h
  exact ⟨n.toNat, by omega, by omega⟩
theorem wf_i64 {n : Int} (h : (Lit.int .i64 n).wf = true) : -9223372036854775808 ≤ n ∧ n ≤ 9223372036854775807 := by
  simp [Lit.wf, IntKind.min, IntKind.max, IntKind.signed, IntKind.bits] at h
  omega
end Go.Proofs.YtdiihaeelcbjbaaGreatDoor
-- Puts
namespace Go.Proofs.YtdiihaeelcbjbaaGreatDoor
open Go.RowKit
/-- Slots that are filled, one after another. -/
def puts (l : List (Nat × Value)) (a : Act) : Act := l.foldl (fun x p => x.put (some p.1) p.2) a
theorem puts_size : ∀ (l : List (Nat × Value)) (a : Act), (puts l a).tmps.size = a.tmps.size
  | [], _ => rfl
  | p :: l, a => (puts_size l (a.put (some p.1) p.2)).trans size_put
theorem puts_defers : ∀ (l : List (Nat × Value)) (a : Act), (puts l a).defers = a.defers
  | [], _ => rfl
  | p :: l, a => (puts_defers l (a.put (some p.1) p.2)).trans defers_put
theorem puts_old : ∀ (l : List (Nat × Value)) (a : Act) (s : Nat), s ∉ l.map (·.1) → (puts l a).tmps.getD s undef = a.tmps.getD s undef
  | [], _, _, _ => rfl
  | p :: l, a, s, h => by
    simp only [List.map_cons, List.mem_cons, not_or] at h
    exact (puts_old l (a.put (some p.1) p.2) s h.2).trans (getD_put_ne h.1)
theorem puts_new (v : Nat → Value) : ∀ (l : List (Nat × Value)) (a : Act) (s : Nat), (∀ p ∈ l, v p.1 = p.2) → (∀ p ∈ l, p.1 < a.tmps.size) → s ∈ l.map (·.1) → (puts l a).tmps.getD s undef = v s
  | [], _, _, _, _, h => by simp at h
  | p :: l, a, s, hv, hz, h => by
    by_cases hs : s ∈ l.map (·.1)
    · exact puts_new v l (a.put (some p.1) p.2) s (fun q hq => hv q (by simp [hq])) (fun q hq => by rw [size_put]; exact hz q (by simp [hq])) hs
    · have e : s = p.1 := by simpa [hs] using h
      subst e
      refine (puts_old l _ _ hs).trans ?_
      rw [getD_put_same (hz p (by simp))]
      exact (hv p (by simp)).symm
/-- Every slot that the operations fill is on the list. -/
def coversB (ops : List Oper) (l : List (Nat × Value)) : Bool := ops.all fun o => match o.dst with | some d => l.any (fun p => p.1 == d) | none => true
def fitsB (N : Nat) (l : List (Nat × Value)) : Bool := l.all fun p => decide (p.1 < N)
theorem Frm.puts {ops : List Oper} {a a' : Act} (h : Frm ops a a') (l : List (Nat × Value)) (hl : ∀ p ∈ l, a'.tmps.getD p.1 undef = p.2) (hc : coversB ops l = true) (hz : fitsB a.tmps.size l = true) : a' = puts l a := by
  have hz' : ∀ p ∈ l, p.1 < a.tmps.size := fun p hp => by
    have := List.all_eq_true.1 hz p hp
    simpa using this
  have ht : a'.tmps = (Go.Proofs.YtdiihaeelcbjbaaGreatDoor.puts l a).tmps := by
    apply Array.ext
    · rw [puts_size, h.size]
    · intro i h1 h2
      have e : ∀ (x : Array Value) (hx : i < x.size), x.getD i undef = x[i] := fun x hx => by simp [Array.getD, hx]
      rw [← e _ h1, ← e _ h2]
      by_cases hs : i ∈ l.map (·.1)
      · exact (puts_new (fun s => a'.tmps.getD s undef) l a i hl hz' hs).symm
      · rw [puts_old l a i hs]
        refine h.old i fun o ho e => hs ?_
        have := List.all_eq_true.1 hc o ho
        rw [e] at this
        simp only [List.any_eq_true, beq_iff_eq] at this
        obtain ⟨p, hp, rfl⟩ := this
        exact List.mem_map_of_mem hp
  have hd : a'.defers = (Go.Proofs.YtdiihaeelcbjbaaGreatDoor.puts l a).defers := by rw [puts_defers, h.defers]
  cases a'; cases hq : Go.Proofs.YtdiihaeelcbjbaaGreatDoor.puts l a; simp_all
theorem run_addi (t : TypeId) (w : World) (x y : Int) (h1 : -9223372036854775808 ≤ x + y) (h2 : x + y ≤ 9223372036854775807) : (binOp .add t (.int .i64 x) (.int .i64 y)).run Tryz.prog w = .ok (.int .i64 (x + y)) w := by
  simp [go_sem, IntKind.wrap_i64]; omega
theorem run_not (w : World) (b : Bool) : (Op.unary .not (.bool b)).run Tryz.prog w = .ok (.bool (!b)) w := by
  simp [go_sem]
section
variable {n : Nat} {Q : Exit → Act → World → Prop} {ops : Array Oper} {i : Nat} {o : Oper} {a : Act} {w : World} {K : Act → World → Prop}
theorem step_un {op : UnOp} {t : TypeId} {x : Operand} {vx v : Value} (hi : ops[i]? = some o) (hw : Region.wanted o (yielded ops a.tmps) = true) (ho : o.op = .unOp op t x) (hx : a.eval x = vx) (hr : (Op.unary op vx).run Tryz.prog w = .ok v w) (h : K (a.put o.dst v) w) : wpOpIn Fence.wide n Tryz.prog ops Q i K a w :=
  step_run hi hw (by rw [ho]; intro c h; cases h) (by simp [Oper.about, ho]) (by simp [execOp, ho, hx, hr]) h
theorem step_cv {t u : TypeId} {x : Operand} {vx v : Value} (hi : ops[i]? = some o) (hw : Region.wanted o (yielded ops a.tmps) = true) (ho : o.op = .convert t u x) (hx : a.eval x = vx) (hr : (convert t u vx).run Tryz.prog w = .ok v w) (h : K (a.put o.dst v) w) : wpOpIn Fence.wide n Tryz.prog ops Q i K a w :=
  step_run hi hw (by rw [ho]; intro c h; cases h) (by simp [Oper.about, ho]) (by simp [execOp, ho, hx, hr]) h
theorem step_load {t : TypeId} {x : Operand} {vx v : Value} (hi : ops[i]? = some o) (hw : Region.wanted o (yielded ops a.tmps) = true) (ho : o.op = .load t x) (hx : a.eval x = vx) (hr : (Instr.loadAt t vx).run Tryz.prog w = .ok v w) (h : K (a.put o.dst v) w) : wpOpIn Fence.wide n Tryz.prog ops Q i K a w :=
  step_run hi hw (by rw [ho]; intro c h; cases h) (by simp [Oper.about, ho]) (by simp [execOp, ho, hx, hr]) h
theorem step_index {t : TypeId} {x y : Operand} {vx vy v : Value} (hi : ops[i]? = some o) (hw : Region.wanted o (yielded ops a.tmps) = true) (ho : o.op = .indexAddr t x y) (hx : a.eval x = vx) (hy : a.eval y = vy) (hr : (Instr.indexAt t vx vy).run Tryz.prog w = .ok v w) (h : K (a.put o.dst v) w) : wpOpIn Fence.wide n Tryz.prog ops Q i K a w :=
  step_run hi hw (by rw [ho]; intro c h; cases h) (by simp [Oper.about, ho]) (by simp [execOp, ho, hx, hy, hr]) h
theorem step_upto {t : TypeId} {x y : Operand} {vx vy v : Value} (hi : ops[i]? = some o) (hw : Region.wanted o (yielded ops a.tmps) = true) (ho : o.op = .slice t x none (some y) none) (hx : a.eval x = vx) (hy : a.eval y = vy) (hr : (Instr.sliceAt t vx none (some vy) none).run Tryz.prog w = .ok v w) (h : K (a.put o.dst v) w) : wpOpIn Fence.wide n Tryz.prog ops Q i K a w :=
  step_run hi hw (by rw [ho]; intro c h; cases h) (by simp [Oper.about, ho]) (by simp [execOp, ho, hx, hy, hr]) h
theorem step_from {t : TypeId} {x y : Operand} {vx vy v : Value} (hi : ops[i]? = some o) (hw : Region.wanted o (yielded ops a.tmps) = true) (ho : o.op = .slice t x (some y) none none) (hx : a.eval x = vx) (hy : a.eval y = vy) (hr : (Instr.sliceAt t vx (some vy) none none).run Tryz.prog w = .ok v w) (h : K (a.put o.dst v) w) : wpOpIn Fence.wide n Tryz.prog ops Q i K a w :=
  step_run hi hw (by rw [ho]; intro c h; cases h) (by simp [Oper.about, ho]) (by simp [execOp, ho, hx, hy, hr]) h
theorem step_between {t : TypeId} {x y z : Operand} {vx vy vz v : Value} (hi : ops[i]? = some o) (hw : Region.wanted o (yielded ops a.tmps) = true) (ho : o.op = .slice t x (some y) (some z) none) (hx : a.eval x = vx) (hy : a.eval y = vy) (hz : a.eval z = vz) (hr : (Instr.sliceAt t vx (some vy) (some vz) none).run Tryz.prog w = .ok v w) (h : K (a.put o.dst v) w) : wpOpIn Fence.wide n Tryz.prog ops Q i K a w :=
  step_run hi hw (by rw [ho]; intro c h; cases h) (by simp [Oper.about, ho]) (by simp [execOp, ho, hx, hy, hz, hr]) h
theorem step_len {t e : TypeId} (ht : Tryz.prog.underlying t = some (.slice e)) {x : Operand} {A : Option Addr} {L c : Nat} (hi : ops[i]? = some o) (hw : Region.wanted o (yielded ops a.tmps) = true) (ho : o.op = .call { callee := .builtin .len, args := #[x], argTypes := #[t] }) (hx : a.eval x = .slice A L c) (h : K (a.put o.dst (.int .i64 (L : Int))) w) : wpOpIn Fence.wide n Tryz.prog ops Q i K a w := by
  refine step_run hi hw (by rw [ho]; intro c h; cases h) (by simp [Oper.about, ho, resolve, Target.leads, Sem.run_pure]) (v := .int .i64 (L : Int)) (w' := w) ?_ h
  have hl : (Builtin.len_ #[t] o.type #[.slice A L c]).run Tryz.prog w = .ok (.int .i64 (L : Int)) w := by
    simp [Builtin.len_, run_underlying ht]; rfl
  unfold execOp
  simp only [ho, resolve, invoke, builtin, Sem.run_bind, Sem.run_pure, Result.andThen_ok, List.map_toArray, List.map_cons, List.map_nil, hx, hl]
end
theorem own_below {w w' : World} {base n : Nat} {e : TypeId} {v : Value} {vs : List Value} (h : w.ownsRow base e 1 v n vs) (hb : Below w.heap.size w w') : w'.ownsRow base e 1 v n vs := by
  refine ⟨h.1, ?_⟩
  rcases h.2 with h2 | ⟨g, cap, cur, a, b, r, s⟩
  · exact .inl h2
  · exact .inr ⟨g, cap, cur, a, b, (hb.block g (Array.getElem?_eq_some_iff.1 r).1).trans r, s⟩
theorem own_cap {w : World} {base n c : Nat} {e : TypeId} {A : Option Addr} {xs : List Value} (h : w.ownsRow base e 1 (.slice A n c) n xs) : n ≤ c := by
  rcases h.2 with ⟨h1, h0⟩ | ⟨g, cap, cur, hv, _, _, hc, _⟩
  · omega
  · cases hv; exact hc
theorem own_apart {w : World} {b1 b2 n1 n2 : Nat} {e1 e2 : TypeId} {v1 v2 : Value} {xs1 xs2 : List Value} (h1 : w.ownsRow b1 e1 1 v1 n1 xs1) (h2 : w.ownsRow b2 e2 1 v2 n2 xs2) (he : e1 ≠ e2) : v1.ownBlock = none ∨ v1.ownBlock ≠ v2.ownBlock := by
  rcases h1.2 with ⟨rfl, _⟩ | ⟨g1, c1, cur1, rfl, _, k1, _⟩
  · exact .inl rfl
  · refine .inr ?_
    rcases h2.2 with ⟨rfl, _⟩ | ⟨g2, c2, cur2, rfl, _, k2, _⟩
    · simp [Value.ownBlock]
    · intro h
      simp only [Value.ownBlock, Option.some.injEq] at h
      rw [h, k2] at k1
      simp only [Option.some.injEq, Obj.cells.injEq] at k1
      exact he k1.2.1.symm
theorem own_form {w : World} {base n : Nat} {e : TypeId} {v : Value} {xs : List Value} (h : w.ownsRow base e 1 v n xs) : ∃ A c, v = .slice A n c := by
  rcases h.2 with ⟨rfl, h0⟩ | ⟨g, cap, cur, rfl, _⟩
  · exact ⟨none, 0, by rw [h0]⟩
  · exact ⟨_, _, rfl⟩
end Go.Proofs.YtdiihaeelcbjbaaGreatDoor
-- Foot
namespace Go.Proofs.YtdiihaeelcbjbaaGreatDoor
open Go.RowKit
/-- The world w' is w but for blocks of F and new ones. -/
structure Only (F : Nat → Prop) (w w' : World) : Prop where
  os : w'.os = w.os
  tape : w'.tape = w.tape
  output : w'.output = w.output
  size : w.heap.size ≤ w'.heap.size
  block : ∀ k, k < w.heap.size → ¬ F k → w'.heap[k]? = w.heap[k]?
theorem Only.refl (F : Nat → Prop) (w : World) : Only F w w := ⟨rfl, rfl, rfl, Nat.le_refl _, fun _ _ _ => rfl⟩
theorem Only.trans {F G : Nat → Prop} {a b c : World} (h : Only F a b) (k : Only G b c) (hG : ∀ x, G x → F x ∨ a.heap.size ≤ x) : Only F a c :=
  ⟨k.os.trans h.os, k.tape.trans h.tape, k.output.trans h.output, Nat.le_trans h.size k.size, fun i hi hn =>
    (k.block i (Nat.lt_of_lt_of_le hi h.size) (fun hg => (hG i hg).elim hn (fun hle => absurd hi (Nat.not_lt.2 hle)))).trans (h.block i hi hn)⟩
theorem Only.mono {F G : Nat → Prop} {a b : World} (h : Only F a b) (hF : ∀ x, x < a.heap.size → F x → G x) : Only G a b :=
  ⟨h.os, h.tape, h.output, h.size, fun k hk hn => h.block k hk (fun hf => hn (hF k hk hf))⟩
theorem Only.of_grew {F : Nat → Prop} {w w' : World} (h : Below w.heap.size w w') : Only F w w' := ⟨h.os, h.tape, h.output, h.size, fun k hk _ => h.block k hk⟩
theorem Only.of_grown {F : Nat → Prop} {w w' : World} {row : Option Nat} (h : w.grownBy w' row) (hr : ∀ k, row = some k → F k) : Only F w w' :=
  ⟨h.os, h.tape, h.output, h.size, fun k hk hn => h.block k hk (fun e => hn (hr k e.symm))⟩
theorem Only.setCell {F : Nat → Prop} {a w : World} (h : Only F a w) {p : Addr} (hp : F p.block ∨ a.heap.size ≤ p.block) (u : Value) : Only F a (w.setCell p u) :=
  ⟨h.os, h.tape, h.output, by simpa [World.setCell] using h.size, fun k hk hn => (Below.heap_setCell _ _ _ _ (fun e => by subst e; exact hp.elim hn (fun hle => absurd hk (Nat.not_lt.2 hle)))).trans (h.block k hk hn)⟩
theorem Only.alloc {F : Nat → Prop} {a w : World} (h : Only F a w) (o : Obj) : Only F a (w.alloc o) :=
  ⟨h.os, h.tape, h.output, by have := h.size; simp; omega, fun k hk hn => (Below.heap_alloc _ _ _ (Nat.lt_of_lt_of_le hk h.size)).trans (h.block k hk hn)⟩
theorem Only.drew {F : Nat → Prop} {a w : World} (h : Only F a w) : Only F a w.drew := ⟨h.os, h.tape, h.output, h.size, h.block⟩
theorem Only.grown {F : Nat → Prop} {a w w' : World} {row : Option Nat} (h : Only F a w) (hg : w.grownBy w' row) (hr : ∀ k, row = some k → F k ∨ a.heap.size ≤ k) : Only F a w' :=
  h.trans (Only.of_grown (F := fun k => row = some k) hg (fun _ e => e)) (fun x hx => hr x hx)
theorem Only.grew {F : Nat → Prop} {a w w' : World} (h : Only F a w) (hg : Below w.heap.size w w') : Only F a w' :=
  h.trans (Only.of_grew (F := fun _ => False) hg) (fun _ hx => hx.elim)
/-- Blocks from B on alone. -/
theorem Only.below {F : Nat → Prop} {w w' : World} {B : Nat} (h : Only F w w') (hB : B ≤ w.heap.size) (hF : ∀ x, F x → B ≤ x) : Below B w w' :=
  ⟨h.os, h.tape, h.output, h.size, fun k hk => h.block k (Nat.lt_of_lt_of_le hk hB) (fun hf => absurd hk (Nat.not_lt.2 (hF k hf)))⟩
theorem Only.blk {F : Nat → Prop} {w w' : World} (h : Only F w w') {k : Nat} {o : Obj} (hk : w.heap[k]? = some o) (hn : ¬ F k) : w'.heap[k]? = some o :=
  (h.block k (Array.getElem?_eq_some_iff.1 hk).1 hn).trans hk
theorem Only.own {F : Nat → Prop} {w w' : World} {base n : Nat} {e : TypeId} {v : Value} {vs : List Value} (h : Only F w w') (ho : w.ownsRow base e 1 v n vs) (hn : ∀ k, v.ownBlock = some k → ¬ F k) : w'.ownsRow base e 1 v n vs := by
  refine ⟨ho.1, ?_⟩
  rcases ho.2 with h2 | ⟨g, cap, cur, rfl, b, r, s⟩
  · exact .inl h2
  · exact .inr ⟨g, cap, cur, rfl, b, h.blk r (hn g rfl), s⟩
end Go.Proofs.YtdiihaeelcbjbaaGreatDoor
-- Store2
namespace Go.Proofs.YtdiihaeelcbjbaaGreatDoor
open Go.RowKit
section
variable {F : Fence} {n : Nat} {P : Program} {Q : Exit → Act → World → Prop} {ops : List Oper}
theorem wpIn_region_two {id : Nat} {a : Act} {w : World} {pen last : Oper} (N : Nat) (hN : a.tmps.size = N) (hm : P.follows .mixedOrders = true) (hb : backwards (ops ++ [pen, last]) = true) (hs : slotsOk N ops = true)
    (hall : ((List.range (ops.length + 1)).all (hasEdge last)) = true)
    (hpen : ∀ L : Nat → Bool, (∀ j o' e, (ops ++ [pen, last]).toArray[j]? = some o' → L j = true → e ∈ o'.after → Region.binds .any e = true → L e.on = true) → (∀ e ∈ pen.after, Region.binds .any e = true → L e.on = true) → ∀ j, j < ops.length → L j = true)
    (Rl : World → World → Prop) (hr : ∀ w, Rl w w) (ht : ∀ {x y z}, Rl x y → Rl y z → Rl x z)
    (ψ : Nat → Value → World → Prop) (hψ : ∀ i v w w', ψ i v w → Rl w w' → ψ i v w')
    (hstep : ∀ i o d, ops.toArray[i]? = some o → o.dst = some d → ∀ a' w', Frm ops a a' → Rl w.drew w' →
      (∀ j o' d', hasEdge o j = true → ops.toArray[j]? = some o' → o'.dst = some d' → ψ j (a'.tmps.getD d' undef) w') →
      wpOpIn F n P (ops ++ [pen, last]).toArray Q i (fun a'' w'' => ∃ v, a'' = a'.put (some d) v ∧ ψ i v w'' ∧ Rl w' w'') a' w')
    (hlast : ∀ a' w', Frm ops a a' → Rl w.drew w' → (∀ j o' d', ops.toArray[j]? = some o' → o'.dst = some d' → ψ j (a'.tmps.getD d' undef) w') →
      wpOpIn F n P (ops ++ [pen, last]).toArray Q ops.length (fun a'' w'' => wpOpIn F n P (ops ++ [pen, last]).toArray Q (ops.length + 1) (fun a3 w3 => Q .normal a3 w3) a'' w'') a' w') :
    (Code.region id (ops ++ [pen, last]).toArray true).wpIn F n P Q a w := by
  have hold : ∀ (i : Nat) (o : Oper), i < ops.length → (ops ++ [pen, last]).toArray[i]? = some o → ops.toArray[i]? = some o := by
    intro i o hi ho
    simp only [List.getElem?_toArray] at ho ⊢
    rwa [List.getElem?_append_left hi] at ho
  have hnew : ∀ (i : Nat) (o : Oper), ops.toArray[i]? = some o → i < ops.length := by
    intro i o ho
    have := (Array.getElem?_eq_some_iff.1 ho).1
    simpa using this
  have hpn : (ops ++ [pen, last]).toArray[ops.length]? = some pen := by simp
  have hlst : (ops ++ [pen, last]).toArray[ops.length + 1]? = some last := by simp
  have hdst : ∀ (i : Nat) (o : Oper), ops.toArray[i]? = some o → ∃ d, o.dst = some d ∧ d < N := by
    intro i o ho
    have h1 := (Bool.and_eq_true _ _ ▸ hs).1
    rw [List.all_eq_true] at h1
    have hmem : o ∈ ops := by simpa using List.mem_of_getElem? (by simpa using ho)
    have := h1 o hmem
    cases hd : o.dst with
    | none => rw [hd] at this; cases this
    | some d => rw [hd] at this; exact ⟨d, rfl, by simpa using this⟩
  have hinj : ∀ (i j : Nat) (o o' : Oper) (d : Nat), ops.toArray[i]? = some o → ops.toArray[j]? = some o' → o.dst = some d → o'.dst = some d → i = j := by
    intro i j o o' d hi hj hd hd'
    have h1 := (Bool.and_eq_true _ _ ▸ hs).2
    have hnd : (ops.map (·.dst)).Nodup := by simpa using h1
    have hi' : (ops.map (·.dst))[i]? = some (some d) := by simp at hi; simp [hi, hd]
    have hj' : (ops.map (·.dst))[j]? = some (some d) := by simp at hj; simp [hj, hd']
    have hlt : i < (ops.map (·.dst)).length := by
      rcases Nat.lt_or_ge i (ops.map (·.dst)).length with h | h
      · exact h
      · rw [List.getElem?_eq_none h] at hi'; cases hi'
    exact (List.getElem?_inj hlt hnd).1 (hi'.trans hj'.symm)
  have hedge : ∀ j, j < ops.length + 1 → ∃ e ∈ last.after, e.on = j ∧ Region.binds .any e = true := by
    intro j hj
    rw [List.all_eq_true] at hall
    have := hall j (List.mem_range.2 hj)
    unfold hasEdge at this
    rw [List.any_eq_true] at this
    obtain ⟨e, hem, he⟩ := this
    exact ⟨e, by simpa using hem, by simpa using he⟩
  have hcase : ∀ (i : Nat) (o : Oper), (ops ++ [pen, last]).toArray[i]? = some o → i < ops.length ∨ i = ops.length ∨ i = ops.length + 1 := by
    intro i o hi
    have := (Array.getElem?_eq_some_iff.1 hi).1
    simp at this
    omega
  refine wpIn_region_by hm hb (fun L a' w' => (L ops.length = false ∧ L (ops.length + 1) = false ∧ Frm ops a a' ∧ Rl w.drew w' ∧ ∀ j o' d', L j = true → ops.toArray[j]? = some o' → o'.dst = some d' → ψ j (a'.tmps.getD d' undef) w') ∨
      (L ops.length = true ∧ L (ops.length + 1) = false ∧ wpOpIn F n P (ops ++ [pen, last]).toArray Q (ops.length + 1) (fun a3 w3 => Q .normal a3 w3) a' w') ∨ (L (ops.length + 1) = true ∧ Q .normal a' w'))
    (.inl ⟨rfl, rfl, ⟨rfl, rfl, fun _ _ => rfl⟩, hr _, fun _ _ _ h => absurd h (by simp)⟩) ?_ ?_
  · rintro L a' w' i o (⟨hLp, hLn, hF, hR, hL⟩ | ⟨hLp, hLn, hw2⟩ | ⟨hLn, _⟩) hi hli hpre hcl
    · rcases hcase i o hi with hin | rfl | rfl
      · have hi' := hold i o hin hi
        obtain ⟨d, hd, hdN⟩ := hdst i o hi'
        refine wpOpIn_mono ?_ (hstep i o d hi' hd a' w' hF hR (fun j o' d' he hj hd' => hL j o' d' ?_ hj hd'))
        · rintro a'' w'' ⟨v, rfl, hv, hR'⟩
          refine .inl ⟨by have : ¬ (ops.length = i) := by omega
                          simp [hLp, this], by have : ¬ (ops.length + 1 = i) := by omega
                                               simp [hLn, this], ⟨size_put.trans hF.size, defers_put.trans hF.defers, fun s hs' => ?_⟩, ht hR hR', fun j o' d' hj ho' hd' => ?_⟩
          · have hmem : o ∈ ops := by simpa using List.mem_of_getElem? (by simpa using hi')
            rw [getD_put_ne (fun e => hs' o hmem (by rw [hd, e]))]
            exact hF.old s hs'
          · by_cases hji : j = i
            · subst hji
              rw [hi'] at ho'; cases ho'
              rw [hd] at hd'; cases hd'
              rw [getD_put_same (by rw [hF.size, hN]; exact hdN)]
              exact hv
            · have hne : d' ≠ d := fun e => hji (by subst e; exact hinj j i o' o d' ho' hi' hd' hd)
              rw [getD_put_ne hne]
              have hlj : L j = true := by simpa [hji] using hj
              exact hψ j _ _ _ (hL j o' d' hlj ho' hd') hR'
        · unfold hasEdge at he
          rw [List.any_eq_true] at he
          obtain ⟨e, hem, he'⟩ := he
          have h1 : e.on = j ∧ Region.binds .any e = true := by simpa using he'
          rw [← h1.1]
          exact hpre e (by simpa using hem) h1.2
      · rw [hpn] at hi; cases hi
        have hLall := hpen L hcl hpre
        refine wpOpIn_mono ?_ (hlast a' w' hF hR (fun j o' d' hj hd' => hL j o' d' (hLall j (hnew j o' hj)) hj hd'))
        intro a'' w'' h
        exact .inr (.inl ⟨by simp, by simp [hLn], h⟩)
      · rw [hlst] at hi; cases hi
        obtain ⟨e, hem, he, hbd⟩ := hedge ops.length (by omega)
        have := hpre e hem hbd
        rw [he, hLp] at this; cases this
    · rcases hcase i o hi with hin | rfl | rfl
      · have := hpen L hcl (fun e he hbd => hcl ops.length pen e hpn hLp he hbd) i hin
        rw [hli] at this; cases this
      · rw [hLp] at hli; cases hli
      · rw [hlst] at hi; cases hi
        refine wpOpIn_mono ?_ hw2
        intro a'' w'' h
        exact .inr (.inr ⟨by simp, h⟩)
    · rcases hcase i o hi with hin | rfl | rfl
      · obtain ⟨e, hem, he, hbd⟩ := hedge i (by omega)
        have := hcl (ops.length + 1) last e hlst hLn hem hbd
        rw [he, hli] at this; cases this
      · obtain ⟨e, hem, he, hbd⟩ := hedge ops.length (by omega)
        have := hcl (ops.length + 1) last e hlst hLn hem hbd
        rw [he, hli] at this; cases this
      · rw [hLn] at hli; cases hli
  · rintro L a' w' (⟨_, hLn, _⟩ | ⟨_, hLn, _⟩ | ⟨_, h⟩) hl
    · have := hl (ops.length + 1) (by simp)
      rw [hLn] at this; cases this
    · have := hl (ops.length + 1) (by simp)
      rw [hLn] at this; cases this
    · exact h
end
end Go.Proofs.YtdiihaeelcbjbaaGreatDoor
-- Region3
namespace Go.Proofs.YtdiihaeelcbjbaaGreatDoor
open Go.RowKit
section
variable {F : Fence} {n : Nat} {P : Program} {Q : Exit → Act → World → Prop} {ops : List Oper}
/-- What has been carried out, and i. -/
def andI (L : Nat → Bool) (i : Nat) : Nat → Bool := fun j => L j || j == i
theorem andI_self (L : Nat → Bool) (i : Nat) : andI L i i = true := by simp [andI]
theorem andI_old {L : Nat → Bool} {i j : Nat} (h : L j = true) : andI L i j = true := by simp [andI, h]
theorem wpIn_region_st {id : Nat} {a : Act} {w : World} (N : Nat) (hN : a.tmps.size = N) (hm : P.follows .mixedOrders = true) (hb : backwards ops = true) (hs : slotsOk N ops = true)
    (WS : (Nat → Bool) → World → Prop) (Ψ : (Nat → Bool) → Nat → Value → World → Prop) (h0 : WS (fun _ => false) w.drew)
    (hstep : ∀ L i o d a' w', ops.toArray[i]? = some o → o.dst = some d → L i = false → (∀ j, hasEdge o j = true → L j = true) → (∀ j o', ops.toArray[j]? = some o' → L j = true → ∀ k, hasEdge o' k = true → L k = true) → Frm ops a a' → WS L w' →
      (∀ j o' d', L j = true → ops.toArray[j]? = some o' → o'.dst = some d' → Ψ L j (a'.tmps.getD d' undef) w') →
      wpOpIn F n P ops.toArray Q i (fun a'' w'' => ∃ v, a'' = a'.put (some d) v ∧ Ψ (andI L i) i v w'' ∧ WS (andI L i) w'' ∧ ∀ j u, L j = true → Ψ L j u w' → Ψ (andI L i) j u w'') a' w')
    (hdone : ∀ L a' w', (∀ j, j < ops.length → L j = true) → Frm ops a a' → WS L w' → (∀ j o' d', ops.toArray[j]? = some o' → o'.dst = some d' → Ψ L j (a'.tmps.getD d' undef) w') → Q .normal a' w') :
    (Code.region id ops.toArray true).wpIn F n P Q a w := by
  have hall : ∀ (i : Nat) (o : Oper), ops.toArray[i]? = some o → ∃ d, o.dst = some d ∧ d < N := by
    intro i o ho
    have h1 := (Bool.and_eq_true _ _ ▸ hs).1
    rw [List.all_eq_true] at h1
    have hmem : o ∈ ops := by simpa using List.mem_of_getElem? (by simpa using ho)
    have := h1 o hmem
    cases hd : o.dst with
    | none => rw [hd] at this; cases this
    | some d => rw [hd] at this; exact ⟨d, rfl, by simpa using this⟩
  have hinj : ∀ (i j : Nat) (o o' : Oper) (d : Nat), ops.toArray[i]? = some o → ops.toArray[j]? = some o' → o.dst = some d → o'.dst = some d → i = j := by
    intro i j o o' d hi hj hd hd'
    have h1 := (Bool.and_eq_true _ _ ▸ hs).2
    have hnd : (ops.map (·.dst)).Nodup := by simpa using h1
    have hi' : (ops.map (·.dst))[i]? = some (some d) := by simp at hi; simp [hi, hd]
    have hj' : (ops.map (·.dst))[j]? = some (some d) := by simp at hj; simp [hj, hd']
    have hlt : i < (ops.map (·.dst)).length := by
      rcases Nat.lt_or_ge i (ops.map (·.dst)).length with h | h
      · exact h
      · rw [List.getElem?_eq_none h] at hi'; cases hi'
    exact (List.getElem?_inj hlt hnd).1 (hi'.trans hj'.symm)
  have hedge : ∀ (o : Oper) (j : Nat), hasEdge o j = true → ∃ e ∈ o.after, e.on = j ∧ Region.binds .any e = true := by
    intro o j h
    unfold hasEdge at h
    rw [List.any_eq_true] at h
    obtain ⟨e, hem, he⟩ := h
    exact ⟨e, by simpa using hem, by simpa using he⟩
  refine wpIn_region_by hm hb (fun L a' w' => Frm ops a a' ∧ WS L w' ∧ ∀ j o' d', L j = true → ops.toArray[j]? = some o' → o'.dst = some d' → Ψ L j (a'.tmps.getD d' undef) w')
    ⟨⟨rfl, rfl, fun _ _ => rfl⟩, h0, fun _ _ _ h => by cases h⟩ ?_ ?_
  · rintro L a' w' i o ⟨hF, hW, hL⟩ hi hli hpre hcl
    obtain ⟨d, hd, hdN⟩ := hall i o hi
    refine wpOpIn_mono ?_ (hstep L i o d a' w' hi hd hli (fun j he => ?_) (fun j o' hj hlj k he => ?_) hF hW hL)
    · rintro a'' w'' ⟨v, rfl, hv, hW', hkeep⟩
      refine ⟨⟨size_put.trans hF.size, defers_put.trans hF.defers, fun s hs' => ?_⟩, hW', fun j o' d' hj ho' hd' => ?_⟩
      · have hmem : o ∈ ops := by simpa using List.mem_of_getElem? (by simpa using hi)
        rw [getD_put_ne (fun e => hs' o hmem (by rw [hd, e]))]
        exact hF.old s hs'
      · by_cases hji : j = i
        · subst hji
          rw [hi] at ho'; cases ho'
          rw [hd] at hd'; cases hd'
          rw [getD_put_same (by rw [hF.size, hN]; exact hdN)]
          exact hv
        · have hne : d' ≠ d := fun e => hji (by subst e; exact hinj j i o' o d' ho' hi hd' hd)
          rw [getD_put_ne hne]
          have hlj : L j = true := by simpa [hji] using hj
          exact hkeep j _ hlj (hL j o' d' hlj ho' hd')
    · obtain ⟨e, hem, he, hbd⟩ := hedge o j he
      rw [← he]; exact hpre e hem hbd
    · obtain ⟨e, hem, he', hbd⟩ := hedge o' k he
      rw [← he']; exact hcl j o' e hj hlj hem hbd
  · rintro L a' w' ⟨hF, hW, hL⟩ hl
    refine hdone L a' w' hl hF hW (fun j o' d' hj hd' => hL j o' d' (hl j ?_) hj hd')
    have := (Array.getElem?_eq_some_iff.1 hj).1
    simpa using this
end
end Go.Proofs.YtdiihaeelcbjbaaGreatDoor
-- Open
namespace Go.Proofs.YtdiihaeelcbjbaaGreatDoor
open Go.ChangeShapes Go.WideShapes Go.ChangeAt Go.RowKit Go.ChangeMaps
theorem wf_u32 {n : Int} (h : (Lit.int .u32 n).wf = true) : ∃ k : Nat, n = (k : Int) ∧ k < 4294967296 := by
  simp [Lit.wf, IntKind.min, IntKind.max, IntKind.signed, IntKind.bits] at h
  exact ⟨n.toNat, by omega, by omega⟩
theorem wf_u16 {n : Int} (h : (Lit.int .u16 n).wf = true) : ∃ k : Nat, n = (k : Int) ∧ k < 65536 := by
  simp [Lit.wf, IntKind.min, IntKind.max, IntKind.signed, IntKind.bits] at h
  exact ⟨n.toNat, by omega, by omega⟩
end Go.Proofs.YtdiihaeelcbjbaaGreatDoor
-- AppAt
namespace Go.Proofs.YtdiihaeelcbjbaaGreatDoor
open Go.RowKit
section
variable {P : Program} {w : World}
theorem run_append_hasAt (base : Nat) (t ty e : TypeId) (i : TypeInfo) (ht : P.underlying t = some (.slice e)) (hi : P.info? e = some i) (hz : i.zero = some (.int .u8 0))
    (hsize : i.size = 1) (hby : i.bytes = 1) (v : Value) (n : Nat) (xs : List UInt8) (hown : w.ownsRow base e 1 v n (xs.map enc))
    (B : Nat) (A : Option Addr) (m c : Nat) (bs : List UInt8) (hm : m = bs.length) (h : HasA w B A bs) (h63 : n + m ≤ 140737488355328) (hbase : base ≤ w.heap.size) :
    ∃ v' w', (Builtin.append_ #[t, t] ty #[v, .slice A m c]).run P w = .ok v' w' ∧ w'.ownsRow base e 1 v' (n + m) ((xs ++ bs).map enc) ∧ w.grownBy w' v.ownBlock ∧ (v'.ownBlock = v.ownBlock ∨ v'.ownBlock = some w.heap.size) := by
  subst hm
  by_cases hb : bs = []
  · subst hb
    refine ⟨v, w, ?_, by simpa using hown, ⟨rfl, rfl, rfl, Nat.le_refl _, fun _ _ _ => rfl⟩, .inl rfl⟩
    have hfc : (Builtin.firstCells 1 0 (.slice A 0 c)).run P w = .ok #[] w := by
      cases A <;> simp [Builtin.firstCells, loadCells, loadCellsFrom]
    rcases hown.2 with ⟨rfl, rfl⟩ | ⟨g, cap, cur, rfl, _, _, hnc, _⟩
    · simp [Builtin.append_, run_underlying ht, sizeOf, typeInfo, hi, Builtin.lenOf, hsize, hfc]
    · simp [Builtin.append_, run_underlying ht, sizeOf, typeInfo, hi, Builtin.lenOf, hsize, hfc, hnc, storeCells]
  · obtain ⟨b, o, rfl, _, _⟩ := id h hb
    obtain ⟨v', w', hr, h1, h2, _, h4⟩ := run_append_own_at (P := P) w base t ty e i _ 1 1 ht hi hz hsize hby rfl (by omega) v n _ hown ⟨b, o, none⟩ bs.length c (bs.map enc) (by simp) (h.src rfl) (encs_one bs) (by simp only [maxLen]; omega) (by omega) hbase
    exact ⟨v', w', hr, by simpa using h1, h2, h4⟩
theorem wpList_append_hasAt {ops : Array Oper} {rest : List Oper} {o : Oper} {a : Act} {Q : Exit → Act → World → Prop} (hgd : Region.wanted o (yielded ops a.tmps) = true) (s x : Operand) (t : TypeId)
    (ho : o.op = .call { callee := .builtin .append, args := #[s, x], argTypes := #[t, t] })
    (base : Nat) (e : TypeId) (i : TypeInfo) (ht : P.underlying t = some (.slice e)) (hi : P.info? e = some i) (hz : i.zero = some (.int .u8 0)) (hsize : i.size = 1) (hby : i.bytes = 1)
    (v : Value) (n : Nat) (xs : List UInt8) (hs : a.eval s = v) (hown : w.ownsRow base e 1 v n (xs.map enc))
    (B : Nat) (A : Option Addr) (m c : Nat) (bs : List UInt8) (hx : a.eval x = .slice A m c) (hm : m = bs.length) (hr : HasA w B A bs)
    (h63 : n + m ≤ 140737488355328) (hbase : base ≤ w.heap.size)
    (h : ∀ v' w', w'.ownsRow base e 1 v' (n + m) ((xs ++ bs).map enc) → w.grownBy w' v.ownBlock → (v'.ownBlock = v.ownBlock ∨ v'.ownBlock = some w.heap.size) → wpList P ops Q rest (a.put o.dst v') w') : wpList P ops Q (o :: rest) a w := by
  obtain ⟨v', w', hrun, h2, h3, h4⟩ := run_append_hasAt (P := P) base t o.type e i ht hi hz hsize hby v n xs hown B A m c bs hm hr h63 hbase
  refine BigFrame.wpList_want hgd fun K hK => ?_
  unfold Oper.wp execOp
  simp only [ho, resolve, invoke, builtin, Sem.run_bind, Sem.run_pure, Result.andThen_ok, List.map_toArray, List.map_cons, List.map_nil, hs, hx, hrun]
  exact hK _ _ (h v' w' h2 h3 h4)
end
end Go.Proofs.YtdiihaeelcbjbaaGreatDoor
-- CopyIn
namespace Go.Proofs.YtdiihaeelcbjbaaGreatDoor
open Go.RowKit
/-- A block behind a copy of the bytes x to its offset o. -/
def Copied (cur cur' : Array Value) (o : Nat) (x : List UInt8) : Prop := cur'.size = cur.size ∧ (∀ j (h : j < x.length), cur'[o + j]? = some (enc x[j])) ∧ ∀ i, (i < o ∨ o + x.length ≤ i) → cur'[i]? = cur[i]?
theorem copied_mid (cur : Array Value) (o : Nat) (x : List UInt8) (h : o + x.length ≤ cur.size) : Copied cur (cur.toList.take o ++ x.map enc ++ cur.toList.drop (o + (x.map enc).length)).toArray o x := by
  have hl : (cur.toList.take o).length = o := by simp; omega
  refine ⟨by simp; omega, fun j hj => ?_, fun i hi => ?_⟩
  · simp only [List.getElem?_toArray]
    rw [List.getElem?_append_left (by simp; omega), List.getElem?_append_right (by omega), hl]
    simp [hj]
  · simp only [List.getElem?_toArray]
    rcases hi with hi | hi
    · rw [List.getElem?_append_left (by simp; omega), List.getElem?_append_left (by simp; omega), List.getElem?_take]
      simp [hi]
    · rw [List.getElem?_append_right (by simp; omega)]
      simp only [List.length_append, hl, List.length_map, List.getElem?_drop]
      rw [show o + x.length + (i - (o + x.length)) = i by omega]
      simp
/-- A copy, at a step of a region that draws its order. -/
theorem step_copy {w : World} {ops : Array Oper} {o : Oper} {a : Act} {K : Act → World → Prop} {Q : Exit → Act → World → Prop} {E : Prop} (hgd : o.guard = none) (d s : Operand) (t : TypeId)
    (ho : o.op = .call { callee := .builtin .copy, args := #[d, s], argTypes := #[t, t] }) (vd vs v : Value) (hd : a.eval d = vd) (hs : a.eval s = vs) (w' : World)
    (hr : ∀ ty, (Builtin.copy_ #[t, t] ty #[vd, vs]).run Tryz.prog w = .ok v w') (h : K (a.put o.dst v) w') :
    if Region.wanted o (yielded ops a.tmps) = true then Oper.wp Tryz.prog o a w K Q else E := by
  have hw : Region.wanted o (yielded ops a.tmps) = true := by simp [Region.wanted, hgd]
  rw [if_pos hw]
  unfold Oper.wp execOp
  simp only [ho, resolve, invoke, builtin, Sem.run_bind, Sem.run_pure, Result.andThen_ok, List.map_toArray, List.map_cons, List.map_nil, hd, hs, hr]
  exact h
end Go.Proofs.YtdiihaeelcbjbaaGreatDoor
-- MakeCopy
namespace Go.Proofs.YtdiihaeelcbjbaaGreatDoor
open Go.RowKit
section
variable {w : World} {ops : Array Oper} {rest : List Oper} {o : Oper} {a : Act} {Q : Exit → Act → World → Prop}
/-- 'copy(d, s)', by its run. -/
theorem wpList_copy_run (hg : o.guard = none) (d s : Operand) (t : TypeId) (ho : o.op = .call { callee := .builtin .copy, args := #[d, s], argTypes := #[t, t] }) (vd vs v : Value) (hd : a.eval d = vd) (hs : a.eval s = vs) (w' : World)
    (hr : ∀ ty, (Builtin.copy_ #[t, t] ty #[vd, vs]).run Tryz.prog w = .ok v w') (h : wpList Tryz.prog ops Q rest (a.put o.dst v) w') : wpList Tryz.prog ops Q (o :: rest) a w := by
  refine wpList_plain hg fun K hK => ?_
  unfold Oper.wp execOp
  simp only [ho, resolve, invoke, builtin, Sem.run_bind, Sem.run_pure, Result.andThen_ok, List.map_toArray, List.map_cons, List.map_nil, hd, hs, hr]
  exact hK _ _ h
end
end Go.Proofs.YtdiihaeelcbjbaaGreatDoor
-- Loop
namespace Go.Proofs.YtdiihaeelcbjbaaGreatDoor
open Go.RowKit
/-- I abides the turn of a block that holds no cells and lies at or beyond B. -/
def Abides (B : Nat) (I : World → Prop) : Prop :=
  ∀ W W' row, I W → W.grownBy W' row → (∀ r, row = some r → B ≤ r ∧ ∃ o : Obj, W.heap[r]? = some o ∧ o.isCells = false) → I W'
theorem Abides.putObj {B : Nat} {I : World → Prop} (h : Abides B I) {W : World} {l : Nat} {o : Obj} (o' : Obj) (hs : I W) (hB : B ≤ l) (hl : W.heap[l]? = some o) (ho : o.isCells = false) : I (W.putObj l o') :=
  h W _ (some l) hs (grownBy_putObj' W l o') (fun r e => by cases e; exact ⟨hB, o, hl, ho⟩)
theorem Abides.alloc {B : Nat} {I : World → Prop} (h : Abides B I) {W : World} (o : Obj) (hs : I W) : I (W.alloc o) :=
  h W _ none hs (World.grownBy_alloc W o none) (fun r e => by cases e)
theorem Abides.and {B : Nat} {I J : World → Prop} (h : Abides B I) (k : Abides B J) : Abides B (fun W => I W ∧ J W) :=
  fun W W' row hs hg hr => ⟨h W W' row hs.1 hg hr, k W W' row hs.2 hg hr⟩
theorem Abides.pure {B : Nat} (p : Prop) : Abides B (fun _ => p) := fun _ _ _ h _ _ => h
theorem Abides.ex {B : Nat} {β : Type} {I : β → World → Prop} (h : ∀ b, Abides B (I b)) : Abides B (fun W => ∃ b, I b W) :=
  fun W W' row ⟨b, hb⟩ hg hr => ⟨b, h b W W' row hb hg hr⟩
theorem Abides.below {B n₀ : Nat} {w₀ : World} (hn : n₀ ≤ w₀.heap.size) (hB : n₀ ≤ B) : Abides B (fun W => Below n₀ w₀ W) :=
  fun _ _ _ hs hg hr => hs.grown hg (Nat.le_trans hn hs.size) (fun k e => Nat.le_trans hB (hr k e).1)
theorem Abides.block {B k : Nat} {cs : Array Value} {t : TypeId} {z : Nat × Nat} : Abides B (fun W => W.heap[k]? = some (.cells cs t z)) := by
  intro W W' row hs hg hr
  refine (hg.block k (Array.getElem?_eq_some_iff.1 hs).1 (fun e => ?_)).trans hs
  obtain ⟨_, o, ho, hc⟩ := hr k e.symm
  rw [hs] at ho; cases ho; cases hc
theorem Abides.cell {B : Nat} {a : Addr} {v : Value} : Abides B (fun W => W.cell? a = some v) := by
  intro W W' row hs hg hr
  exact cell_kept hs hg (fun r e => (hr r e).2)
theorem Abides.own {B base : Nat} {e : TypeId} {size n : Nat} {v : Value} {xs : List Value} : Abides B (fun W => W.ownsRow base e size v n xs) := by
  intro W W' row hs hg hr
  refine hs.kept hg ?_
  rcases hs.2 with ⟨rfl, _⟩ | ⟨g, cap, cur, rfl, _, hgb, _⟩
  · exact .inl rfl
  · refine .inr fun e' => ?_
    obtain ⟨_, o, ho, hc⟩ := hr g (by simpa [Value.ownBlock] using e'.symm)
    rw [hgb] at ho; cases ho; cases hc
/-- How the body of a round may be left. -/
def tiedPost (B : Nat) (Io : World → Prop) (Ix : Code → World → Prop) (W : World) : Exit → Act → World → Prop
  | .normal, _, W' => KeepsFrom B W W' ∧ Io W'
  | .ret, _, W' => KeepsFrom B W W' ∧ Ix .ret W'
  | .exit id, _, W' => KeepsFrom B W W' ∧ Ix (.exit id) W'
  | .goto t, _, W' => KeepsFrom B W W' ∧ Ix (.goto t) W'
  | .panic _, _, _ => False
  | .outgrown, _, _ => False
/-- What the iterator owes: for whatever book-keeping G (at a jump Gx) of the loop's, if a call of yield at Iy comes back in Io (or, with false, in Ix), the iterator comes back in Id (or in Ixd). -/
def TiedSeq {γ : Type} (F : Fence) (n : Nat) (P : Program) (gf : Nat) (fb lb : Array Value) (encs : γ → Array Value) (B : Nat)
    (I0 Id : World → Prop) (Iy Io : γ → World → Prop) (Ix Ixd : Code → World → Prop) : Prop :=
  ∀ (l : Nat) (G : World → Prop) (Gx : Code → World → Prop), (∀ A C, G A → KeepsFrom B A C → G C) → (∀ c A C, Gx c A → KeepsFrom B A C → Gx c C) →
    (∀ x W, Iy x W → G W → YieldAt F (n - 1) P l (encs x) W fun e W' =>
      (e = .returned (.bool true) ∧ Io x W' ∧ G W') ∨ (e = .returned (.bool false) ∧ ∃ c, Ix c W' ∧ Gx c W')) →
    ∀ W, I0 W → G W → CallsIn F n P gf (fb ++ #[.func (.yield l) #[] #[]] ++ lb) W fun e W' => (∃ v, e = .returned v) ∧ ((Id W' ∧ G W') ∨ (∃ c, Ixd c W' ∧ Gx c W'))
theorem wpIn_rangeFunc_tied {F : Fence} {n : Nat} {P : Program} {γ : Type} {g : Operand} {ps : Array Tmp} {assign body : Code} {Q : Exit → Act → World → Prop} {a : Act} {w : World}
    (hro : F.round = none) (h1 : 1 ≤ n) {gf : Nat} {fb lb : Array Value} (hg : a.eval g = .func (.func gf) fb lb) (hFg : F.fn gf) (eg : ∀ args w, (callFunc gf args).run P w = .ok (.enter gf args) w)
    {encs : γ → Array Value} (hps : ∀ x, (encs x).size = ps.size)
    {I0 Id : World → Prop} {Iy Io : γ → World → Prop} {Ix Ixd : Code → World → Prop}
    (hI0 : Abides w.heap.size I0) (hId : Abides w.heap.size Id) (hIy : ∀ x, Abides w.heap.size (Iy x)) (hIo : ∀ x, Abides w.heap.size (Io x)) (hIx : ∀ c, Abides w.heap.size (Ix c)) (hIxd : ∀ c, Abides w.heap.size (Ixd c))
    (hseq : TiedSeq F (n - 1) P gf fb lb encs w.heap.size I0 Id Iy Io Ix Ixd) (h0 : I0 w) (a₁ : γ → Act)
    (hassign : ∀ (l : Nat) (x : γ) (W : World) (K : Act → World → Prop), K (a₁ x) W →
      assign.wpIn (F.inRound l) (n - 1 - 1) P (Exit.then K (fun _ _ _ => False)) { tmps := (ps.zip (encs x)).foldl (fun t (p, v) => t.setIfInBounds p v) a.tmps, defers := [] } W)
    (hbody : ∀ (l : Nat) (x : γ) (W : World), Iy x W → w.heap.size ≤ W.heap.size → body.wpIn (F.inRound l) (n - 1 - 1) P (tiedPost w.heap.size (Io x) Ix W) (a₁ x) W)
    (hdone : ∀ (D : Nat) (W : World), w.heap.size ≤ D → Id W → W.heap[D]? = some (.deferred (some [])) → Q .normal { a with defers := { target := .collected D, args := #[] } :: a.defers } W)
    (hstop : ∀ (D : Nat) (c : Code) (W : World), w.heap.size ≤ D → Ixd c W → W.heap[D]? = some (.deferred (some [])) → c.wpIn F n P Q { a with defers := { target := .collected D, args := #[] } :: a.defers } W) :
    (Code.rangeFunc g ps assign body).wpIn F n P Q a w := by
  refine wpIn_rangeFunc ?_
  intro fn hfn
  rw [hro]
  obtain ⟨rec, hrec⟩ : ∃ rec : LoopState → Option Code → Loop, rec = fun st pe => { state := st, pending := pe, fn, tmps := a.tmps, params := ps, assign, body, defers := w.heap.size } := ⟨_, rfl⟩
  obtain ⟨W1, hW1⟩ : ∃ W1, (w.alloc (.deferred (some []))).alloc (.loop (rec .ready none)) = W1 := ⟨_, rfl⟩
  have hL1 : W1.heap[w.heap.size + 1]? = some (.loop (rec .ready none)) := by
    rw [← hW1]; have := World.alloc_heap_new (w.alloc (.deferred (some []))) (.loop (rec .ready none)); rwa [World.size_alloc] at this
  have hK1 : W1.heap[w.heap.size]? = some (.deferred (some [])) := by
    rw [← hW1]; exact (Below.heap_alloc _ _ _ (by simp)).trans (World.alloc_heap_new w _)
  have hI1 : I0 W1 := by rw [← hW1]; exact hI0.alloc _ (hI0.alloc _ h0)
  refine ⟨w.heap.size + 1, [{ target := .collected w.heap.size, args := #[] }], W1, { target := .fn (.func gf) lb, args := fb ++ #[.func (.yield (w.heap.size + 1)) #[] #[]] }, W1, gf,
    fb ++ #[.func (.yield (w.heap.size + 1)) #[] #[]] ++ lb, W1, ?_, ?_, ?_, ?_, fun _ => h1, ?_⟩
  · rw [← hW1, hrec]; exact run_enterLoop_outer _ _ _ _ _
  · simp only [resolve, hg]
    simp [go_sem]
  · intro f' hf'; simp [Target.leads] at hf'; subst hf'; exact hFg
  · simp [invoke, go_sem, eg]
  · refine (hseq (w.heap.size + 1)
      (fun W => W.heap[w.heap.size + 1]? = some (.loop (rec .ready none)) ∧ W.heap[w.heap.size]? = some (.deferred (some [])))
      (fun c W => W.heap[w.heap.size + 1]? = some (.loop (rec .done (some c))) ∧ W.heap[w.heap.size]? = some (.deferred (some [])))
      (fun A C h k => ⟨k.same _ _ (by omega) h.1 rfl, k.same _ _ (Nat.le_refl _) h.2 rfl⟩)
      (fun c A C h k => ⟨k.same _ _ (by omega) h.1 rfl, k.same _ _ (Nat.le_refl _) h.2 rfl⟩)
      ?_ W1 hI1 ⟨hL1, hK1⟩).mono ?_
    · rintro x W hi ⟨hl, hk⟩
      have hlt : w.heap.size + 1 < W.heap.size := (Array.getElem?_eq_some_iff.1 hl).1
      have hy := run_yield (P := P) (args := encs x) hl (by rw [hrec]; exact hps x)
      rw [hrec] at hy
      refine ⟨fn, _, assign, body, hy, roundIn_of_wpIn hfn (hassign _ x W _ ⟨_, run_beginRound hl (by rw [hrec]), ?_⟩)⟩
      have hl2 : (W.putObj (w.heap.size + 1) (.loop { rec .ready none with state := .busy })).heap[w.heap.size + 1]? = some (.loop { rec .ready none with state := .busy }) := World.putObj_heap_same hlt
      have hk2 : (W.putObj (w.heap.size + 1) (.loop { rec .ready none with state := .busy })).heap[w.heap.size]? = some (.deferred (some [])) := (World.putObj_heap_other (by omega)).trans hk
      refine wpIn_mono (hbody _ x _ ((hIy x).putObj _ hi (by omega) hl rfl) (Nat.le_trans (by omega : w.heap.size ≤ W.heap.size) (grownBy_putObj' W _ _).size)) ?_
      have fin : ∀ (jump : Option Code) (W3 : World), KeepsFrom w.heap.size (W.putObj (w.heap.size + 1) (.loop { rec .ready none with state := .busy })) W3 →
          (Instr.endRound (w.heap.size + 1) jump).run P W3 = .ok (.bool jump.isNone) (W3.putObj (w.heap.size + 1) (.loop (rec (if jump.isNone then .ready else .done) jump))) ∧
          W3.heap[w.heap.size + 1]? = some (.loop { rec .ready none with state := .busy }) ∧
          (W3.putObj (w.heap.size + 1) (.loop (rec (if jump.isNone then .ready else .done) jump))).heap[w.heap.size + 1]? = some (.loop (rec (if jump.isNone then .ready else .done) jump)) ∧
          (W3.putObj (w.heap.size + 1) (.loop (rec (if jump.isNone then .ready else .done) jump))).heap[w.heap.size]? = some (.deferred (some [])) := fun jump W3 hk3 => by
        have hl3 := hk3.same _ _ (by omega) hl2 rfl
        have := run_endRound (P := P) jump hl3
        rw [hrec] at this ⊢
        exact ⟨this, by rw [hrec] at hl3; exact hl3, World.putObj_heap_same (Array.getElem?_eq_some_iff.1 hl3).1, (World.putObj_heap_other (by omega)).trans (hk3.same _ _ (Nat.le_refl _) hk2 rfl)⟩
      rintro e a3 W3 hp
      cases e with
      | normal =>
        obtain ⟨hk3, hi3⟩ := hp
        obtain ⟨hr, hl3, hl4, hk4⟩ := fin none W3 hk3
        exact ⟨_, _, hr, .inl ⟨rfl, (hIo x).putObj _ hi3 (by omega) hl3 rfl, hl4, hk4⟩⟩
      | ret =>
        obtain ⟨hk3, hi3⟩ := hp
        obtain ⟨hr, hl3, hl4, hk4⟩ := fin (some .ret) W3 hk3
        exact ⟨_, _, hr, .inr ⟨rfl, .ret, (hIx _).putObj _ hi3 (by omega) hl3 rfl, hl4, hk4⟩⟩
      | exit id =>
        obtain ⟨hk3, hi3⟩ := hp
        obtain ⟨hr, hl3, hl4, hk4⟩ := fin (some (.exit id)) W3 hk3
        exact ⟨_, _, hr, .inr ⟨rfl, .exit id, (hIx _).putObj _ hi3 (by omega) hl3 rfl, hl4, hk4⟩⟩
      | goto t =>
        obtain ⟨hk3, hi3⟩ := hp
        obtain ⟨hr, hl3, hl4, hk4⟩ := fin (some (.goto t)) W3 hk3
        exact ⟨_, _, hr, .inr ⟨rfl, .goto t, (hIx _).putObj _ hi3 (by omega) hl3 rfl, hl4, hk4⟩⟩
      | panic ch => exact hp.elim
      | outgrown => exact hp.elim
    · rintro e W2 ⟨⟨v, rfl⟩, (⟨hi, hl, hk⟩ | ⟨c, hi, hl, hk⟩)⟩
      · exact ⟨none, _, by have := run_endLoop (P := P) hl (by rw [hrec]; simp); rw [hrec] at this; exact this, hdone _ _ (Nat.le_refl _) (hId.putObj _ hi (by omega) hl rfl) ((World.putObj_heap_other (by omega)).trans hk)⟩
      · exact ⟨some c, _, by have := run_endLoop (P := P) hl (by rw [hrec]; simp); rw [hrec] at this; exact this, hstop _ c _ (Nat.le_refl _) ((hIxd c).putObj _ hi (by omega) hl rfl) ((World.putObj_heap_other (by omega)).trans hk)⟩
end Go.Proofs.YtdiihaeelcbjbaaGreatDoor
-- Loop2
namespace Go.Proofs.YtdiihaeelcbjbaaGreatDoor
open Go.RowKit
theorem wpIn_rangeFunc_tied2 {F : Fence} {n : Nat} {P : Program} {γ : Type} {g : Operand} {ps : Array Tmp} {assign body : Code} {Q : Exit → Act → World → Prop} {a : Act} {w : World}
    (hro : F.round = none) (h1 : 1 ≤ n) {gf : Nat} {fb lb : Array Value} (hg : a.eval g = .func (.func gf) fb lb) (hFg : F.fn gf) (eg : ∀ args w, (callFunc gf args).run P w = .ok (.enter gf args) w)
    {encs : γ → Array Value} (hps : ∀ x, (encs x).size = ps.size)
    {I0 Id : World → Prop} {Iy Io : γ → World → Prop} {Ix Ixd : Code → World → Prop}
    (hI0 : Abides w.heap.size I0) (hId : Abides w.heap.size Id) (_hIy : ∀ x, Abides w.heap.size (Iy x)) (hIo : ∀ x, Abides w.heap.size (Io x)) (hIx : ∀ c, Abides w.heap.size (Ix c)) (hIxd : ∀ c, Abides w.heap.size (Ixd c))
    (hseq : TiedSeq F (n - 1) P gf fb lb encs w.heap.size I0 Id Iy Io Ix Ixd) (h0 : I0 w) (Aft : γ → Act → World → Prop) (hAft : ∀ x a', Abides w.heap.size (Aft x a'))
    (hassign : ∀ (l : Nat) (x : γ) (W : World) (K : Act → World → Prop), Iy x W → w.heap.size ≤ W.heap.size → (∀ a' W', KeepsFrom w.heap.size W W' → Aft x a' W' → K a' W') →
      assign.wpIn (F.inRound l) (n - 1 - 1) P (Exit.then K (fun _ _ _ => False)) { tmps := (ps.zip (encs x)).foldl (fun t (p, v) => t.setIfInBounds p v) a.tmps, defers := [] } W)
    (hbody : ∀ (l : Nat) (x : γ) (a' : Act) (W : World), Aft x a' W → w.heap.size ≤ W.heap.size → body.wpIn (F.inRound l) (n - 1 - 1) P (tiedPost w.heap.size (Io x) Ix W) a' W)
    (hdone : ∀ (D : Nat) (W : World), w.heap.size ≤ D → Id W → W.heap[D]? = some (.deferred (some [])) → Q .normal { a with defers := { target := .collected D, args := #[] } :: a.defers } W)
    (hstop : ∀ (D : Nat) (c : Code) (W : World), w.heap.size ≤ D → Ixd c W → W.heap[D]? = some (.deferred (some [])) → c.wpIn F n P Q { a with defers := { target := .collected D, args := #[] } :: a.defers } W) :
    (Code.rangeFunc g ps assign body).wpIn F n P Q a w := by
  refine wpIn_rangeFunc ?_
  intro fn hfn
  rw [hro]
  obtain ⟨rec, hrec⟩ : ∃ rec : LoopState → Option Code → Loop, rec = fun st pe => { state := st, pending := pe, fn, tmps := a.tmps, params := ps, assign, body, defers := w.heap.size } := ⟨_, rfl⟩
  obtain ⟨W1, hW1⟩ : ∃ W1, (w.alloc (.deferred (some []))).alloc (.loop (rec .ready none)) = W1 := ⟨_, rfl⟩
  have hL1 : W1.heap[w.heap.size + 1]? = some (.loop (rec .ready none)) := by
    rw [← hW1]; have := World.alloc_heap_new (w.alloc (.deferred (some []))) (.loop (rec .ready none)); rwa [World.size_alloc] at this
  have hK1 : W1.heap[w.heap.size]? = some (.deferred (some [])) := by
    rw [← hW1]; exact (Below.heap_alloc _ _ _ (by simp)).trans (World.alloc_heap_new w _)
  have hI1 : I0 W1 := by rw [← hW1]; exact hI0.alloc _ (hI0.alloc _ h0)
  refine ⟨w.heap.size + 1, [{ target := .collected w.heap.size, args := #[] }], W1, { target := .fn (.func gf) lb, args := fb ++ #[.func (.yield (w.heap.size + 1)) #[] #[]] }, W1, gf,
    fb ++ #[.func (.yield (w.heap.size + 1)) #[] #[]] ++ lb, W1, ?_, ?_, ?_, ?_, fun _ => h1, ?_⟩
  · rw [← hW1, hrec]; exact run_enterLoop_outer _ _ _ _ _
  · simp only [resolve, hg]
    simp [go_sem]
  · intro f' hf'; simp [Target.leads] at hf'; subst hf'; exact hFg
  · simp [invoke, go_sem, eg]
  · refine (hseq (w.heap.size + 1)
      (fun W => W.heap[w.heap.size + 1]? = some (.loop (rec .ready none)) ∧ W.heap[w.heap.size]? = some (.deferred (some [])))
      (fun c W => W.heap[w.heap.size + 1]? = some (.loop (rec .done (some c))) ∧ W.heap[w.heap.size]? = some (.deferred (some [])))
      (fun A C h k => ⟨k.same _ _ (by omega) h.1 rfl, k.same _ _ (Nat.le_refl _) h.2 rfl⟩)
      (fun c A C h k => ⟨k.same _ _ (by omega) h.1 rfl, k.same _ _ (Nat.le_refl _) h.2 rfl⟩)
      ?_ W1 hI1 ⟨hL1, hK1⟩).mono ?_
    · rintro x W hi ⟨hl, hk⟩
      have hlt : w.heap.size + 1 < W.heap.size := (Array.getElem?_eq_some_iff.1 hl).1
      have hy := run_yield (P := P) (args := encs x) hl (by rw [hrec]; exact hps x)
      rw [hrec] at hy
      refine ⟨fn, _, assign, body, hy, roundIn_of_wpIn hfn (hassign _ x W _ hi (by omega) fun a' W0 hk0 hi0 => ?_)⟩
      clear hy hlt hi
      replace hl := hk0.same _ _ (by omega) hl rfl
      replace hk := hk0.same _ _ (Nat.le_refl _) hk rfl
      clear hk0
      have hlt : w.heap.size + 1 < W0.heap.size := (Array.getElem?_eq_some_iff.1 hl).1
      refine ⟨_, run_beginRound hl (by rw [hrec]), ?_⟩
      have hl2 : (W0.putObj (w.heap.size + 1) (.loop { rec .ready none with state := .busy })).heap[w.heap.size + 1]? = some (.loop { rec .ready none with state := .busy }) := World.putObj_heap_same hlt
      have hk2 : (W0.putObj (w.heap.size + 1) (.loop { rec .ready none with state := .busy })).heap[w.heap.size]? = some (.deferred (some [])) := (World.putObj_heap_other (by omega)).trans hk
      refine wpIn_mono (hbody _ x a' _ ((hAft x a').putObj _ hi0 (by omega) hl rfl) (Nat.le_trans (by omega : w.heap.size ≤ W0.heap.size) (grownBy_putObj' W0 _ _).size)) ?_
      have fin : ∀ (jump : Option Code) (W3 : World), KeepsFrom w.heap.size (W0.putObj (w.heap.size + 1) (.loop { rec .ready none with state := .busy })) W3 →
          (Instr.endRound (w.heap.size + 1) jump).run P W3 = .ok (.bool jump.isNone) (W3.putObj (w.heap.size + 1) (.loop (rec (if jump.isNone then .ready else .done) jump))) ∧
          W3.heap[w.heap.size + 1]? = some (.loop { rec .ready none with state := .busy }) ∧
          (W3.putObj (w.heap.size + 1) (.loop (rec (if jump.isNone then .ready else .done) jump))).heap[w.heap.size + 1]? = some (.loop (rec (if jump.isNone then .ready else .done) jump)) ∧
          (W3.putObj (w.heap.size + 1) (.loop (rec (if jump.isNone then .ready else .done) jump))).heap[w.heap.size]? = some (.deferred (some [])) := fun jump W3 hk3 => by
        have hl3 := hk3.same _ _ (by omega) hl2 rfl
        have := run_endRound (P := P) jump hl3
        rw [hrec] at this ⊢
        exact ⟨this, by rw [hrec] at hl3; exact hl3, World.putObj_heap_same (Array.getElem?_eq_some_iff.1 hl3).1, (World.putObj_heap_other (by omega)).trans (hk3.same _ _ (Nat.le_refl _) hk2 rfl)⟩
      rintro e a3 W3 hp
      cases e with
      | normal =>
        obtain ⟨hk3, hi3⟩ := hp
        obtain ⟨hr, hl3, hl4, hk4⟩ := fin none W3 hk3
        exact ⟨_, _, hr, .inl ⟨rfl, (hIo x).putObj _ hi3 (by omega) hl3 rfl, hl4, hk4⟩⟩
      | ret =>
        obtain ⟨hk3, hi3⟩ := hp
        obtain ⟨hr, hl3, hl4, hk4⟩ := fin (some .ret) W3 hk3
        exact ⟨_, _, hr, .inr ⟨rfl, .ret, (hIx _).putObj _ hi3 (by omega) hl3 rfl, hl4, hk4⟩⟩
      | exit id =>
        obtain ⟨hk3, hi3⟩ := hp
        obtain ⟨hr, hl3, hl4, hk4⟩ := fin (some (.exit id)) W3 hk3
        exact ⟨_, _, hr, .inr ⟨rfl, .exit id, (hIx _).putObj _ hi3 (by omega) hl3 rfl, hl4, hk4⟩⟩
      | goto t =>
        obtain ⟨hk3, hi3⟩ := hp
        obtain ⟨hr, hl3, hl4, hk4⟩ := fin (some (.goto t)) W3 hk3
        exact ⟨_, _, hr, .inr ⟨rfl, .goto t, (hIx _).putObj _ hi3 (by omega) hl3 rfl, hl4, hk4⟩⟩
      | panic ch => exact hp.elim
      | outgrown => exact hp.elim
    · rintro e W2 ⟨⟨v, rfl⟩, (⟨hi, hl, hk⟩ | ⟨c, hi, hl, hk⟩)⟩
      · exact ⟨none, _, by have := run_endLoop (P := P) hl (by rw [hrec]; simp); rw [hrec] at this; exact this, hdone _ _ (Nat.le_refl _) (hId.putObj _ hi (by omega) hl rfl) ((World.putObj_heap_other (by omega)).trans hk)⟩
      · exact ⟨some c, _, by have := run_endLoop (P := P) hl (by rw [hrec]; simp); rw [hrec] at this; exact this, hstop _ c _ (Nat.le_refl _) ((hIxd c).putObj _ hi (by omega) hl rfl) ((World.putObj_heap_other (by omega)).trans hk)⟩
end Go.Proofs.YtdiihaeelcbjbaaGreatDoor
