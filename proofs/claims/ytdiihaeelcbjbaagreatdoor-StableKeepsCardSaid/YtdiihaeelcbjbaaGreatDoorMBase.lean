/- Small facts on bits: or with 128, and-not with 128, a sum of parts that share no bit, complements. Words of our own for slices of bytes: what a slice holds ('HasA'), and laws for append, copy, make and the conversion to a string over them. Laws of our own for a statement whose order of evaluation is open: by an invariant over what has been carried out, in place of a walk through every order. Words and laws of our own over this translation: slices of bytes given back, blocks, worlds that grew, steps of regions that draw their order, opening arguments. A frame behind a region that drew its order, put together again; more steps of such regions. Footprints: a call that changes no block but those of a given set, and new ones. A law of our own for a statement whose order is open and that ends in two operations, one behind all others and one behind that: by what each slot holds, then these two. A law of our own for a statement whose order is open and whose calls change what they are called on: by what has been carried out so far. Opening words beyond the base: a slice of bytes that came in, with its capacity; small numbers. An append to a row of bytes: whose block the new row lies in. Copying bytes into the middle of a block; the step of a region that does so. Making a slice of bytes, and copying bytes into one, at a plain step. A law of our own for 'for .. := range f', where the iterator f and the loop's body share cells: the two are tied by invariants at each call of yield. Its conditions: the fence is not inside a round; each invariant abides the turn of a new block that holds no cells. A law of our own for a range over a function whose variables lie in blocks of their own, new in each round: iterator and body are tied by what holds at each call of yield. -/
import Derived.Test.YtdiihaeelcbjbaaGreatDoorMBaseO
-- Bits
import Derived.Test.YtdiihaeelcbjbaaGreatDoorProg
import Derived.Test.YtdiihaeelcbjbaaGreatDoorRows
import Derived.Laws.BitsAllLaws
import Derived.Laws.Bits64
import Derived.Laws.BitsLemmas
import Derived.Below
import Derived.Laws.OwnMore
import Derived.Laws.MakeOwn
import Derived.Laws.CopyRow
import Derived.Laws.IdiomCopy
import Derived.Laws.BytesArg
import Derived.Shelf.Bytes.SlSmallAll
import Derived.Deep.AppendLies
import Derived.Deep.AppendSrc
import Derived.OwnWalk
import Derived.BigFrame
import Derived.OwnWalkIn
import Derived.Maps.AppendAt
import Derived.OrdersIn
import Derived.RangeFuncBox
import Derived.WalkKit
import Derived.Lib.Hide
import Derived.Lib.SliceRun
import Derived.ProofKit
import Derived.Deep.RegionHeld3
import Derived.RangeFuncNested
import Derived.RangeFuncBound
import Derived.RangeFuncCalls
import Derived.RangeFuncLeaves
namespace Go.Proofs.YtdiihaeelcbjbaaGreatDoor
end Go.Proofs.YtdiihaeelcbjbaaGreatDoor
-- Base
namespace Go.Proofs.YtdiihaeelcbjbaaGreatDoor
open Go.RowKit Go.ChangeShapes Go.WideShapes Go.ChangeAt Go.ChangeMaps
/-- A slice given back reads as the string of its bytes. -/
theorem conv_own {w : World} {base g L c : Nat} {xs : List UInt8} (h : w.ownsRow base 5 1 (.slice (some ⟨g, 0, none⟩) L c) L (xs.map enc)) :
    (convert 39 9 (.slice (some ⟨g, 0, none⟩) L c)).run Tryz.prog w = .ok (.string (str xs)) w :=
  run_conv (HasA.of_own h) c Tryz.underlying39 Tryz.underlying5 Tryz.underlying9 (own_len h)
theorem IsB.conv {w : World} {v : Value} {X : List UInt8} (h : IsB w v X) : (convert 39 9 v).run Tryz.prog w = .ok (.string (str X)) w := by
  obtain ⟨A, L, c, rfl, hL, hA⟩ := h
  exact run_conv hA c Tryz.underlying39 Tryz.underlying5 Tryz.underlying9 hL
section
variable {n : Nat} {Q : Exit → Act → World → Prop} {ops : Array Oper} {i : Nat} {o : Oper} {a : Act} {w : World} {K : Act → World → Prop}
theorem step_conv {x : Operand} {X : List UInt8} (hi : ops[i]? = some o) (hw : Region.wanted o (yielded ops a.tmps) = true) (ho : o.op = .convert 39 9 x) (hx : IsB w (a.eval x) X) (h : K (a.put o.dst (.string (str X))) w) : wpOpIn Fence.wide n Tryz.prog ops Q i K a w :=
  step_run hi hw (by rw [ho]; intro c h; cases h) (by simp [Oper.about, ho]) (by simp [execOp, ho, hx.conv]) h
theorem step_append {s x : Operand} {X : List UInt8} (hX : X.length ≤ 1000000) (hi : ops[i]? = some o) (hw : Region.wanted o (yielded ops a.tmps) = true) (ho : o.op = .call { callee := .builtin .append, args := #[s, x], argTypes := #[39, 39] })
    (hs : a.eval s = .slice none 0 0) (hx : IsB w (a.eval x) X) (h : ∀ v w', IsB w' v X → Grew w w' → K (a.put o.dst v) w') : wpOpIn Fence.wide n Tryz.prog ops Q i K a w := by
  obtain ⟨i0, hi0, hz0, hz1, hz2⟩ := info_parts info5
  obtain ⟨A, L, c, hv, hL, hA⟩ := hx
  obtain ⟨v', w', hrun, h1, h2⟩ := run_append_has (P := Tryz.prog) (w := w) w.heap.size 39 o.type 5 i0 Tryz.underlying39 hi0 hz0 hz1 hz2 (.slice none 0 0) 0 [] (World.ownsRow_nil _ _ _ _) w.heap.size A L c X hL hA (by omega) (Nat.le_refl _)
  refine step_run hi hw (by rw [ho]; intro c h; cases h) (by simp [Oper.about, ho, resolve, Target.leads, Sem.run_pure]) (v := v') (w' := w') ?_ (h v' w' (IsB.own h1) ?_)
  · unfold execOp
    simp only [ho, resolve, invoke, builtin, Sem.run_bind, Sem.run_pure, Result.andThen_ok, List.map_toArray, List.map_cons, List.map_nil, hs, hv, hrun]
  · exact (Below.refl _ _).grown h2 (Nat.le_refl _) (fun k e => by cases e)
end
section
variable {H : Type} {enc : TypeId × Value → H} {P : Program}
set_option maxRecDepth 20000 in
/-- A slice of bytes that came in. -/
theorem open_b {W : World} {base : Nat} {v : Value} {d : DataW H} {p : List MemPlace} (hval : Value.okWide Tryz.prog W .any base 39 v) (h : DataW.Trod enc Tryz.prog W 0 (fun _ => true) true 39 v d p) :
    ∃ A L c B, v = .slice A L c ∧ L = List.length B ∧ L ≤ maxLen ∧ HasA W W.heap.size A B := by
  obtain ⟨a0, len, cap, rfl⟩ := okWide_slice Tryz.underlying39 hval
  obtain ⟨fuel, hf⟩ := h
  rcases open_ints Tryz.underlying39 Tryz.underlying5 cells5 hf with ⟨hcs, hx⟩ | ⟨a, len', cap', zs, hcs, _, hl, hm, hz, hx, hcell, hwz⟩
  · simp [Value.cells] at hcs
    obtain ⟨rfl, rfl, rfl⟩ := hcs
    exact ⟨none, 0, 0, [], rfl, rfl, Nat.zero_le _, HasA.nil _ _ _⟩
  · simp [Value.cells] at hcs
    obtain ⟨rfl, rfl, rfl⟩ := hcs
    simp only [if_true] at hz
    have hlen : ((zs.take len).map fun n => UInt8.ofNat n.toNat).length = len := by simp; omega
    refine ⟨_, len, cap, (zs.take len).map fun n => UInt8.ofNat n.toNat, rfl, hlen.symm, by omega, fun hne => ?_⟩
    have hpos : 0 < len := by
      rcases Nat.eq_zero_or_pos len with h0 | h0
      · exact absurd (List.eq_nil_of_length_eq_zero (by rw [hlen]; exact h0)) hne
      · exact h0
    obtain ⟨ab, ao, spot⟩ := a
    have hspot : spot = none := by simpa [Addr.add] using World.cell?_spot (hcell 0 (by omega))
    subst hspot
    refine ⟨ab, ao, rfl, ?_, fun i hi => ?_⟩
    · have := World.block_lt_of_cell? W _ (hcell 0 (by omega))
      rw [addr_add] at this
      exact this
    · rw [hlen] at hi
      have hzi : i < zs.length := by omega
      have hc := hcell i hzi
      rw [addr_add] at hc
      rw [hc]
      have hw := hwz zs[i] (List.getElem_mem hzi)
      simp [Lit.wf, IntKind.min, IntKind.max, IntKind.signed, IntKind.bits] at hw
      have hg : zs.getD i 0 = zs[i] := by simp [List.getD, hzi]
      rw [hg]
      simp only [List.getElem_map, List.getElem_take]
      rw [enc_ofNat (by omega)]
      congr 2
      omega
end
end Go.Proofs.YtdiihaeelcbjbaaGreatDoor
-- Puts
namespace Go.Proofs.YtdiihaeelcbjbaaGreatDoor
open Go.RowKit
/-- s[:N]. -/
theorem run_upto (w : World) (A : Option Addr) (L c N : Nat) (h : N ≤ c) (hc : N ≤ 1000000) : (Instr.sliceAt 39 (.slice A L c) none (some (.int .i64 (N : Int))) none).run Tryz.prog w = .ok (.slice A N c) w := by
  have h1 : (0 : Int) ≤ N := by omega
  have h2 : (N : Int) ≤ c := by omega
  simp [go_sem, h1, h2]
end Go.Proofs.YtdiihaeelcbjbaaGreatDoor
-- Open
namespace Go.Proofs.YtdiihaeelcbjbaaGreatDoor
open Go.ChangeShapes Go.WideShapes Go.ChangeAt Go.RowKit Go.ChangeMaps
section
variable {H : Type} {enc : TypeId × Value → H}
set_option maxRecDepth 20000 in
/-- A slice of bytes that came in. -/
theorem open_bc {W : World} {base : Nat} {v : Value} {d : DataW H} {p : List MemPlace} (hval : Value.okWide Tryz.prog W .any base 39 v) (h : DataW.Trod enc Tryz.prog W 0 (fun _ => true) true 39 v d p) :
    ∃ A L c B, v = .slice A L c ∧ L = List.length B ∧ L ≤ maxLen ∧ L ≤ c ∧ HasA W W.heap.size A B := by
  obtain ⟨a0, len, cap, rfl⟩ := okWide_slice Tryz.underlying39 hval
  obtain ⟨fuel, hf⟩ := h
  rcases open_ints Tryz.underlying39 Tryz.underlying5 cells5 hf with ⟨hcs, hx⟩ | ⟨a, len', cap', zs, hcs, _, hl, hm, hz, hx, hcell, hwz⟩
  · simp [Value.cells] at hcs
    obtain ⟨rfl, rfl, rfl⟩ := hcs
    exact ⟨none, 0, 0, [], rfl, rfl, Nat.zero_le _, Nat.le_refl _, HasA.nil _ _ _⟩
  · simp [Value.cells] at hcs
    obtain ⟨rfl, rfl, rfl⟩ := hcs
    simp only [if_true] at hz
    have hlen : ((zs.take len).map fun n => UInt8.ofNat n.toNat).length = len := by simp; omega
    refine ⟨_, len, cap, (zs.take len).map fun n => UInt8.ofNat n.toNat, rfl, hlen.symm, by omega, by omega, fun hne => ?_⟩
    have hpos : 0 < len := by
      rcases Nat.eq_zero_or_pos len with h0 | h0
      · exact absurd (List.eq_nil_of_length_eq_zero (by rw [hlen]; exact h0)) hne
      · exact h0
    obtain ⟨ab, ao, spot⟩ := a
    have hspot : spot = none := by simpa [Addr.add] using World.cell?_spot (hcell 0 (by omega))
    subst hspot
    refine ⟨ab, ao, rfl, ?_, fun i hi => ?_⟩
    · have := World.block_lt_of_cell? W _ (hcell 0 (by omega))
      rw [addr_add] at this
      exact this
    · rw [hlen] at hi
      have hzi : i < zs.length := by omega
      have hc := hcell i hzi
      rw [addr_add] at hc
      rw [hc]
      have hw := hwz zs[i] (List.getElem_mem hzi)
      simp [Lit.wf, IntKind.min, IntKind.max, IntKind.signed, IntKind.bits] at hw
      have hg : zs.getD i 0 = zs[i] := by simp [List.getD, hzi]
      rw [hg]
      simp only [List.getElem_map, List.getElem_take]
      rw [enc_ofNat (by omega)]
      congr 2
      omega
end
end Go.Proofs.YtdiihaeelcbjbaaGreatDoor
-- CopyIn
namespace Go.Proofs.YtdiihaeelcbjbaaGreatDoor
open Go.RowKit
theorem run_copy_into (w : World) (g o C c : Nat) (t : TypeId) (A : Option Addr) (B : Nat) (x : List UInt8) (cur : Array Value) (hg : w.heap[g]? = some (.cells cur t (0, 0))) (hfit : o + x.length ≤ cur.size) (hs : HasA w B A x) :
    ∃ w', (∀ ty, (Builtin.copy_ #[39, 39] ty #[.slice (some ⟨g, o, none⟩) x.length C, .slice A x.length c]).run Tryz.prog w = .ok (.int .i64 (x.length : Int)) w') ∧ (∃ cur', w'.heap[g]? = some (.cells cur' t (0, 0)) ∧ Copied cur cur' o x) ∧ w.grownBy w' (some g) := by
  by_cases hb : x = []
  · subst hb
    exact ⟨w, fun ty => run_copy_none (P := Tryz.prog) w 39 39 ty 5 (some ⟨g, o, none⟩) A 0 C 0 c Tryz.underlying39 size5 rfl, ⟨cur, hg, rfl, fun j h => by simp at h, fun _ _ => rfl⟩, grownBy_refl _ _⟩
  · obtain ⟨b, off, rfl, _, _⟩ := id hs hb
    have h := fun ty => run_copy_row (P := Tryz.prog) w 39 39 ty 5 g o x.length C ⟨b, off, none⟩ x.length c cur t (x.map enc) Tryz.underlying39 size5 hg (by simp) (hs.src rfl) (by simpa using hfit) (encs_one x)
    refine ⟨_, fun ty => by rw [h ty]; simp [goInt], ⟨_, setRow_heap w g cur _ t _ hg, copied_mid cur o x hfit⟩, ⟨rfl, rfl, rfl, by simp, fun k _ hk => setRow_other w g k _ (fun e => hk (by simp [e]))⟩⟩
end Go.Proofs.YtdiihaeelcbjbaaGreatDoor
-- MakeCopy
namespace Go.Proofs.YtdiihaeelcbjbaaGreatDoor
open Go.RowKit
section
variable {w : World} {ops : Array Oper} {rest : List Oper} {o : Oper} {a : Act} {Q : Exit → Act → World → Prop}
/-- 'make([]byte, n)': the block written out. -/
theorem wpList_make_n (hg : o.guard = none) (l c : Operand) (hop : o.op = Op.makeSlice 39 l c) (L : Nat) (hl : a.eval l = .int .i64 (L : Int)) (hc : a.eval c = .int .i64 (L : Int)) (hL : L ≤ 1000000000)
    (hK : wpList Tryz.prog ops Q rest (a.put o.dst (.slice (some ⟨w.heap.size, 0, none⟩) L L)) (w.alloc (.cells (Array.replicate L (.int .u8 0)) 5))) :
    wpList Tryz.prog ops Q (o :: rest) a w := by
  obtain ⟨i, hi, hz, hsize, hby⟩ := info_parts info5
  have hr := run_make (P := Tryz.prog) w 39 5 i _ Tryz.underlying39 hi hz .i64 .i64 (L : Int) (L : Int) (by omega) (by omega) (by rw [hby]; omega) (by omega)
  simp only [Int.toNat_natCast] at hr
  refine wpList_plain hg fun K hK' => ?_
  unfold Oper.wp
  simp [execOp, hop, hl, hc, hr, Result.andThen]
  refine hK' _ _ ?_
  have e : madeCells #[Value.int .u8 0] L = Array.replicate L (.int .u8 0) := by
    apply Array.ext'
    show (madeCells #[Value.int .u8 0] L).toList = _
    rw [toList_madeCells_one]
    simp
  rw [← e] at hK
  rw [hsize, Nat.mul_one]
  exact hK
end
end Go.Proofs.YtdiihaeelcbjbaaGreatDoor
