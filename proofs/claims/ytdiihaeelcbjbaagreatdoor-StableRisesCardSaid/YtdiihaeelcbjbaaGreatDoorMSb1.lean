/- Votes as they lie in a map; how a store's own two blocks lie. The package's small functions: hasSlot, hasBallot; Promise, Base, Snap, Sync's test; at, Vote. The effects of updates: the map of method expressions, made anew at each call; takePromise, takeVote. takeSnap: votes deleted from the map that is ranged over; do: an update's effect. do: an update's effect, by the map of method expressions. -/
import Derived.Test.YtdiihaeelcbjbaaGreatDoorStK
import Derived.Test.YtdiihaeelcbjbaaGreatDoorMBase
import Derived.Maps.OwnSet
import Derived.Deep.QuietTactic
import Derived.BigQuiet
import Derived.Handy
import Derived.Lib.AtoiErrMem
import Derived.Deep.DeepCutAuto
import Derived.Carry
import Derived.Maps.RangeWalk
import Derived.WalkKit
-- SbA
namespace Go.Proofs.YtdiihaeelcbjbaaGreatDoor
open Go.RowKit Go.Maps Go.WideMaps

def kyV (c : Nat) : Lit := .int .u64 (c : Int)
theorem same_kyV (a b : Nat) : (kyV a).sameKey (kyV b) = decide (a = b) := by
  simp [kyV, Lit.sameKey, Int.natCast_inj]
theorem before_kyV (a b : Nat) : (kyV a).before (kyV b) = decide (a < b) := by
  simp [kyV, Lit.before]
def votD (v : VM) : DataW Unit := .agg [.lit (.int .u64 (v.b.n : Int)), .lit (.int .i64 v.b.r), .lit (.string v.x)]
/-- Votes as a map's datum. -/
def mapV (l : List VM) : DataW Unit := .map (l.map fun v => (kyV v.s, votD v))
def SortedV (l : List VM) : Prop := l.Pairwise fun a b => a.s < b.s
theorem filter_none_ltV {l : List VM} {c : Nat} (h : ∀ x ∈ l, c < x.s) : l.filter (fun x => decide (x.s < c)) = [] := by
  rw [List.filter_eq_nil_iff]
  intro x hx
  have := h x hx
  simp
  omega
theorem filter_all_gtV {l : List VM} {c : Nat} (h : ∀ x ∈ l, c < x.s) : l.filter (fun x => decide (c < x.s)) = l := by
  rw [List.filter_eq_self]
  intro x hx
  simpa using h x hx
theorem insert_V (e : VM) : ∀ r : List VM, SortedV r → (∀ x ∈ r, x.s ≠ e.s) → DataW.insert (kyV e.s, votD e) (r.map fun x => (kyV x.s, votD x)) = (putV e r).map fun x => (kyV x.s, votD x)
  | [], _, _ => rfl
  | x :: r, hs, h => by
    have hx := h x (List.mem_cons_self ..)
    have hs' := List.pairwise_cons.1 hs
    have ih := insert_V e r hs'.2 (fun q hq => h q (List.mem_cons_of_mem _ hq))
    rw [List.map_cons, DataW.insert, before_kyV]
    by_cases hl : e.s < x.s
    · rw [if_pos (by simpa using hl)]
      have ha : ∀ y ∈ x :: r, e.s < y.s := fun y hy => by
        rcases List.mem_cons.1 hy with rfl | hy
        · exact hl
        · have := hs'.1 y hy; omega
      unfold putV
      rw [filter_none_ltV ha, filter_all_gtV ha]
      rfl
    · rw [if_neg (by simpa using hl), ih]
      have h1 : x.s < e.s := by omega
      unfold putV
      rw [List.filter_cons, if_pos (by simpa using h1), List.filter_cons, if_neg (by simpa using hl)]
      rfl
theorem mapV_put {l : List VM} (hs : SortedV l) (e : VM) : (mapV l).put (kyV e.s) (votD e) = mapV (putV e l) := by
  simp only [mapV, DataW.put]
  have h1 : (l.map fun x => (kyV x.s, votD x)).filter (fun p => !p.1.sameKey (kyV e.s)) = (l.filter fun x => decide (x.s ≠ e.s)).map fun x => (kyV x.s, votD x) := by
    rw [List.filter_map]
    congr 1
    refine List.filter_congr fun x _ => ?_
    simp [same_kyV]
  rw [h1, insert_V e _ (hs.filter _) (fun x hx => by have := (List.mem_filter.1 hx).2; simpa using this)]
  unfold putV
  rw [List.filter_filter, List.filter_filter]
  have e1 : ∀ x : VM, (decide (x.s < e.s) && decide (x.s ≠ e.s)) = decide (x.s < e.s) := fun x => by
    rw [Bool.eq_iff_iff]; simp; omega
  have e2 : ∀ x : VM, (decide (e.s < x.s) && decide (x.s ≠ e.s)) = decide (e.s < x.s) := fun x => by
    rw [Bool.eq_iff_iff]; simp; omega
  simp only [e1, e2]
def findV (l : List VM) (c : Nat) : Option VM := l.find? fun v => v.s == c
theorem mapV_at (l : List VM) (c : Nat) (z : DataW Unit) : (mapV l).atKey (kyV c) z = (findV l c).elim z votD := by
  simp only [mapV, DataW.atKey]
  have : (l.map fun x => (kyV x.s, votD x)).find? (fun p => p.1.sameKey (kyV c)) = (l.find? fun x => x.s == c).map fun x => (kyV x.s, votD x) := by
    rw [List.find?_map]
    congr 2
    funext x
    rw [Bool.eq_iff_iff]
    simp [same_kyV]
  rw [this, findV]
  cases l.find? fun x => x.s == c <;> rfl
theorem mapV_has (l : List VM) (c : Nat) : has (mapV l) (kyV c) = (findV l c).isSome := by
  simp only [mapV, has_eq]
  rw [findV, List.any_map, Bool.eq_iff_iff, List.any_eq_true, List.find?_isSome]
  simp [same_kyV]
theorem mapV_size (l : List VM) : size (mapV l) = l.length := by simp [mapV, size_eq]
theorem mapV_del (l : List VM) (c : Nat) : (mapV l).del (kyV c) = mapV (l.filter fun x => decide (x.s ≠ c)) := by
  simp only [mapV, DataW.del]
  rw [List.filter_map]
  congr 2
  refine List.filter_congr fun x _ => ?_
  simp [same_kyV]

def votV (v : VM) : Value := .agg #[.int .u64 (v.b.n : Int), .int .i64 v.b.r, .string (str v.x)]
def votR (v : Value) : Option (DataW Unit × List MemPlace) := match v with
  | .agg cs => match cs.toList with
    | [.int .u64 n, .int .i64 r, .string t] => if 0 ≤ n ∧ t.size ≤ maxLen then some (.agg [.lit (.int .u64 n), .lit (.int .i64 r), .lit (.string t.data.toList)], []) else none
    | _ => none
  | _ => none
theorem votR_mk {v : VM} (h : v.x.length ≤ 1000000) : votR (votV v) = some (votD v, []) := by
  have h1 : (str v.x).size ≤ maxLen := by rw [str_size]; exact Nat.le_trans h (by decide)
  have h2 : (str v.x).data.toList = v.x := by simp [str]
  simp [votR, votV, votD, h1, h2]
theorem votR_inv {v : Value} {z : DataW Unit × List MemPlace} (h : votR v = some z) : ∃ e : VM, v = votV e ∧ z = (votD e, []) := by
  unfold votR at h
  split at h
  · rename_i cs
    split at h
    · rename_i n r t hc
      split at h
      · rename_i h0
        cases h
        have ht : str t.data.toList = t := ByteArray.ext (by simp [str])
        refine ⟨⟨0, ⟨n.toNat, r⟩, t.data.toList⟩, ?_, ?_⟩
        · rw [votV]
          congr 1
          refine Array.ext' ?_
          rw [hc]
          show _ = [Value.int .u64 ((n.toNat : Nat) : Int), Value.int .i64 r, Value.string (str t.data.toList)]
          rw [Int.toNat_of_nonneg h0.1, ht]
        · show _ = ((DataW.agg [DataW.lit (.int .u64 ((n.toNat : Nat) : Int)), DataW.lit (.int .i64 r), DataW.lit (.string t.data.toList)] : DataW Unit), [])
          rw [Int.toNat_of_nonneg h0.1]
      · cases h
    · cases h
  · cases h
theorem votD_eq {a b : VM} (h : votD a = votD b) : votV a = votV b := by
  simp only [votD, DataW.agg.injEq, List.cons.injEq, DataW.lit.injEq, Lit.int.injEq, Lit.string.injEq, and_true, true_and] at h
  obtain ⟨h1, h2, h3⟩ := h
  rw [votV, votV, h1, h2, h3]
theorem zeroVv (w : World) : (zeroValue 100).run Tryz.prog w = .ok (votV ⟨0, B0, []⟩) w := by kernel_rfl
theorem keyedU64 : Maps.Keyed Tryz.prog 23 := Maps.int_keyed Tryz.underlying23
/-- Block b is a map that holds these votes. -/
def MapQV (w : World) (b : Nat) (l : List VM) : Prop := w.ownsMap Tryz.prog 23 votR b l.length (mapV l)
/-- What a look comes to. -/
def valV (l : List VM) (c : Nat) : VM := (findV l c).getD ⟨0, B0, []⟩
section
variable {w w' : World} {b n : Nat} {l : List VM}
theorem MapQV.of (h : w.ownsMap Tryz.prog 23 votR b n (mapV l)) : MapQV w b l := by
  obtain ⟨es, clock, hb, F, hs, hD⟩ := h
  refine ⟨es, clock, hb, F, ?_, hD⟩
  have := congrArg Maps.size hD
  rw [mapV_size] at this
  simp [Maps.size, length_sorted] at this
  omega
theorem MapQV.new (w : World) : MapQV (w.alloc (.map #[] 0)) w.heap.size [] := World.ownsMap_made w _ _ _
theorem MapQV.lt (h : MapQV w b l) : b < w.heap.size := World.ownsMap.lt h
theorem MapQV.keep (h : MapQV w b l) (hk : w'.heap[b]? = w.heap[b]?) : MapQV w' b l := by
  obtain ⟨es, clock, hb, F, hs, hD⟩ := h
  exact ⟨es, clock, hk.trans hb, F, hs, hD⟩
theorem MapQV.blk (h : MapQV w b l) : ∃ es clock, w.heap[b]? = some (.map es clock) := by
  obtain ⟨es, clock, hb, _⟩ := h
  exact ⟨es, clock, hb⟩
theorem MapQV.below (h : MapQV w b l) (hb : Below w.heap.size w w') : MapQV w' b l := h.keep (hb.block b h.lt)
theorem wf_u64n {c : Nat} (h : c < 18446744073709551616) : (Lit.int .u64 (c : Int)).wf = true := by
  simp [Lit.wf, IntKind.min, IntKind.max, IntKind.signed, IntKind.bits]
  omega
theorem key64 {c : Nat} (h : c < 18446744073709551616) : keyOf Tryz.prog 23 (.int .u64 (c : Int)) = some (kyV c) := keyOf_int_mk Tryz.underlying23 (wf_u64n h)
theorem look_valV {v : Value} {c : Nat} {ps : List MemPlace} (h : votR v = some ((mapV l).atKey (kyV c) (votD ⟨0, B0, []⟩), ps)) : v = votV (valV l c) := by
  obtain ⟨e, rfl, hz⟩ := votR_inv h
  rw [mapV_at] at hz
  have h1 := congrArg Prod.fst hz
  unfold valV
  cases hl : findV l c with
  | none => rw [hl] at h1; exact (votD_eq h1).symm
  | some x => rw [hl] at h1; exact (votD_eq h1).symm
theorem MapQV.look (h : MapQV w b l) {c : Nat} (hc : c < 18446744073709551616) : (Instr.lookup 87 (.map (some b)) (.int .u64 (c : Int)) true).run Tryz.prog w = .ok (.tuple #[votV (valV l c), .bool (findV l c).isSome]) w := by
  obtain ⟨v, ps, hrun, hv⟩ := World.ownsMap.look_ok h keyedU64 Tryz.underlying87 (zeroVv w) (votR_mk (v := ⟨0, B0, []⟩) (by decide)) (key64 hc)
  rw [look_valV hv, mapV_has] at hrun
  exact hrun
theorem MapQV.put (h : MapQV w b l) (hs : SortedV l) (hn : l.length < maxLen) {e : VM} (hc : e.s < 18446744073709551616) (ht : e.x.length ≤ 1000000) : ∃ w', (Instr.mapUpdate 87 (.map (some b)) (.int .u64 (e.s : Int)) (votV e)).run Tryz.prog w = .ok () w' ∧ MapQV w' b (putV e l) ∧ w.grownBy w' (some b) := by
  obtain ⟨w', hrun, h1, h2⟩ := World.ownsMap.update h keyedU64 Tryz.underlying87 hn (key64 hc) (votR_mk ht)
  rw [mapV_put hs] at h1
  exact ⟨w', hrun, MapQV.of h1, h2⟩
end

/-- The cells of a store's block. -/
def cellsS (L m : Nat) (s : SM) : Array Value := #[.pointer (some ⟨L, 0, none⟩), .int .u64 (s.p.n : Int), .int .i64 s.p.r, .int .u64 (s.base : Int), .string (str s.snap), .map (some m)]
/-- A store's own two blocks: its cells, and its map of votes. -/
structure SkC (w : World) (B m L : Nat) (s : SM) : Prop where
  cell : w.heap[B]? = some (.cells (cellsS L m s) 89 (0, 0))
  map : MapQV w m s.vs
section
variable {w w' W : World} {B m L : Nat} {s : SM}
theorem SkC.lt (h : SkC w B m L s) : B < w.heap.size := (Array.getElem?_eq_some_iff.1 h.cell).1
theorem SkC.mlt (h : SkC w B m L s) : m < w.heap.size := h.map.lt
theorem SkC.ne (h : SkC w B m L s) : B ≠ m := fun e => by
  obtain ⟨es, clock, hb⟩ := h.map.blk
  have := h.cell
  rw [e, hb] at this
  cases this
theorem SkC.keep (h : SkC w B m L s) (hB : w'.heap[B]? = w.heap[B]?) (hm : w'.heap[m]? = w.heap[m]?) : SkC w' B m L s := ⟨hB.trans h.cell, h.map.keep hm⟩
theorem SkC.below (h : SkC w B m L s) (hb : Below w.heap.size w w') : SkC w' B m L s := h.keep (hb.block B h.lt) (hb.block m h.mlt)
theorem SkC.only {F : Nat → Prop} (h : SkC w B m L s) (o : Only F w w') (h1 : ¬ F B) (h2 : ¬ F m) : SkC w' B m L s := h.keep (o.block B h.lt h1) (o.block m h.mlt h2)
theorem SkC.at (h : SkC w B m L s) (i : Nat) : w.cell? ⟨B, i, none⟩ = (cellsS L m s)[i]? := blk_cell h.cell i
theorem SkC.fz (h : SkC w B m L s) (i : Nat) : w.frozen? ⟨B, i, none⟩ = false := blk_frozen h.cell i
end
end Go.Proofs.YtdiihaeelcbjbaaGreatDoor

-- SbB
namespace Go.Proofs.YtdiihaeelcbjbaaGreatDoor
open Go.RowKit Go.Maps Go.WideMaps

/-- An update as a value. -/
def cellsU (u : UM) : Array Value := #[.int .u64 (u.k : Int), .int .u64 (u.s : Int), .int .u64 (u.b.n : Int), .int .i64 u.b.r, .string (str u.x)]
def valU (u : UM) : Value := .agg (cellsU u)
/-- An update in a block of its own. -/
theorem boxU {w W : World} {u : UM} (h : W = w.alloc (.cells #[.int .u64 (u.k : Int), .int .u64 (u.s : Int), .int .u64 (u.b.n : Int), .int .i64 u.b.r, .string (str u.x)] 91)) : Below w.heap.size w W ∧ W.heap[w.heap.size]? = some (.cells (cellsU u) 91 (0, 0)) ∧ W.heap.size = w.heap.size + 1 := by
  subst h
  exact ⟨(Below.refl _ w).alloc (Nat.le_refl _) _, World.alloc_heap_new w _, Array.size_push _⟩
set_option maxRecDepth 100000 in
theorem hasSlot_any (u : UM) (w : World) : Calls Tryz.prog 71 #[valU u] w fun e W' => e = .returned (.bool (decide (u.k ≠ 1))) ∧ Below w.heap.size w W' := by
  obtain ⟨k, us, ub, ux⟩ := u
  unfold valU cellsU
  simp only
  go_enter Tryz.func71, Tryz.ntmps71
  go_upto_region 1 with (fail)
  obtain ⟨W0, hW0⟩ : ∃ W0, W0 = w.alloc (.cells #[.int .u64 (k : Int), .int .u64 (us : Int), .int .u64 (ub.n : Int), .int .i64 ub.r, .string (str ux)] 91) := ⟨_, rfl⟩
  rw [← hW0]
  obtain ⟨b0, k0, _⟩ := boxU (u := ⟨k, us, ub, ux⟩) hW0
  obtain ⟨p, hp⟩ : ∃ p, p = w.heap.size := ⟨_, rfl⟩
  have HB := Lib.hid b0
  rw [← hp] at k0 ⊢
  have c0 : W0.cell? ⟨p, 0, none⟩ = some (.int .u64 (k : Int)) := blk_cell k0 0
  clear hW0 b0 k0 hp
  by_cases h : k = 1
  · subst h
    go_wp2
    go_ret
    exact ⟨rfl, HB.out⟩
  · have hn : ((k : Int) == 1) = false := beq_eq_false_iff_ne.2 (by omega)
    have HN := Lib.hid h
    clear h
    go_wp2
    go_ret
    refine ⟨?_, HB.out⟩
    have h2 : ((k : Int) != 1) = true := by simp; have := HN.out; omega
    simp [HN.out, h2]
set_option maxRecDepth 100000 in
theorem hasBallot_any (u : UM) (w : World) : Calls Tryz.prog 72 #[valU u] w fun e W' => e = .returned (.bool (decide (u.k ≠ 3))) ∧ Below w.heap.size w W' := by
  obtain ⟨k, us, ub, ux⟩ := u
  unfold valU cellsU
  simp only
  go_enter Tryz.func72, Tryz.ntmps72
  go_upto_region 1 with (fail)
  obtain ⟨W0, hW0⟩ : ∃ W0, W0 = w.alloc (.cells #[.int .u64 (k : Int), .int .u64 (us : Int), .int .u64 (ub.n : Int), .int .i64 ub.r, .string (str ux)] 91) := ⟨_, rfl⟩
  rw [← hW0]
  obtain ⟨b0, k0, _⟩ := boxU (u := ⟨k, us, ub, ux⟩) hW0
  obtain ⟨p, hp⟩ : ∃ p, p = w.heap.size := ⟨_, rfl⟩
  have HB := Lib.hid b0
  rw [← hp] at k0 ⊢
  have c0 : W0.cell? ⟨p, 0, none⟩ = some (.int .u64 (k : Int)) := blk_cell k0 0
  clear hW0 b0 k0 hp
  by_cases h : k = 3
  · subst h
    go_wp2
    go_ret
    exact ⟨rfl, HB.out⟩
  · have hn : ((k : Int) == 3) = false := beq_eq_false_iff_ne.2 (by omega)
    have HN := Lib.hid h
    clear h
    go_wp2
    go_ret
    refine ⟨?_, HB.out⟩
    have h2 : ((k : Int) != 3) = true := by simp; have := HN.out; omega
    simp [HN.out, h2]
section
variable {w : World} {B m L : Nat} {s : SM}
set_option maxRecDepth 100000 in
theorem promise_c (h : SkC w B m L s) : Calls Tryz.prog 25 #[.pointer (some ⟨B, 0, none⟩)] w fun e W' => e = .returned (.agg #[.int .u64 (s.p.n : Int), .int .i64 s.p.r]) ∧ Below w.heap.size w W' := by
  have H := Lib.hid h
  clear h
  go_enter Tryz.func25, Tryz.ntmps25
  go_upto_region 1 with (fail)
  obtain ⟨W0, hW0⟩ : ∃ W0, W0 = w.alloc (.cells #[.int .u64 0, .int .i64 0] 25) := ⟨_, rfl⟩
  rw [← hW0]
  obtain ⟨b0, k0, s0⟩ := boxBA hW0
  obtain ⟨g, hg⟩ : ∃ p, p = w.heap.size := ⟨_, rfl⟩
  rw [← hg] at k0 ⊢
  have h1 := H.out.below b0
  have c1 : W0.cell? ⟨B, 1, none⟩ = some (.int .u64 (s.p.n : Int)) := h1.at 1
  have c2 : W0.cell? ⟨B, 2, none⟩ = some (.int .i64 s.p.r) := h1.at 2
  have z0 : W0.cell? ⟨g, 0, none⟩ = some (.int .u64 0) := blk_cell k0 0
  have z1 : W0.cell? ⟨g, 1, none⟩ = some (.int .i64 0) := blk_cell k0 1
  have u0 := blk_frozen k0 0
  have u1 := blk_frozen k0 1
  obtain ⟨V, hV⟩ : ∃ V, V = (W0.setCell ⟨g, 0, none⟩ (.int .u64 (s.p.n : Int))).setCell ⟨g, 1, none⟩ (.int .i64 s.p.r) := ⟨_, rfl⟩
  have k3 := blk_set (blk_set k0 0 (.int .u64 (s.p.n : Int))) 1 (.int .i64 s.p.r)
  rw [← hV] at k3
  have f2 : V.cell? ⟨g, 0, none⟩ = some (.int .u64 (s.p.n : Int)) := by simpa using blk_cell k3 0
  have f3 : V.cell? ⟨g, 1, none⟩ = some (.int .i64 s.p.r) := by simpa using blk_cell k3 1
  have HB := Lib.hid (show Below w.heap.size w V by
    rw [hV]
    exact (b0.setCell (p := ⟨g, 0, none⟩) (by rw [hg]; exact Nat.le_refl _) _).setCell (p := ⟨g, 1, none⟩) (by rw [hg]; exact Nat.le_refl _) _)
  clear hW0 b0 k0 s0 hg k3 h1
  go_wp2
  rw [← hV]
  exact bodyPost_ret (v := .agg #[.int .u64 (s.p.n : Int), .int .i64 s.p.r]) (by simp [results, Tryz.results25, go_sem, f2, f3]) rfl ⟨rfl, HB.out⟩
set_option maxRecDepth 100000 in
theorem base_c (h : SkC w B m L s) : Calls Tryz.prog 26 #[.pointer (some ⟨B, 0, none⟩)] w fun e W' => e = .returned (.int .u64 (s.base : Int)) ∧ Below w.heap.size w W' := by
  have c3 : w.cell? ⟨B, 3, none⟩ = some (.int .u64 (s.base : Int)) := h.at 3
  clear h
  go_enter Tryz.func26, Tryz.ntmps26
  go_wp2
  go_ret
  exact ⟨rfl, Below.refl _ _⟩
/-- A text as bytes in new memory. -/
theorem bytes_conv (w : World) (x : List UInt8) : ∃ y W', (convert 9 39 (.string (str x))).run Tryz.prog w = .ok y W' ∧ OwnB w.heap.size W' y x.length x ∧ Below w.heap.size w W' := by
  have hc := Lib.run_convert_string_bytes w _ _ _ (str x) Tryz.underlying9 Tryz.underlying39 Tryz.underlying5
  rw [str_size] at hc
  refine ⟨_, _, hc, ⟨rfl, _, _, rfl, fun _ => ⟨w.heap.size, _, _, rfl, Nat.le_refl _, Lib.bytesWorld_at_new w _ _, fun i hi => ?_, fun i hi => ?_⟩⟩, Lib.bytesWorld_below w _ _⟩
  · have h4 : ¬ (Lib.bytesCells w 5 (str x)).size ≤ i := by
      unfold Lib.bytesCells
      simp [str]
      omega
    simp [World.frozen?, Lib.bytesWorld_at_new, h4]
  · simp [Lib.bytesCells, Array.getElem?_append, str, enc, hi]
set_option maxRecDepth 100000 in
theorem snap_c (h : SkC w B m L s) : Calls Tryz.prog 30 #[.pointer (some ⟨B, 0, none⟩)] w fun e W' => ∃ y L, e = .returned y ∧ OwnB w.heap.size W' y L s.snap ∧ Below w.heap.size w W' := by
  have c4 : w.cell? ⟨B, 4, none⟩ = some (.string (str s.snap)) := h.at 4
  obtain ⟨y, V, hr, ho, hb⟩ := bytes_conv w s.snap
  have HB := Lib.hid (And.intro ho hb)
  obtain ⟨t, ht⟩ : ∃ t, t = str s.snap := ⟨_, rfl⟩
  rw [← ht] at c4 hr
  clear h ho hb ht
  go_enter Tryz.func30, Tryz.ntmps30
  go_wp2
  go_ret
  exact ⟨_, _, rfl, HB.out.1, HB.out.2⟩
end
end Go.Proofs.YtdiihaeelcbjbaaGreatDoor

-- SbC
namespace Go.Proofs.YtdiihaeelcbjbaaGreatDoor
open Go.RowKit Go.Maps Go.WideMaps

/-- Which function a kind has. -/
def effL : List (Nat × FuncId) := [(1, 95), (2, 96), (3, 97)]
def funcR (v : Value) : Option (DataW FuncId × List MemPlace) := match v with
  | .func (.func f) cs bs => if cs.size = 0 ∧ bs.size = 0 then some (.held f, []) else some (.nil, [])
  | _ => some (.nil, [])
theorem funcR_inv {v : Value} {f : FuncId} {ps : List MemPlace} (h : funcR v = some (.held f, ps)) : v = .func (.func f) #[] #[] := by
  unfold funcR at h
  split at h
  · split at h
    · rename_i f' cs bs hc
      cases h
      rw [Array.eq_empty_of_size_eq_zero hc.1, Array.eq_empty_of_size_eq_zero hc.2]
    · cases h
  · cases h
theorem funcR_mk (f : FuncId) : funcR (.func (.func f) #[] #[]) = some (.held f, []) := rfl
theorem funcR_some (v : Value) : ∃ zd zp, funcR v = some (zd, zp) := by
  unfold funcR
  split
  · split
    · exact ⟨_, _, rfl⟩
    · exact ⟨_, _, rfl⟩
  · exact ⟨_, _, rfl⟩
theorem zeroF (w : World) : ∃ z, (zeroValue 129).run Tryz.prog w = .ok z w := by
  have h : ((Tryz.prog.info? 129).bind (·.zero)).isSome = true := by kernel_rfl
  cases hi : Tryz.prog.info? 129 with
  | none => rw [hi] at h; cases h
  | some i =>
    cases hz : i.zero with
    | none => rw [hi] at h; simp [hz] at h
    | some v => exact ⟨v, by simp [zeroValue, typeInfo, hi, hz]⟩
/-- The table with some kinds. -/
def effD (l : List (Nat × FuncId)) : DataW FuncId := l.foldl (fun D p => D.put (.int .u64 (p.1 : Int)) (.held p.2)) (.map [])
theorem eff_at : ∀ p ∈ effL, ∀ z, (effD effL).atKey (.int .u64 (p.1 : Int)) z = .held p.2 := by
  intro p hp z
  simp only [effL, List.mem_cons, List.not_mem_nil, or_false] at hp
  rcases hp with rfl | rfl | rfl <;> rfl
theorem eff_has (k : Nat) : has (effD effL) (.int .u64 (k : Int)) = decide (1 ≤ k ∧ k ≤ 3) := by
  show ([(1 : Int), 2, 3].any fun x => (Lit.int .u64 x).sameKey (.int .u64 (k : Int))) = _
  rw [Bool.eq_iff_iff]
  simp [Lit.sameKey]
  omega
def EffM (w : World) (b n : Nat) (l : List (Nat × FuncId)) : Prop := w.ownsMap Tryz.prog 23 funcR b n (effD l)
theorem EffM.put {w : World} {b n : Nat} {l : List (Nat × FuncId)} (h : EffM w b n l) (hn : n < maxLen) (k : Nat) (i : Int) (hi : i = (k : Int)) (hk : (Lit.int .u64 (k : Int)).wf = true) (f : FuncId) : ∃ w', (Instr.mapUpdate 131 (.map (some b)) (.int .u64 i) (.func (.func f) #[] #[])).run Tryz.prog w = .ok () w' ∧ EffM w' b (n + 1) (l ++ [(k, f)]) ∧ w.grownBy w' (some b) := by
  obtain ⟨w', hrun, h1, h2⟩ := World.ownsMap.update h keyedU64 Tryz.underlying131 hn (keyOf_int_mk Tryz.underlying23 hk) (funcR_mk f)
  subst hi
  refine ⟨w', hrun, ?_, h2⟩
  unfold EffM effD
  rw [List.foldl_append]
  exact h1
theorem EffM.look {w : World} {b n : Nat} (h : EffM w b n effL) (p : Nat × FuncId) (hp : p ∈ effL) (hk : (Lit.int .u64 (p.1 : Int)).wf = true) : (Instr.lookup 131 (.map (some b)) (.int .u64 (p.1 : Int)) false).run Tryz.prog w = .ok (.func (.func p.2) #[] #[]) w := by
  obtain ⟨z, hz⟩ := zeroF w
  obtain ⟨zd, zp, hzd⟩ := funcR_some z
  obtain ⟨v, ps, hrun, hv⟩ := World.ownsMap.lookup h keyedU64 Tryz.underlying131 hz hzd (keyOf_int_mk Tryz.underlying23 hk)
  rw [eff_at p hp] at hv
  rw [funcR_inv hv] at hrun
  exact hrun
theorem EffM.is {w : World} {b n : Nat} (h : EffM w b n effL) (k : Nat) (hk : k < 18446744073709551616) : ∃ v, (Instr.lookup 131 (.map (some b)) (.int .u64 (k : Int)) true).run Tryz.prog w = .ok (.tuple #[v, .bool (decide (1 ≤ k ∧ k ≤ 3))]) w := by
  obtain ⟨z, hz⟩ := zeroF w
  obtain ⟨zd, zp, hzd⟩ := funcR_some z
  obtain ⟨v, ps, hrun, hv⟩ := World.ownsMap.look_ok h keyedU64 Tryz.underlying131 hz hzd (keyOf_int_mk Tryz.underlying23 (wf_u64n hk))
  rw [eff_has] at hrun
  exact ⟨v, hrun⟩
theorem eff_wf : ∀ p ∈ effL, (Lit.int .u64 (p.1 : Int)).wf = true := by
  intro p hp
  simp only [effL, List.mem_cons, List.not_mem_nil, or_false] at hp
  rcases hp with rfl | rfl | rfl <;> rfl
/-- The table, as it came from a call. -/
structure EffQ (w W : World) (b : Nat) : Prop where
  map : ∃ n, EffM W b n effL
  new : w.heap.size ≤ b
  below : Below w.heap.size w W
set_option maxRecDepth 100000 in
theorem effects_any (w : World) : Calls Tryz.prog 75 #[] w fun e W' => ∃ b, e = .returned (.map (some b)) ∧ EffQ w W' b := by
  have h0 : EffM (w.alloc (.map #[] 0)) w.heap.size 0 [] := World.ownsMap_made w _ _ _
  have b0 : Below w.heap.size w (w.alloc (.map #[] 0)) := (Below.refl _ w).alloc (Nat.le_refl _) _
  have hmk := run_makeMap (P := Tryz.prog) 131 w
  obtain ⟨W1, r1, h1, g1⟩ := h0.put (by decide) 1 1 rfl rfl 95
  obtain ⟨W2, r2, h2, g2⟩ := h1.put (by decide) 2 2 rfl rfl 96
  obtain ⟨W3, r3, h3, g3⟩ := h2.put (by decide) 3 3 rfl rfl 97
  have gr : ∀ {A B : World}, Below w.heap.size w A → A.grownBy B (some w.heap.size) → Below w.heap.size w B := fun hb hg => hb.grown hg hb.size (fun k e => by cases e; exact Nat.le_refl _)
  have b3 := gr (gr (gr b0 g1) g2) g3
  have HF : Hid (EffQ w W3 w.heap.size) := Lib.hid ⟨⟨_, h3⟩, Nat.le_refl _, b3⟩
  obtain ⟨N, hN⟩ : ∃ N, N = w.heap.size := ⟨_, rfl⟩
  rw [← hN] at r1 r2 r3 HF hmk
  clear h0 h1 h2 h3 g1 g2 g3 gr b0 b3 hN
  go_enter Tryz.func75, Tryz.ntmps75
  go_wp2
  go_ret
  exact ⟨N, rfl, HF.out⟩
theorem eff_enters : ∀ p ∈ effL, Enters Tryz.prog p.2 := by
  intro p hp
  simp only [effL, List.mem_cons, List.not_mem_nil, or_false] at hp
  rcases hp with rfl | rfl | rfl
  · exact enters_of Tryz.func95 (by kernel_rfl) rfl
  · exact enters_of Tryz.func96 (by kernel_rfl) rfl
  · exact enters_of Tryz.func97 (by kernel_rfl) rfl
section
variable {w : World} {B m L : Nat} {s : SM}
set_option maxRecDepth 100000 in
theorem takeP_c (h : SkC w B m L s) (u : UM) : Calls Tryz.prog 95 #[.pointer (some ⟨B, 0, none⟩), valU u] w fun e W' => e = .returned (.tuple #[]) ∧ SkC W' B m L { s with p := u.b } ∧ Only (fun k => k = B) w W' := by
  obtain ⟨k, us, ub, ux⟩ := u
  unfold valU cellsU
  simp only
  have H := Lib.hid h
  clear h
  go_enter Tryz.func95, Tryz.ntmps95
  go_upto_region 1 with (fail)
  obtain ⟨W0, hW0⟩ : ∃ W0, W0 = w.alloc (.cells #[.int .u64 (k : Int), .int .u64 (us : Int), .int .u64 (ub.n : Int), .int .i64 ub.r, .string (str ux)] 91) := ⟨_, rfl⟩
  rw [← hW0]
  obtain ⟨b0, k0, _⟩ := boxU (u := ⟨k, us, ub, ux⟩) hW0
  obtain ⟨p, hp⟩ : ∃ p, p = w.heap.size := ⟨_, rfl⟩
  have h1 := H.out.below b0
  have c1 : W0.cell? ⟨B, 1, none⟩ = some (.int .u64 (s.p.n : Int)) := h1.at 1
  have c2 : W0.cell? ⟨B, 2, none⟩ = some (.int .i64 s.p.r) := h1.at 2
  have f1 := h1.fz 1
  have f2 := h1.fz 2
  have z2 : W0.cell? ⟨p, 2, none⟩ = some (.int .u64 (ub.n : Int)) := by rw [hp]; exact blk_cell k0 2
  have z3 : W0.cell? ⟨p, 3, none⟩ = some (.int .i64 ub.r) := by rw [hp]; exact blk_cell k0 3
  have HV := Lib.hid (show ∀ V, V = (W0.setCell ⟨B, 1, none⟩ (.int .u64 (ub.n : Int))).setCell ⟨B, 2, none⟩ (.int .i64 ub.r) → SkC V B m L { s with p := ub } ∧ Only (fun k => k = B) w V from fun V hV => by
    subst hV
    have k3 := blk_set (blk_set h1.cell 1 (.int .u64 (ub.n : Int))) 2 (.int .i64 ub.r)
    have o2 : Only (fun k => k = B) W0 ((W0.setCell ⟨B, 1, none⟩ (.int .u64 (ub.n : Int))).setCell ⟨B, 2, none⟩ (.int .i64 ub.r)) := ((Only.refl (fun k => k = B) W0).setCell (p := ⟨B, 1, none⟩) (.inl rfl) _).setCell (p := ⟨B, 2, none⟩) (.inl rfl) _
    exact ⟨⟨k3, h1.map.keep (o2.block m h1.mlt (fun e => h1.ne e.symm))⟩, (Only.of_grew b0).trans o2 (fun _ => .inl)⟩)
  rw [← hp]
  clear hW0 b0 k0 hp h1
  go_wp2
  go_end0
  exact ⟨rfl, HV.out _ rfl⟩
set_option maxRecDepth 100000 in
set_option maxHeartbeats 1000000 in
theorem takeV_c (h : SkC w B m L s) (u : UM) (hs : SortedV s.vs) (hn : s.vs.length < maxLen) (hk : u.s < 18446744073709551616) (hx : u.x.length ≤ 1000000) : Calls Tryz.prog 96 #[.pointer (some ⟨B, 0, none⟩), valU u] w fun e W' => e = .returned (.tuple #[]) ∧ SkC W' B m L { s with p := u.b, vs := putV ⟨u.s, u.b, u.x⟩ s.vs } ∧ Only (fun k => k = B ∨ k = m) w W' := by
  obtain ⟨k, us, ub, ux⟩ := u
  simp only at hk hx
  unfold valU cellsU
  simp only
  have H := Lib.hid h
  have HS := Lib.hid (And.intro hs (And.intro hn (And.intro hk hx)))
  clear h hs hn hk hx
  go_enter Tryz.func96, Tryz.ntmps96
  go_upto_region 1 with (fail)
  obtain ⟨W0, hW0⟩ : ∃ W0, W0 = w.alloc (.cells #[.int .u64 (k : Int), .int .u64 (us : Int), .int .u64 (ub.n : Int), .int .i64 ub.r, .string (str ux)] 91) := ⟨_, rfl⟩
  rw [← hW0]
  obtain ⟨b0, k0, _⟩ := boxU (u := ⟨k, us, ub, ux⟩) hW0
  obtain ⟨p, hp⟩ : ∃ p, p = w.heap.size := ⟨_, rfl⟩
  have h1 := H.out.below b0
  have HP := Lib.hid (show Calls _ _ _ _ _ from takeP_c h1 ⟨k, us, ub, ux⟩)
  simp only [valU, cellsU] at HP
  rw [← hp] at k0 ⊢
  have y0 : W0.cell? ⟨p, 0, none⟩ = some (.int .u64 (k : Int)) := blk_cell k0 0
  have y1 : W0.cell? ⟨p, 1, none⟩ = some (.int .u64 (us : Int)) := blk_cell k0 1
  have y2 : W0.cell? ⟨p, 2, none⟩ = some (.int .u64 (ub.n : Int)) := blk_cell k0 2
  have y3 : W0.cell? ⟨p, 3, none⟩ = some (.int .i64 ub.r) := blk_cell k0 3
  have y4 : W0.cell? ⟨p, 4, none⟩ = some (.string (str ux)) := blk_cell k0 4
  have HB := Lib.hid (And.intro b0 (And.intro k0 (show B < p by have := H.out.lt; omega)))
  clear hW0 b0 k0 h1
  have HPP := Lib.hid hp
  clear hp
  go_wp2_with fail
  refine HP.out.mono ?_
  rintro e W1 ⟨rfl, h2, o2⟩
  have kp := (o2.block p (Array.getElem?_eq_some_iff.1 HB.out.2.1).1 (fun e => by have := HB.out.2.2; omega)).trans HB.out.2.1
  have z1 : W1.cell? ⟨p, 1, none⟩ = some (.int .u64 (us : Int)) := blk_cell kp 1
  have z2 : W1.cell? ⟨p, 2, none⟩ = some (.int .u64 (ub.n : Int)) := blk_cell kp 2
  have z3 : W1.cell? ⟨p, 3, none⟩ = some (.int .i64 ub.r) := blk_cell kp 3
  have z4 : W1.cell? ⟨p, 4, none⟩ = some (.string (str ux)) := blk_cell kp 4
  have c5 : W1.cell? ⟨B, 5, none⟩ = some (.map (some m)) := h2.at 5
  obtain ⟨W2, hrun, hm2, hg2'⟩ := MapQV.put (show MapQV W1.drew m s.vs from h2.map.keep rfl) HS.out.1 HS.out.2.1 (e := ⟨us, ub, ux⟩) HS.out.2.2.1 HS.out.2.2.2
  have hg2 : W1.grownBy W2 (some m) := ⟨hg2'.os, hg2'.tape, hg2'.output, hg2'.size, hg2'.block⟩
  have HF := Lib.hid (show SkC W2 B m L { s with p := ub, vs := putV ⟨us, ub, ux⟩ s.vs } ∧ Only (fun k => k = B ∨ k = m) w W2 from
    ⟨⟨(hg2.block B h2.lt (fun e => h2.ne (Option.some.inj e))).trans h2.cell, hm2⟩, ((Only.of_grew HB.out.1).trans (o2.mono fun _ _ => .inl) (fun _ => .inl)).grown hg2 (fun j e => .inl (.inr (by cases e; rfl)))⟩)
  unfold votV at hrun
  simp only at hrun
  clear hm2 hg2 hg2' h2 o2 kp y0 y1 y2 y3 y4 HP HB
  go_upto_region 2 with (fail)
  go_region
  go_end0
  exact ⟨rfl, HF.out⟩
end
end Go.Proofs.YtdiihaeelcbjbaaGreatDoor

-- SbD
namespace Go.Proofs.YtdiihaeelcbjbaaGreatDoor
open Go.RowKit Go.Maps Go.WideMaps

/-- Votes above a slot, or still to come. -/
def LfV (l : List VM) (n : Nat) (left : Lit → Bool) : List VM := l.filter fun y => decide (n < y.s) || left (kyV y.s)
theorem LfV_start (l : List VM) (n : Nat) : LfV l n (has (mapV l)) = l := by
  refine List.filter_eq_self.2 fun y hy => ?_
  rw [Bool.or_eq_true]
  right
  rw [mapV_has, findV, List.find?_isSome]
  exact ⟨y, hy, by simp⟩
theorem LfV_end {l : List VM} {n : Nat} {left : Lit → Bool} (h : ∀ k, left k = false) : LfV l n left = l.filter fun y => decide (n < y.s) := by
  refine List.filter_congr fun y _ => ?_
  rw [h, Bool.or_false]
theorem LfV_struck {l : List VM} {n k : Nat} {left : Lit → Bool} (h : k ≤ n) : (LfV l n left).filter (fun x => decide (x.s ≠ k)) = LfV l n fun z => left z && !z.sameKey (kyV k) := by
  unfold LfV
  rw [List.filter_filter]
  refine List.filter_congr fun y _ => ?_
  simp only [same_kyV]
  rw [Bool.eq_iff_iff]
  simp
  constructor
  · rintro ⟨h1, h2⟩
    rcases h2 with h2 | h2
    · exact .inl h2
    · exact .inr ⟨h2, h1⟩
  · rintro (h1 | ⟨h1, h2⟩)
    · exact ⟨by omega, .inl h1⟩
    · exact ⟨h2, .inr h1⟩
theorem LfV_stays {l : List VM} {n k : Nat} {left : Lit → Bool} (h : n < k) : LfV l n left = LfV l n fun z => left z && !z.sameKey (kyV k) := by
  unfold LfV
  refine List.filter_congr fun y _ => ?_
  simp only [same_kyV]
  rw [Bool.eq_iff_iff]
  simp
  constructor
  · rintro (h1 | h1)
    · exact .inl h1
    · by_cases e : y.s = k
      · exact .inl (by omega)
      · exact .inr ⟨h1, e⟩
  · rintro (h1 | ⟨h1, h2⟩)
    · exact .inl h1
    · exact .inr h1
theorem key_inv64 {key : Value} {kl : Lit} (h : keyOf Tryz.prog 23 key = some kl) : ∃ x : Nat, key = .int .u64 (x : Int) ∧ kl = kyV x ∧ x < 18446744073709551616 := by
  obtain ⟨x, rfl, rfl, hw⟩ := Maps.keyOf_int_inv Tryz.underlying23 h
  obtain ⟨k, rfl, hk⟩ := wf_u64 hw
  exact ⟨k, rfl, rfl, hk⟩
section
variable {w : World} {B m L : Nat} {s : SM}
set_option maxRecDepth 100000 in
set_option maxHeartbeats 1000000 in
theorem takeS_c (h : SkC w B m L s) (u : UM) (hk : u.s < 18446744073709551616) : Calls Tryz.prog 97 #[.pointer (some ⟨B, 0, none⟩), valU u] w fun e W' => e = .returned (.tuple #[]) ∧ SkC W' B m L { s with base := u.s, snap := u.x, vs := s.vs.filter fun y => decide (u.s < y.s) } ∧ Only (fun k => k = B ∨ k = m) w W' := by
  obtain ⟨k, us, ub, ux⟩ := u
  simp only at hk
  unfold valU cellsU
  simp only
  have H := Lib.hid h
  have HK := Lib.hid hk
  clear h hk
  go_enter Tryz.func97, Tryz.ntmps97
  go_upto_region 1 with (fail)
  obtain ⟨W0, hW0⟩ : ∃ W0, W0 = w.alloc (.cells #[.int .u64 (k : Int), .int .u64 (us : Int), .int .u64 (ub.n : Int), .int .i64 ub.r, .string (str ux)] 91) := ⟨_, rfl⟩
  rw [← hW0]
  obtain ⟨b0, k0, _⟩ := boxU (u := ⟨k, us, ub, ux⟩) hW0
  obtain ⟨p, hp⟩ : ∃ p, p = w.heap.size := ⟨_, rfl⟩
  have h1 := H.out.below b0
  have c3 : W0.cell? ⟨B, 3, none⟩ = some (.int .u64 (s.base : Int)) := h1.at 3
  have c4 : W0.cell? ⟨B, 4, none⟩ = some (.string (str s.snap)) := h1.at 4
  have f3 := h1.fz 3
  have f4 := h1.fz 4
  have z1 : W0.cell? ⟨p, 1, none⟩ = some (.int .u64 (us : Int)) := by rw [hp]; exact blk_cell k0 1
  have z4 : W0.cell? ⟨p, 4, none⟩ = some (.string (str ux)) := by rw [hp]; exact blk_cell k0 4
  rw [← hp]
  have HB := Lib.hid (And.intro b0 (And.intro h1 (show p ≠ B by have := H.out.lt; omega)))
  clear hW0 b0 k0 hp h1
  go_region
  obtain ⟨V, hV⟩ : ∃ V, V = ((W0.setCell ⟨B, 3, none⟩ (.int .u64 (us : Int))).setCell ⟨B, 4, none⟩ (.string (str ux))).drew := ⟨_, rfl⟩
  rw [← hV]
  have k3 : V.heap[B]? = some (.cells (cellsS L m { s with base := us, snap := ux }) 89 (0, 0)) := by
    rw [hV]
    exact blk_set (blk_set HB.out.2.1.cell 3 (.int .u64 (us : Int))) 4 (.string (str ux))
  have o2 : Only (fun k => k = B) W0 V := by
    rw [hV]
    exact (((Only.refl (fun k => k = B) W0).setCell (p := ⟨B, 3, none⟩) (.inl rfl) _).setCell (p := ⟨B, 4, none⟩) (.inl rfl) _).drew
  have hm : MapQV V m s.vs := HB.out.2.1.map.keep (o2.block m HB.out.2.1.mlt (fun e => HB.out.2.1.ne e.symm))
  have oV := Lib.hid (show Only (fun k => k = B ∨ k = m) w V from (Only.of_grew HB.out.1).trans (o2.mono fun _ _ => .inl) (fun _ => .inl))
  have K3 := Lib.hid (And.intro k3 (show B ≠ m from HB.out.2.1.ne))
  have hown : V.ownsMap Tryz.prog 23 votR m s.vs.length (mapV s.vs) := hm
  have c5 : V.cell? ⟨B, 5, none⟩ = some (.map (some m)) := blk_cell k3 5
  clear hV k3 o2 hm c3 c4 f3 f4 z1 z4
  go_upto_region 2 with (fail)
  go_wp2_with (first
    | (at_range; refine wpList_range_own _ rfl _ 87 rfl 23 100 keyedU64 Tryz.underlying87 votR m _ _ rfl hown ?_; intro w0 hrg0 hg0 hs0)
    | go_in)
  go_frame
  obtain ⟨r, hr⟩ : ∃ r, r = V.heap.size := ⟨_, rfl⟩
  rw [← hr] at hrg0 ⊢
  have HR := Lib.hid (show B ≠ r by have := (Array.getElem?_eq_some_iff.1 K3.out.1).1; omega)
  have H0 := Lib.hid (show ∃ (left : Lit → Bool) (cnt : Nat), w0.ranges Tryz.prog 23 votR m r s.vs.length (mapV (LfV s.vs us left)) left cnt ∧ V.grownBy w0 (some m) from ⟨_, _, by rw [LfV_start]; exact hrg0, hg0.but _⟩)
  have HVR := Lib.hid (show r = V.heap.size from hr)
  clear hrg0 hg0 hs0 hr hown c5
  go_loopw [4] (fun _ wr => Hid (∃ (left : Lit → Bool) (cnt : Nat), wr.ranges Tryz.prog 23 votR m r s.vs.length (mapV (LfV s.vs us left)) left cnt ∧ V.grownBy wr (some m))) (fun _ wr => wr.rangeLeft m r)
  case atStart => exact H0
  case round =>
    obtain ⟨left, cnt, hrg, hgw⟩ := hrel.out
    clear hrel
    go_wp2_with (first
      | (at_next; refine wpList_next_ranges _ rfl _ rfl 23 keyedU64 votR (fun x : Nat => Value.int .u64 (x : Int)) votV (fun key kl hkey => by obtain ⟨x, h1, _⟩ := key_inv64 hkey; exact ⟨x, h1⟩) (fun v y hv => by obtain ⟨c, h1, _⟩ := votR_inv hv; exact ⟨c, h1⟩) m r s.vs.length _ _ _ rfl hrg ?_ ?_)
      | go_in)
    · -- nothing is left
      intro _ hl0
      have HE := Lib.hid (show SkC wr B m L { s with base := us, snap := ux, vs := s.vs.filter fun y => decide (us < y.s) } ∧ Only (fun k => k = B ∨ k = m) w wr from by
        have ho := hrg.owns
        rw [LfV_end hl0] at ho
        exact ⟨⟨(hgw.block B (Array.getElem?_eq_some_iff.1 K3.out.1).1 (fun e => K3.out.2 (Option.some.inj e))).trans K3.out.1, MapQV.of ho⟩, oV.out.grown hgw (fun j e => .inl (.inr (by cases e; rfl)))⟩)
      clear hrg hgw hl0
      go_wp2
      go_end0
      exact ⟨rfl, HE.out⟩
    · -- an entry has come
      intro x c kl y1 y2 w1 cnt1 hkey hlk hv hat hrg1 hlt hg1 hs1 hen
      obtain ⟨x', hx1, hx2, hx3⟩ := key_inv64 hkey
      obtain rfl : x' = x := by have := congrArg (fun v => match v with | Value.int _ i => i | _ => 0) hx1; simp at this; omega
      subst hx2
      have hgw1 := hgw.andThen hg1 (fun j hj => by cases hj; exact Or.inl (by rw [HVR.out]; exact Nat.le_refl _))
      have kB : w1.heap[B]? = some (.cells (cellsS L m { s with base := us, snap := ux }) 89 (0, 0)) := (hgw1.block B (Array.getElem?_eq_some_iff.1 K3.out.1).1 (fun e => K3.out.2 (Option.some.inj e))).trans K3.out.1
      have c3 : w1.cell? ⟨B, 3, none⟩ = some (.int .u64 (us : Int)) := blk_cell kB 3
      have c5 : w1.cell? ⟨B, 5, none⟩ = some (.map (some m)) := blk_cell kB 5
      have HG := Lib.hid (And.intro hgw1 (And.intro hgw hrg))
      have HLT := Lib.hid hlt
      have HX := Lib.hid (And.intro hx3 hat)
      unfold votV at hen
      clear hgw1 hgw kB hlk hv hat hx1 hx3 hs1 hg1 hlt hrg
      by_cases hle : x' ≤ us
      · have hlei : (x' : Int) ≤ (us : Int) := by omega
        have HLE := Lib.hid hle
        clear hle
        go_wp2_with (first
          | (at_delete; refine wpList_delete_ranges _ rfl _ _ 87 23 rfl 100 keyedU64 Tryz.underlying87 votR m r s.vs.length _ _ _ rfl hrg1 _ _ rfl hkey ?_; intro w2 cnt2 hrg2 hle2 hturn; go_frame)
          | go_in)
        rw [strike_twice, mapV_del, LfV_struck HLE.out] at hrg2
        go_roundw
        case rel => exact Lib.hid ⟨_, cnt2, hrg2, HG.out.1.andThen hturn.grown (fun j hj => by cases hj; exact Or.inr rfl)⟩
        case measure => rw [hrg2.left_eq, HG.out.2.2.left_eq]; have := HLT.out; omega
      · have hlei : ¬ (x' : Int) ≤ (us : Int) := by omega
        rw [LfV_stays (k := x') (by omega)] at hrg1
        have HR1 := Lib.hid hrg1
        clear hle hrg1
        go_wp2_with go_in
        go_roundw
        case rel => exact Lib.hid ⟨_, cnt1, HR1.out, HG.out.1⟩
        case measure => rw [HR1.out.left_eq, HG.out.2.2.left_eq]; exact HLT.out
end
end Go.Proofs.YtdiihaeelcbjbaaGreatDoor

-- SbE
namespace Go.Proofs.YtdiihaeelcbjbaaGreatDoor
open Go.RowKit Go.Maps Go.WideMaps

set_option maxRecDepth 100000 in
set_option maxHeartbeats 4000000 in
theorem do_by {w : World} {B m L : Nat} {s : SM} (h : SkC w B m L s) (u : UM) (s' : SM) (f : FuncId) (hf : (u.k, f) ∈ effL)
    (hc : ∀ W, SkC W B m L s → Calls Tryz.prog f #[.pointer (some ⟨B, 0, none⟩), valU u] W fun e W' => e = .returned (.tuple #[]) ∧ SkC W' B m L s' ∧ Only (fun k => k = B ∨ k = m) W W') :
    Calls Tryz.prog 45 #[.pointer (some ⟨B, 0, none⟩), valU u] w fun e W' => e = .returned (.tuple #[]) ∧ SkC W' B m L s' ∧ Only (fun k => k = B ∨ k = m) w W' := by
  obtain ⟨k, us, ub, ux⟩ := u
  simp only at hf
  simp only [valU, cellsU] at hc ⊢
  have H := Lib.hid h
  have HF := Lib.hid hf
  have HC := Lib.hid hc
  clear h hf hc
  go_enter Tryz.func45, Tryz.ntmps45
  go_upto_region 1 with (fail)
  obtain ⟨W0, hW0⟩ : ∃ W0, W0 = w.alloc (.cells #[.int .u64 (k : Int), .int .u64 (us : Int), .int .u64 (ub.n : Int), .int .i64 ub.r, .string (str ux)] 91) := ⟨_, rfl⟩
  rw [← hW0]
  obtain ⟨b0, k0, _⟩ := boxU (u := ⟨k, us, ub, ux⟩) hW0
  obtain ⟨p, hp⟩ : ∃ p, p = w.heap.size := ⟨_, rfl⟩
  have h1 := H.out.below b0
  rw [← hp] at k0 ⊢
  have HB := Lib.hid (And.intro b0 (And.intro k0 h1))
  have y0 : W0.cell? ⟨p, 0, none⟩ = some (.int .u64 (k : Int)) := blk_cell k0 0
  clear hW0 b0 k0 hp h1
  have HE := Lib.hid (effects_any W0.drew)
  go_region_with (refine HE.out.mono ?_; rintro e W3 ⟨eb, rfl, h3⟩; have H3 := Lib.hid h3; have y0' := (h3.below.cell (p := ⟨p, 0, none⟩) (show p < W0.drew.heap.size from (Array.getElem?_eq_some_iff.1 HB.out.2.1).1)).trans y0; obtain ⟨en, hem⟩ := h3.map; have hlook := hem.look _ HF.out (eff_wf _ HF.out); clear h3 hem)
  all_goals
    have p3 := (H3.out.below.block p (show p < W0.drew.heap.size from (Array.getElem?_eq_some_iff.1 HB.out.2.1).1)).trans HB.out.2.1
    have z0 : W3.cell? ⟨p, 0, none⟩ = some (.int .u64 (k : Int)) := blk_cell p3 0
    have z1 : W3.cell? ⟨p, 1, none⟩ = some (.int .u64 (us : Int)) := blk_cell p3 1
    have z2 : W3.cell? ⟨p, 2, none⟩ = some (.int .u64 (ub.n : Int)) := blk_cell p3 2
    have z3 : W3.cell? ⟨p, 3, none⟩ = some (.int .i64 ub.r) := blk_cell p3 3
    have z4 : W3.cell? ⟨p, 4, none⟩ = some (.string (str ux)) := blk_cell p3 4
    have b3 : Below w.heap.size w W3 := HB.out.1.trans (Below.mono (show Below W0.heap.size W0 W3 from Grew.undraw H3.out.below) HB.out.1.size)
    have HX := Lib.hid (And.intro b3 (HC.out W3 (H.out.below b3)))
    have hen : (callFunc f #[.pointer (some ⟨B, 0, none⟩), .agg #[.int .u64 (k : Int), .int .u64 (us : Int), .int .u64 (ub.n : Int), .int .i64 ub.r, .string (str ux)]]).run Tryz.prog W3 = .ok (.enter f #[.pointer (some ⟨B, 0, none⟩), .agg #[.int .u64 (k : Int), .int .u64 (us : Int), .int .u64 (ub.n : Int), .int .i64 ub.r, .string (str ux)]]) W3 := eff_enters _ HF.out _ _
    clear p3 y0 b3 H3 hlook y0' HE
    go_wp2_with fail
    refine HX.out.2.mono ?_
    rintro e W4 ⟨rfl, h4, o4⟩
    have H4 := Lib.hid (And.intro h4 ((Only.of_grew (F := fun k => k = B ∨ k = m) HX.out.1).trans o4 (fun _ => .inl)))
    clear h4 o4 z0 z1 z2 z3 z4 hen
    go_wp2
    go_end0
    exact ⟨rfl, H4.out⟩
/-- An update that may be is done. -/
theorem do_c {w : World} {B m L : Nat} {s : SM} (h : SkC w B m L s) (hso : SortedV s.vs) (hn : s.vs.length < maxLen) (u : UM) (h1 : 1 ≤ u.k) (h3 : u.k ≤ 3) (hs : u.s < 18446744073709551616) (hx : u.x.length ≤ 1000000) :
    Calls Tryz.prog 45 #[.pointer (some ⟨B, 0, none⟩), valU u] w fun e W' => e = .returned (.tuple #[]) ∧ SkC W' B m L (s.upd u) ∧ Only (fun k => k = B ∨ k = m) w W' := by
  rcases (show u.k = 1 ∨ u.k = 2 ∨ u.k = 3 by omega) with hk | hk | hk
  · refine do_by h u (s.upd u) 95 (by rw [hk]; simp [effL]) fun W hW => (takeP_c hW u).mono ?_
    rintro e W' ⟨he, hc, ho⟩
    refine ⟨he, ?_, ho.mono fun _ _ => .inl⟩
    rw [SM.upd, if_pos hk]
    exact hc
  · refine do_by h u (s.upd u) 96 (by rw [hk]; simp [effL]) fun W hW => (takeV_c hW u hso hn hs hx).mono ?_
    rintro e W' ⟨he, hc, ho⟩
    refine ⟨he, ?_, ho⟩
    rw [SM.upd, if_neg (by omega), if_pos hk]
    exact hc
  · refine do_by h u (s.upd u) 97 (by rw [hk]; simp [effL]) fun W hW => (takeS_c hW u hs).mono ?_
    rintro e W' ⟨he, hc, ho⟩
    refine ⟨he, ?_, ho⟩
    rw [SM.upd, if_neg (by omega), if_neg (by omega)]
    exact hc
end Go.Proofs.YtdiihaeelcbjbaaGreatDoor
