/- What an append, a copy, a clearing make of a row of runs. -/
import Derived.Test.YtnpkaljmncehhaaVqA
import Derived.Laws.CopyRow
import Derived.Lib.AppendZerosOnto
import Derived.Lib.Overlaps
import Derived.Shelf.RegionOpenPlain
import Derived.Deep.RegionLaw
namespace Go.Proofs.Ytnpkaljmncehhaa
open Go.RowKit

/-- A row with others laid over it from a place on. -/
def spl (cur : List Value) (o : Nat) (vs : List Value) : List Value := cur.take o ++ vs ++ cur.drop (o + vs.length)
theorem spl_len {cur vs : List Value} {o : Nat} (h : o + vs.length ≤ cur.length) : (spl cur o vs).length = cur.length := by
  simp only [spl, List.length_append, List.length_take, List.length_drop]
  omega
theorem spl_take {cur vs : List Value} {o k : Nat} (h : k ≤ o) (ho : o ≤ cur.length) : (spl cur o vs).take k = cur.take k := by
  unfold spl
  rw [List.append_assoc, List.take_append_of_le_length (by rw [List.length_take]; omega), List.take_take, Nat.min_eq_left h]
theorem spl_upto {cur vs : List Value} {o : Nat} (ho : o ≤ cur.length) : (spl cur o vs).take (o + vs.length) = cur.take o ++ vs := by
  unfold spl
  rw [List.take_append_of_le_length (by rw [List.length_append, List.length_take]; omega)]
  exact List.take_of_length_le (by rw [List.length_append, List.length_take]; omega)
theorem spl_drop {cur vs : List Value} {o k : Nat} (h : o + vs.length ≤ k) (ho : o ≤ cur.length) : (spl cur o vs).drop k = cur.drop k := by
  unfold spl
  rw [List.drop_append, List.drop_of_length_le (by rw [List.length_append, List.length_take]; omega), List.nil_append, List.drop_drop, List.length_append, List.length_take]
  congr 1
  omega
theorem cellsS2_take (l : List (Nat × Nat)) (i : Nat) : cellsS2 (l.take i) = (cellsS2 l).take (i * 2) := by
  induction l generalizing i with
  | nil => simp [cellsS2]
  | cons a l ih =>
    cases i with
    | zero => simp [cellsS2]
    | succ i =>
      have := ih i
      unfold cellsS2 at this ⊢
      rw [List.take_succ_cons, List.flatMap_cons, List.flatMap_cons, this, show (i + 1) * 2 = i * 2 + 2 by omega]
      simp
theorem cellsS2_drop (l : List (Nat × Nat)) (i : Nat) : cellsS2 (l.drop i) = (cellsS2 l).drop (i * 2) := by
  induction l generalizing i with
  | nil => simp [cellsS2]
  | cons a l ih =>
    cases i with
    | zero => simp [cellsS2]
    | succ i =>
      have := ih i
      unfold cellsS2 at this ⊢
      rw [List.drop_succ_cons, List.flatMap_cons, this, show (i + 1) * 2 = i * 2 + 2 by omega]
      simp
/-- A row in its block. -/
structure RowR (w : World) (g c : Nat) (cur : Array Value) (l : List (Nat × Nat)) : Prop where
  blk : w.heap[g]? = some (.cells cur 64 (0, 0))
  cap : l.length ≤ c
  big : c ≤ maxLen
  size : cur.size = c * 2
  pre : cur.toList.take (l.length * 2) = cellsS2 l
theorem OwnR.row {w : World} {v : Value} {l : List (Nat × Nat)} (h : OwnR w v l) (hl : l ≠ []) : ∃ g c cur, v = .slice (some ⟨g, 0, none⟩) l.length c ∧ RowR w g c cur l := by
  have hl' : 0 < l.length := List.length_pos_iff.2 hl
  rcases h.2 with ⟨e, h0⟩ | ⟨g, cap, cur, e, _, hg, hn, hm, hs, ht⟩
  · omega
  · exact ⟨g, cap, cur, e, hg, hn, hm, hs, ht⟩
theorem RowR.own {w : World} {g c n : Nat} {cur : Array Value} {l : List (Nat × Nat)} (h : RowR w g c cur l) (hn : n = l.length) : OwnR w (.slice (some ⟨g, 0, none⟩) n c) l := by
  subst hn
  exact ⟨by rw [cellsS2_len], .inr ⟨g, c, cur, rfl, Nat.zero_le _, h.blk, h.cap, h.big, h.size, h.pre⟩⟩
theorem RowR.src {w : World} {g c : Nat} {cur : Array Value} {l : List (Nat × Nat)} (h : RowR w g c cur l) (i : Nat) : ∀ j u, (cellsS2 (l.drop i))[j]? = some u → w.cell? ((⟨g, i * 2, none⟩ : Addr).add j) = some u := by
  intro j u hj
  rw [addr_add, blk_cell h.blk, ← Array.getElem?_toList]
  rw [cellsS2_drop, List.getElem?_drop, ← h.pre, List.getElem?_take] at hj
  split at hj
  · exact hj
  · cases hj
theorem run_storeR {P : Program} (w : World) (g o : Nat) (vs : List Value) (cur : Array Value) (t : TypeId) (hg : w.heap[g]? = some (.cells cur t (0, 0))) (hfit : o + vs.length ≤ cur.size) (h1 : ∀ v ∈ vs, v.oneCell' = true) : (storeCells ⟨g, o, none⟩ vs 0).run P w = .ok () (w.setRow g (spl cur.toList o vs).toArray) := by
  have := run_storeCells_at P g o t vs 0 cur w hg (by simpa using hfit) h1
  simpa only [Nat.add_zero, spl] using this
theorem sizeR : (Try.prog.info? 64).map (·.size) = some 2 := by kernel_rfl
/-- copy, of runs. -/
theorem run_copyR (w : World) (ty : TypeId) (g o dLen dCap : Nat) (a : Addr) (sLen sCap : Nat) (cur : Array Value) (t : TypeId) (cs : List Value)
    (hg : w.heap[g]? = some (.cells cur t (0, 0))) (hn : cs.length = Nat.min sLen dLen * 2) (hsrc : ∀ j v, cs[j]? = some v → w.cell? (a.add j) = some v) (hfit : o + cs.length ≤ cur.size) (h1 : ∀ v ∈ cs, v.oneCell' = true) :
    (Builtin.copy_ #[55, 55] ty #[.slice (some ⟨g, o, none⟩) dLen dCap, .slice (some a) sLen sCap]).run Try.prog w = .ok (goInt (Nat.min sLen dLen)) (w.setRow g (spl cur.toList o cs).toArray) := by
  have hst := run_storeR (P := Try.prog) w g o cs cur t hg hfit h1
  have hl := run_firstCells_some (P := Try.prog) w 2 (Nat.min sLen dLen) a sLen sCap cs hn hsrc
  obtain ⟨i, hi, _, hs, _⟩ := infoR_parts
  simp [Builtin.copy_, run_underlying Try.underlying55, Builtin.lenOf, sizeOf, typeInfo, hi, hs, hl, hst]
def zeroR (n : Nat) : List Value := List.replicate (n * 2) (.int .u64 0)
theorem zeroR_len (n : Nat) : (zeroR n).length = n * 2 := List.length_replicate
theorem zeroR_one (n : Nat) : ∀ v ∈ zeroR n, v.oneCell' = true := fun v hv => by rw [List.eq_of_mem_replicate hv]; rfl
theorem zeroCellsR (n : Nat) : (Builtin.zeroCells #[Value.int .u64 0, .int .u64 0] n).toList = zeroR n := by
  unfold zeroR Builtin.zeroCells
  rw [Array.toList_map, Array.toList_range]
  apply List.ext_getElem
  · simp
  · intro i h1 h2
    rw [List.getElem_replicate, List.getElem_map, List.getElem_range]
    rcases Nat.mod_two_eq_zero_or_one i with e | e <;> simp [e]
theorem zeroValR (w : World) : (zeroValue 64).run Try.prog w = .ok (.agg #[.int .u64 0, .int .u64 0]) w := by
  obtain ⟨i, hi, hz, _, _⟩ := infoR_parts
  simp [zeroValue, typeInfo, hi, hz]
/-- clear, of runs. -/
theorem run_clearR (w : World) (ty : TypeId) (g o n c : Nat) (cur : Array Value) (t : TypeId) (hg : w.heap[g]? = some (.cells cur t (0, 0))) (hfit : o + n * 2 ≤ cur.size) :
    (Builtin.clear_ #[55] ty #[.slice (some ⟨g, o, none⟩) n c]).run Try.prog w = .ok (.tuple #[]) (w.setRow g (spl cur.toList o (zeroR n)).toArray) := by
  have hst := run_storeR (P := Try.prog) w g o (zeroR n) cur t hg (by rw [zeroR_len]; exact hfit) (zeroR_one n)
  have hz := zeroValR w
  cases n with
  | zero =>
    have e : (spl cur.toList o (zeroR 0)).toArray = cur := by simp [spl, zeroR]
    rw [e, setRow_self w g cur t (0, 0) hg]
    simp [Builtin.clear_, run_underlying Try.underlying55]
  | succ m =>
    have hzc : (Builtin.zeroCells (Value.agg #[.int .u64 0, .int .u64 0]).cells (m + 1)).toList = zeroR (m + 1) := zeroCellsR (m + 1)
    simp [Builtin.clear_, run_underlying Try.underlying55, hz, hzc, hst]
theorem run_clear0 (w : World) (ty : TypeId) (A : Option Addr) (c : Nat) : (Builtin.clear_ #[55] ty #[.slice A 0 c]).run Try.prog w = .ok (.tuple #[]) w := by
  cases A <;> simp [Builtin.clear_, run_underlying Try.underlying55]
/-- append where there is room, as a step of a region that draws. -/
theorem step_appR {ops : Array Oper} {o : Oper} {a : Act} {w : World} {K : Act → World → Prop} {Q : Exit → Act → World → Prop} {E : Prop}
    (hg : o.guard = none) (s x : Operand) (hop : o.op = Op.call { callee := Callee.builtin Builtin.append, args := #[s, x], argTypes := #[55, 55] })
    (g n c : Nat) (cur : Array Value) (hs : a.eval s = .slice (some ⟨g, 0, none⟩) n c) (hcur : w.heap[g]? = some (.cells cur 64 (0, 0)))
    (ad : Addr) (m c2 : Nat) (news : List Value) (hx : a.eval x = .slice (some ad) m c2) (hl : news.length = m * 2) (hc : ∀ j u, news[j]? = some u → w.cell? (ad.add j) = some u) (h1c : ∀ u ∈ news, u.oneCell' = true)
    (hroom : n + m ≤ c) (hfit : n * 2 + news.length ≤ cur.size)
    (hK : K (a.put o.dst (.slice (some ⟨g, 0, none⟩) (n + m) c)) (w.setRow g (spl cur.toList (n * 2) news).toArray)) :
    if Region.wanted o (yielded ops a.tmps) = true then Oper.wp Try.prog o a w K Q else E := by
  have hw : Region.wanted o (yielded ops a.tmps) = true := by simp [Region.wanted, hg]
  rw [if_pos hw]
  obtain ⟨i, hi, _, hsz, _⟩ := infoR_parts
  have hrun := run_append_room (P := Try.prog) w 55 o.type 64 i Try.underlying55 hi g n c cur hcur ad m c2 news (by rw [hsz]; exact hl) hc h1c hroom (by rw [hsz]; exact hfit)
  rw [hsz] at hrun
  change _ = Result.ok _ (w.setRow g (spl cur.toList (n * 2) news).toArray) at hrun
  unfold Oper.wp
  simp [execOp, hop, resolve, invoke, builtin, hs, hx, hrun, Result.andThen]
  exact hK
/-- copy, as a step of a region that draws. -/
theorem step_copyR {ops : Array Oper} {o : Oper} {a : Act} {w : World} {K : Act → World → Prop} {Q : Exit → Act → World → Prop} {E : Prop}
    (hg : o.guard = none) (d x : Operand) (hop : o.op = Op.call { callee := Callee.builtin Builtin.copy, args := #[d, x], argTypes := #[55, 55] })
    (v u : Value) (hd : a.eval d = v) (hx : a.eval x = u) {v' : Value} {w' : World} (hr : ∀ ty, (Builtin.copy_ #[55, 55] ty #[v, u]).run Try.prog w = .ok v' w') (hK : K (a.put o.dst v') w') :
    if Region.wanted o (yielded ops a.tmps) = true then Oper.wp Try.prog o a w K Q else E := by
  have hw : Region.wanted o (yielded ops a.tmps) = true := by simp [Region.wanted, hg]
  rw [if_pos hw]
  unfold Oper.wp
  simp [execOp, hop, resolve, invoke, builtin, hd, hx, hr, Result.andThen]
  exact hK
theorem wpList_copyR (w : World) {ops : Array Oper} {rest : List Oper} {o : Oper} {a : Act} {Q : Exit → Act → World → Prop} (hgd : o.guard = none) (d s : Operand)
    (ho : o.op = .call { callee := .builtin .copy, args := #[d, s], argTypes := #[55, 55] }) (v u : Value) (hd : a.eval d = v) (hs : a.eval s = u) {v' : Value} {w' : World}
    (hr : ∀ ty, (Builtin.copy_ #[55, 55] ty #[v, u]).run Try.prog w = .ok v' w') (h : wpList Try.prog ops Q rest (a.put o.dst v') w') : wpList Try.prog ops Q (o :: rest) a w := by
  refine wpList_plain hgd fun K hK => ?_
  unfold Oper.wp execOp
  simp only [ho, resolve, invoke, builtin, Sem.run_bind, Sem.run_pure, Result.andThen_ok, List.map_toArray, List.map_cons, List.map_nil, hd, hs, hr]
  exact hK _ _ h
theorem wpList_clearR (w : World) {ops : Array Oper} {rest : List Oper} {o : Oper} {a : Act} {Q : Exit → Act → World → Prop} (hgd : o.guard = none) (hdst : o.dst = none) (s : Operand)
    (ho : o.op = .call { callee := .builtin .clear, args := #[s], argTypes := #[55] }) (u : Value) (hs : a.eval s = u) {w' : World}
    (hr : ∀ ty, (Builtin.clear_ #[55] ty #[u]).run Try.prog w = .ok (.tuple #[]) w') (h : wpList Try.prog ops Q rest a w') : wpList Try.prog ops Q (o :: rest) a w := by
  refine wpList_plain hgd fun K hK => ?_
  unfold Oper.wp execOp
  simp only [ho, resolve, invoke, builtin, Sem.run_bind, Sem.run_pure, Result.andThen_ok, List.map_toArray, List.map_cons, List.map_nil, hs, hr]
  have := hK _ _ (show wpList Try.prog ops Q rest (a.put o.dst (.tuple #[])) w' from by rw [hdst]; exact h)
  exact this
end Go.Proofs.Ytnpkaljmncehhaa
