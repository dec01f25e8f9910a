/- Words of our own for slices of bytes: what a slice holds ('HasA'), and laws for append, copy, make and the conversion to a string over them. -/
import Derived.Below
import Derived.Laws.OwnMore
import Derived.Laws.MakeOwn
import Derived.Laws.CopyRow
import Derived.Laws.IdiomCopy
import Derived.Laws.BytesArg
import Derived.Shelf.Bytes.SlSmallAll
import Derived.Deep.AppendLies
import Derived.Deep.AppendSrc
import Derived.OwnWalk
import Derived.BigFrame
import Derived.OwnWalkIn
import Derived.Maps.AppendAt
import Derived.Test.YteiednjhliobeaaBits
namespace Go.Proofs.Yteiednjhliobeaa
open Go.RowKit

/-- The address A, below block B, bears the bytes bs (anything where there are none). -/
def HasA (w : World) (B : Nat) (A : Option Addr) (bs : List UInt8) : Prop :=
  bs ≠ [] → ∃ b o, A = some ⟨b, o, none⟩ ∧ b < B ∧ ∀ i (h : i < bs.length), w.cell? ⟨b, o + i, none⟩ = some (enc bs[i])

theorem enc_one (b : UInt8) : (enc b).oneCell' = true := rfl
theorem encs_one (bs : List UInt8) : ∀ u ∈ bs.map enc, u.oneCell' = true := by
  intro u hu
  obtain ⟨b, _, rfl⟩ := List.mem_map.1 hu
  rfl

theorem addr_add (b o j : Nat) : (⟨b, o, none⟩ : Addr).add j = ⟨b, o + j, none⟩ := by unfold Addr.add; split <;> simp_all

section
variable {w w' : World} {B B' : Nat} {A : Option Addr} {bs : List UInt8}

theorem HasA.nil (w : World) (B : Nat) (A : Option Addr) : HasA w B A [] := fun h => absurd rfl h
theorem HasA.keep (h : HasA w B A bs) (hk : ∀ p : Addr, p.block < B → w'.cell? p = w.cell? p) : HasA w' B A bs := fun hn => by
  obtain ⟨b, o, e, hb, hc⟩ := h hn
  exact ⟨b, o, e, hb, fun i hi => (hk ⟨b, o + i, none⟩ hb).trans (hc i hi)⟩
theorem HasA.more (h : HasA w B A bs) (hB : B ≤ B') : HasA w B' A bs := fun hn => by
  obtain ⟨b, o, e, hb, hc⟩ := h hn
  exact ⟨b, o, e, by omega, hc⟩
theorem HasA.below (h : HasA w B A bs) (hb : Below B w w') : HasA w' B A bs := h.keep fun _ hp => hb.cell hp
theorem HasA.below' (h : HasA w w.heap.size A bs) (hb : Below w.heap.size w w') : HasA w' w'.heap.size A bs := (h.below hb).more hb.size
theorem HasA.alloc (h : HasA w B A bs) (hB : B ≤ w.heap.size) (o : Obj) : HasA (w.alloc o) B A bs := h.keep fun p hp => World.cell?_alloc_lt w o p (by omega)
theorem HasA.cut (h : HasA w B A bs) (b o k : Nat) (hA : A = some ⟨b, o, none⟩) : HasA w B (some ⟨b, o + k, none⟩) (bs.drop k) := fun hn => by
  have hne : bs ≠ [] := by rintro rfl; simp at hn
  obtain ⟨b', o', e, hb, hc⟩ := h hne
  rw [hA] at e; cases e
  refine ⟨b, o + k, rfl, hb, fun i hi => ?_⟩
  have hi' : k + i < bs.length := by simp at hi; omega
  have := hc (k + i) hi'
  rw [Nat.add_assoc, this]; simp
theorem HasA.take (h : HasA w B A bs) (k : Nat) : HasA w B A (bs.take k) := fun hn => by
  have hne : bs ≠ [] := by rintro rfl; simp at hn
  obtain ⟨b, o, e, hb, hc⟩ := h hne
  refine ⟨b, o, e, hb, fun i hi => ?_⟩
  have hi' : i < bs.length := by simp at hi; omega
  rw [hc i hi']; simp
theorem HasA.of_own {base n c : Nat} {e : TypeId} (h : w.ownsRow base e 1 (.slice A n c) n (bs.map enc)) : HasA w w.heap.size A bs := fun hn => by
  have hl : bs.length = n := by have := h.1; simpa using this
  have hp : 0 < n := by rcases bs with _ | ⟨x, r⟩; exact absurd rfl hn; simp at hl; omega
  obtain ⟨g, cap, hv, _, hlt⟩ := h.form hp
  have hA : A = some ⟨g, 0, none⟩ := by injection hv
  subst hA
  refine ⟨g, 0, rfl, hlt, fun i hi => ?_⟩
  have := h.cells (g := g) rfl i (enc bs[i]) (by simp [hi])
  rwa [addr_add] at this
theorem HasA.src (h : HasA w B A bs) {b o : Nat} (hA : A = some ⟨b, o, none⟩) : ∀ j u, (bs.map enc)[j]? = some u → w.cell? ((⟨b, o, none⟩ : Addr).add j) = some u := by
  intro j u hu
  have hj : j < bs.length := by
    rcases Nat.lt_or_ge j bs.length with h | h
    · exact h
    · simp [List.getElem?_eq_none (show bs.length ≤ j from h)] at hu
  obtain ⟨b', o', e, _, hc⟩ := h (by rintro rfl; simp at hj)
  rw [hA] at e; cases e
  rw [addr_add, hc j hj]
  simpa [hj] using hu
end

/-- A list of bytes as a string. -/
def str (bs : List UInt8) : ByteArray := ⟨bs.toArray⟩
theorem str_data (s : ByteArray) : str s.data.toList = s := by cases s; simp [str]
theorem str_inj {a b : List UInt8} : str a = str b ↔ a = b := by
  constructor
  · intro h; injection h with h; simpa using h
  · rintro rfl; rfl
theorem str_append (a b : List UInt8) : str (a ++ b) = str a ++ str b := by
  apply ByteArray.ext; simp [str]
theorem str_size (a : List UInt8) : (str a).size = a.length := by simp [str, ByteArray.size]

section
variable {P : Program} {w : World}

theorem run_conv {B : Nat} {A : Option Addr} {bs : List UInt8} (h : HasA w B A bs) (c : Nat) {t e d : TypeId} (ht : P.underlying t = some (.slice e)) (he : P.underlying e = some (.int .u8)) (hd : P.underlying d = some .string) {n : Nat} (hn : n = bs.length) :
    (convert t d (.slice A n c)).run P w = .ok (.string (str bs)) w := by
  subst hn
  by_cases hb : bs = []
  · subst hb
    rw [List.length_nil, run_convert_bytes_zero w t e ht he A c d hd]
    rfl
  · obtain ⟨b, o, rfl, _, hc⟩ := h hb
    rw [run_convert_bytes_arg (P := P) w t e ht he b o bs.length c (bs.map fun x => (x.toNat : Int)) (by simp) (fun i hi => by rw [hc i hi]; simp [enc, List.getD, hi]) d hd]
    congr 2
    apply ByteArray.ext
    simp only [strOfNums, str, List.map_map]
    congr 1
    conv => rhs; rw [← List.map_id bs]
    apply List.map_congr_left
    intro x _
    simp

theorem run_append_has (base : Nat) (t ty e : TypeId) (i : TypeInfo) (ht : P.underlying t = some (.slice e)) (hi : P.info? e = some i) (hz : i.zero = some (.int .u8 0))
    (hsize : i.size = 1) (hby : i.bytes = 1) (v : Value) (n : Nat) (xs : List UInt8) (hown : w.ownsRow base e 1 v n (xs.map enc))
    (B : Nat) (A : Option Addr) (m c : Nat) (bs : List UInt8) (hm : m = bs.length) (h : HasA w B A bs) (h63 : n + m ≤ 140737488355328) (hbase : base ≤ w.heap.size) :
    ∃ v' w', (Builtin.append_ #[t, t] ty #[v, .slice A m c]).run P w = .ok v' w' ∧ w'.ownsRow base e 1 v' (n + m) ((xs ++ bs).map enc) ∧ w.grownBy w' v.ownBlock := by
  subst hm
  by_cases hb : bs = []
  · subst hb
    refine ⟨v, w, ?_, by simpa using hown, ⟨rfl, rfl, rfl, Nat.le_refl _, fun _ _ _ => rfl⟩⟩
    have hfc : (Builtin.firstCells 1 0 (.slice A 0 c)).run P w = .ok #[] w := by
      cases A <;> simp [Builtin.firstCells, loadCells, loadCellsFrom]
    rcases hown.2 with ⟨rfl, rfl⟩ | ⟨g, cap, cur, rfl, _, _, hnc, _⟩
    · simp [Builtin.append_, run_underlying ht, sizeOf, typeInfo, hi, Builtin.lenOf, hsize, hfc]
    · simp [Builtin.append_, run_underlying ht, sizeOf, typeInfo, hi, Builtin.lenOf, hsize, hfc, hnc, storeCells]
  · obtain ⟨b, o, rfl, _, _⟩ := id h hb
    obtain ⟨v', w', hr, h1, h2, _⟩ := run_append_own (P := P) w base t ty e i _ 1 1 ht hi hz hsize hby rfl (by omega) v n _ hown ⟨b, o, none⟩ bs.length c (bs.map enc) (by simp) (h.src rfl) (encs_one bs) (by simp only [maxLen]; omega) (by omega) hbase
    exact ⟨v', w', hr, by simpa using h1, h2⟩

theorem wpList_append_has {ops : Array Oper} {rest : List Oper} {o : Oper} {a : Act} {Q : Exit → Act → World → Prop} (hgd : Region.wanted o (yielded ops a.tmps) = true) (s x : Operand) (t : TypeId)
    (ho : o.op = .call { callee := .builtin .append, args := #[s, x], argTypes := #[t, t] })
    (base : Nat) (e : TypeId) (i : TypeInfo) (ht : P.underlying t = some (.slice e)) (hi : P.info? e = some i) (hz : i.zero = some (.int .u8 0)) (hsize : i.size = 1) (hby : i.bytes = 1)
    (v : Value) (n : Nat) (xs : List UInt8) (hs : a.eval s = v) (hown : w.ownsRow base e 1 v n (xs.map enc))
    (B : Nat) (A : Option Addr) (m c : Nat) (bs : List UInt8) (hx : a.eval x = .slice A m c) (hm : m = bs.length) (hr : HasA w B A bs)
    (h63 : n + m ≤ 140737488355328) (hbase : base ≤ w.heap.size)
    (h : ∀ v' w', w'.ownsRow base e 1 v' (n + m) ((xs ++ bs).map enc) → w.grownBy w' v.ownBlock → wpList P ops Q rest (a.put o.dst v') w') : wpList P ops Q (o :: rest) a w := by
  obtain ⟨v', w', hrun, h2, h3⟩ := run_append_has (P := P) base t o.type e i ht hi hz hsize hby v n xs hown B A m c bs hm hr h63 hbase
  refine BigFrame.wpList_want hgd fun K hK => ?_
  unfold Oper.wp execOp
  simp only [ho, resolve, invoke, builtin, Sem.run_bind, Sem.run_pure, Result.andThen_ok, List.map_toArray, List.map_cons, List.map_nil, hs, hx, hrun]
  exact hK _ _ (h v' w' h2 h3)

theorem run_append_str (base : Nat) (t u ty e : TypeId) (i : TypeInfo) (ht : P.underlying t = some (.slice e)) (hu : P.underlying u = some .string) (hi : P.info? e = some i) (hz : i.zero = some (.int .u8 0))
    (hsize : i.size = 1) (hby : i.bytes = 1) (v : Value) (n : Nat) (xs : List UInt8) (hown : w.ownsRow base e 1 v n (xs.map enc))
    (s : ByteArray) (h63 : n + s.size ≤ 140737488355328) (hbase : base ≤ w.heap.size) :
    ∃ v' w', (Builtin.append_ #[t, u] ty #[v, .string s]).run P w = .ok v' w' ∧ w'.ownsRow base e 1 v' (n + s.size) ((xs ++ s.data.toList).map enc) ∧ w.grownBy w' v.ownBlock := by
  have hxl : xs.length = n := by simpa using hown.1
  have hdl : s.data.toList.length = s.size := by simp
  have hlen : ((xs ++ s.data.toList).map enc).length = n + s.size := by
    simp only [List.length_map, List.length_append, hxl, hdl]
  have hfc := firstCells_string (P := P) s w
  have hbc : byteCells s = s.data.toList.map enc := rfl
  have hsl : (byteCells s).length = s.size := byteCells_length s
  have hsrc : Src P i.size u (.string s) s.size (byteCells s) w := by rw [hsize]; exact Src.ofString w hu s
  have grown : ∀ (old : Nat) (b : Option Addr), old < n + s.size → (Builtin.firstCells i.size n (.slice b n old)).run P w.drew = .ok (xs.map enc).toArray w.drew → ∀ (row : Option Nat),
      ∃ v' w', (Builtin.append_ #[t, u] ty #[.slice b n old, .string s]).run P w = .ok v' w' ∧ w'.ownsRow base e 1 v' (n + s.size) ((xs ++ s.data.toList).map enc) ∧ w.grownBy w' row := by
    intro old b ho hold row
    have hge := grownCap_ge w (n + s.size) old e
    have hcm : grownCap w (n + s.size) old e ≤ maxLen := grownCap_le_maxLen w (n + s.size) old e (by simp only [maxLen]; omega)
    refine ⟨_, _, run_append_grow_src (P := P) w t u ty e i _ ht hi hz b n old (xs.map enc) hold (.string s) s.size (byteCells s) hsrc ho (by omega) (growslice_fits ho (by rw [hby]; omega)), ⟨by rw [hlen]; simp, .inr ⟨w.heap.size, _, _, rfl, hbase, heap_alloc_new w.drew _, hge, hcm, ?_, ?_⟩⟩, ⟨rfl, rfl, rfl, by simp, fun k hk _ => Below.heap_alloc w.drew _ k hk⟩⟩
    · rw [hbc, ← List.map_append]
      simp only [Array.size_append, List.size_toArray, size_zeroCells, hlen, Nat.mul_one]
      show n + s.size + _ * 1 = _
      omega
    · rw [hbc, ← List.map_append, Array.toList_append, Nat.mul_one]
      rw [show n + s.size = (List.map enc (xs ++ s.data.toList)).toArray.toList.length from hlen.symm]
      exact List.take_left
  rcases hown.2 with ⟨rfl, rfl⟩ | ⟨g, cap, cur, rfl, hbg, hg, hnc, hcm, hcs, htake⟩
  · by_cases hs0 : s.size = 0
    · have hd0 : s.data.toList = [] := List.eq_nil_of_length_eq_zero (by rw [hdl]; exact hs0)
      refine ⟨.slice none 0 0, w, ?_, by rw [hd0, hs0, List.append_nil]; exact hown, ⟨rfl, rfl, rfl, Nat.le_refl _, fun _ _ _ => rfl⟩⟩
      have hfc' : (Builtin.firstCells 1 0 (.string s)).run P w = .ok #[] w := by
        have := hfc
        rw [hs0] at this
        rw [this, hbc, hd0]; rfl
      simp [Builtin.append_, run_underlying ht, run_underlying hu, sizeOf, typeInfo, hi, Builtin.lenOf, hsize, hs0, hfc']
    · obtain rfl : xs = [] := List.eq_nil_of_length_eq_zero hxl
      exact grown 0 none (by omega) (by simp [Builtin.firstCells]) _
  · by_cases hroom : n + s.size ≤ cap
    · have hst := run_storeCells_at P g n e (byteCells s) 0 cur w hg (by rw [hsl]; simp at hcs; omega) (by rw [hbc]; exact encs_one _)
      simp only [Nat.add_zero] at hst
      refine ⟨.slice (some ⟨g, 0, none⟩) (n + s.size) cap, w.setRow g (cur.toList.take n ++ byteCells s ++ cur.toList.drop (n + (byteCells s).length)).toArray, ?_, ⟨by rw [hlen]; simp, .inr ⟨g, cap, _, rfl, hbg, setRow_heap w g cur _ e _ hg, hroom, hcm, ?_, ?_⟩⟩, ⟨rfl, rfl, rfl, by simp, fun k _ hk => setRow_other w g k _ (fun e => hk (by simp [Value.ownBlock, e]))⟩⟩
      · simp [Builtin.append_, run_underlying ht, run_underlying hu, sizeOf, typeInfo, hi, hsize, Builtin.lenOf, hroom, hfc, Addr.add_lit, hst]
      · simp only [List.size_toArray, List.length_append, List.length_take, List.length_drop, Array.length_toList, hsl]
        simp at hcs; omega
      · rw [Nat.mul_one] at htake ⊢
        rw [htake, hbc, ← List.map_append]
        show List.take (n + s.size) (List.map enc (xs ++ s.data.toList) ++ _) = _
        rw [← hlen]
        exact List.take_left
    · have hold := hown.cells (g := g) rfl
      refine grown cap (some ⟨g, 0, none⟩) (by omega) ?_ _
      rw [hsize]
      exact run_firstCells_some (P := P) w.drew 1 n ⟨g, 0, none⟩ n cap (xs.map enc) (by simp [hxl]) hold

theorem wpList_append_str {ops : Array Oper} {rest : List Oper} {o : Oper} {a : Act} {Q : Exit → Act → World → Prop} (hgd : Region.wanted o (yielded ops a.tmps) = true) (sl x : Operand) (t u : TypeId)
    (ho : o.op = .call { callee := .builtin .append, args := #[sl, x], argTypes := #[t, u] })
    (base : Nat) (e : TypeId) (i : TypeInfo) (ht : P.underlying t = some (.slice e)) (hu : P.underlying u = some .string) (hi : P.info? e = some i) (hz : i.zero = some (.int .u8 0)) (hsize : i.size = 1) (hby : i.bytes = 1)
    (v : Value) (n : Nat) (xs : List UInt8) (hs : a.eval sl = v) (hown : w.ownsRow base e 1 v n (xs.map enc)) (s : ByteArray) (hx : a.eval x = .string s)
    (h63 : n + s.size ≤ 140737488355328) (hbase : base ≤ w.heap.size)
    (h : ∀ v' w', w'.ownsRow base e 1 v' (n + s.size) ((xs ++ s.data.toList).map enc) → w.grownBy w' v.ownBlock → wpList P ops Q rest (a.put o.dst v') w') : wpList P ops Q (o :: rest) a w := by
  obtain ⟨v', w', hrun, h2, h3⟩ := run_append_str (P := P) base t u o.type e i ht hu hi hz hsize hby v n xs hown s h63 hbase
  refine BigFrame.wpList_want hgd fun K hK => ?_
  unfold Oper.wp execOp
  simp only [ho, resolve, invoke, builtin, Sem.run_bind, Sem.run_pure, Result.andThen_ok, List.map_toArray, List.map_cons, List.map_nil, hs, hx, hrun]
  exact hK _ _ (h v' w' h2 h3)

/-- 'make([]byte, l, c)'. -/
theorem wpListIn_make_bytes {F : Fence} {n : Nat} {ops : Array Oper} {rest : List Oper} {o : Oper} {a : Act} {Q : Exit → Act → World → Prop}
    (hg : o.guard = none) (l c : Operand) (t : TypeId) (hop : o.op = Op.makeSlice t l c) (base : Nat) (e : TypeId) (i : TypeInfo) (ht : P.underlying t = some (.slice e)) (hi : P.info? e = some i) (hz : i.zero = some (.int .u8 0)) (hsize : i.size = 1) (hby : i.bytes = 1)
    (L C : Nat) (x : Int) (hl : a.eval l = .int .i64 (L : Int)) (hc : a.eval c = .int .i64 x) (hxC : x = (C : Int)) (hLC : L ≤ C) (hC : C ≤ 140737488355328) (hb : base ≤ w.heap.size)
    (hK : ∀ w', w'.ownsRow base e 1 (.slice (some ⟨w.heap.size, 0, none⟩) L C) L ((List.replicate L (0 : UInt8)).map enc) → w.grownBy w' none → wpListIn F n P ops Q rest (a.put o.dst (.slice (some ⟨w.heap.size, 0, none⟩) L C)) w') :
    wpListIn F n P ops Q (o :: rest) a w := by
  subst hxC
  have hr := run_make (P := P) w t e i _ ht hi hz .i64 .i64 (L : Int) (C : Int) (by omega) (by omega) (by rw [hby]; omega) (by omega)
  simp only [Int.toNat_natCast] at hr
  refine wpListIn_plain hg fun K hK' => ?_
  unfold Oper.wpIn
  refine ⟨?_, ?_⟩
  · simp [Oper.about, hop]
  · rw [Oper.semAt_plain F _ _ (by rw [hop]; intro c hc'; cases hc')]
    simp [execOp, hop, hl, hc, hr, Result.andThen]
    refine hK' _ _ (hK _ ⟨by simp, .inr ⟨w.heap.size, C, _, rfl, hb, heap_alloc_new w _, hLC, by simp only [maxLen]; omega, ?_, ?_⟩⟩ (World.grownBy_alloc w _ none))
    · rw [size_madeCells, hsize]
    · rw [hsize, Nat.mul_one, Nat.mul_one]
      show List.take L (madeCells #[Value.int .u8 0] C).toList = _
      rw [toList_madeCells_one]
      simp [List.take_replicate, Nat.min_eq_left hLC]
      right; rfl

/-- 'copy(dst, src)', dst a row of the call's own of the same length. -/
theorem wpListIn_copy_bytes {F : Fence} {n : Nat} {ops : Array Oper} {rest : List Oper} {o : Oper} {a : Act} {Q : Exit → Act → World → Prop}
    (hg : o.guard = none) (d s : Operand) (t : TypeId) (hop : o.op = .call { callee := .builtin .copy, args := #[d, s], argTypes := #[t, t] }) (base : Nat) (e : TypeId) (ht : P.underlying t = some (.slice e)) (hsz : (P.info? e).map (·.size) = some 1)
    (g L C : Nat) (xs : List UInt8) (B : Nat) (A : Option Addr) (c : Nat) (bs : List UInt8) (hd : a.eval d = .slice (some ⟨g, 0, none⟩) L C) (hs : a.eval s = .slice A L c) (hL : L = bs.length)
    (hown : w.ownsRow base e 1 (.slice (some ⟨g, 0, none⟩) L C) L (xs.map enc)) (hsrc : HasA w B A bs)
    (hK : ∀ w', w'.ownsRow base e 1 (.slice (some ⟨g, 0, none⟩) L C) L (bs.map enc) → w.grownBy w' (some g) → wpListIn F n P ops Q rest (a.put o.dst (goInt L)) w') :
    wpListIn F n P ops Q (o :: rest) a w := by
  subst hL
  have hrun : ∃ w', (Builtin.copy_ #[t, t] o.type #[.slice (some ⟨g, 0, none⟩) bs.length C, .slice A bs.length c]).run P w = .ok (goInt bs.length) w' ∧ w'.ownsRow base e 1 (.slice (some ⟨g, 0, none⟩) bs.length C) bs.length (bs.map enc) ∧ w.grownBy w' (some g) := by
    by_cases hb : bs = []
    · subst hb
      have := run_copy_none (P := P) w t t o.type e (some ⟨g, 0, none⟩) A 0 C 0 c ht hsz rfl
      have hx : xs = [] := List.eq_nil_of_length_eq_zero (by simpa using hown.1)
      subst hx
      exact ⟨w, this, hown, ⟨rfl, rfl, rfl, Nat.le_refl _, fun _ _ _ => rfl⟩⟩
    · obtain ⟨b, off, rfl, _, _⟩ := id hsrc hb
      rcases hown.2 with ⟨h, _⟩ | ⟨g', cap, cur, hv, hbg, hgg, hnc, hcm, hcs, htake⟩
      · cases h
      · cases hv
        have hfit : 0 + (bs.map enc).length ≤ cur.size := by simp at hcs ⊢; omega
        have := run_copy_row (P := P) w t t o.type e g 0 bs.length C ⟨b, off, none⟩ bs.length c cur e (bs.map enc) ht hsz hgg (by simp) (hsrc.src rfl) hfit (encs_one bs)
        refine ⟨_, by simpa using this, ⟨by simp, .inr ⟨g, C, _, rfl, hbg, setRow_heap w g cur _ e _ hgg, hnc, hcm, ?_, ?_⟩⟩, ⟨rfl, rfl, rfl, by simp, fun k _ hk => setRow_other w g k _ (fun e => hk (by simp [e]))⟩⟩
        · simp at hcs ⊢; omega
        · simp
  obtain ⟨w', hr, h1, h2⟩ := hrun
  refine wpListIn_plain hg fun K hK' => ?_
  unfold Oper.wpIn
  refine ⟨?_, ?_⟩
  · simp [Oper.about, hop, resolve, Target.leads, Sem.run_pure]
  · rw [Oper.semAt_plain F _ _ (by rw [hop]; intro c hc'; cases hc')]
    simp [execOp, hop, resolve, invoke, builtin, hd, hs, hr, Result.andThen]
    exact hK' _ _ (hK _ h1 h2)
end
end Go.Proofs.Yteiednjhliobeaa
