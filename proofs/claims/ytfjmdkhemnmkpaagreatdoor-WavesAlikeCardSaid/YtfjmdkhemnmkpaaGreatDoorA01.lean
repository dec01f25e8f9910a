/- Parts of the proof: MBaseO. -/
import Derived.Test.YtfjmdkhemnmkpaaGreatDoorProg
import Derived.Test.YtfjmdkhemnmkpaaGreatDoorRows
import Derived.Laws.BitsAllLaws
import Derived.Laws.Bits64
import Derived.Laws.BitsLemmas
import Derived.Below
import Derived.Laws.OwnMore
import Derived.Laws.MakeOwn
import Derived.Laws.CopyRow
import Derived.Laws.IdiomCopy
import Derived.Laws.BytesArg
import Derived.Shelf.Bytes.SlSmallAll
import Derived.Deep.AppendLies
import Derived.Deep.AppendSrc
import Derived.OwnWalk
import Derived.BigFrame
import Derived.OwnWalkIn
import Derived.Maps.AppendAt
import Derived.OrdersIn
import Derived.RangeFuncBox
import Derived.WalkKit
import Derived.Lib.Hide
import Derived.Lib.SliceRun
import Derived.ProofKit
import Derived.Deep.RegionHeld3
import Derived.RangeFuncNested
import Derived.RangeFuncBound
import Derived.RangeFuncCalls
import Derived.RangeFuncLeaves
namespace Go.Proofs.YtfjmdkhemnmkpaaGreatDoor
def enc (b : UInt8) : Value := .int .u8 (b.toNat : Int)
theorem enc_ofNat {n : Nat} (h : n < 256) : enc (UInt8.ofNat n) = .int .u8 (n : Int) := by
  simp [enc, Nat.mod_eq_of_lt h]
end Go.Proofs.YtfjmdkhemnmkpaaGreatDoor
namespace Go.Proofs.YtfjmdkhemnmkpaaGreatDoor
open Go.RowKit
def HasA (w : World) (B : Nat) (A : Option Addr) (bs : List UInt8) : Prop :=
  bs ≠ [] → ∃ b o, A = some ⟨b, o, none⟩ ∧ b < B ∧ ∀ i (h : i < bs.length), w.cell? ⟨b, o + i, none⟩ = some (enc bs[i])
theorem encs_one (bs : List UInt8) : ∀ u ∈ bs.map enc, u.oneCell' = true := by
  intro u hu
  obtain ⟨b, _, rfl⟩ := List.mem_map.1 hu
  rfl
theorem addr_add (b o j : Nat) : (⟨b, o, none⟩ : Addr).add j = ⟨b, o + j, none⟩ := by unfold Addr.add; split <;> simp_all
section
variable {w w' : World} {B B' : Nat} {A : Option Addr} {bs : List UInt8}
theorem HasA.nil (w : World) (B : Nat) (A : Option Addr) : HasA w B A [] := fun h => absurd rfl h
theorem HasA.of_own {base n c : Nat} {e : TypeId} (h : w.ownsRow base e 1 (.slice A n c) n (bs.map enc)) : HasA w w.heap.size A bs := fun hn => by
  have hl : bs.length = n := by have := h.1; simpa using this
  have hp : 0 < n := by rcases bs with _ | ⟨x, r⟩; exact absurd rfl hn; simp at hl; omega
  obtain ⟨g, cap, hv, _, hlt⟩ := h.form hp
  have hA : A = some ⟨g, 0, none⟩ := by injection hv
  subst hA
  refine ⟨g, 0, rfl, hlt, fun i hi => ?_⟩
  have := h.cells (g := g) rfl i (enc bs[i]) (by simp [hi])
  rwa [addr_add] at this
theorem HasA.src (h : HasA w B A bs) {b o : Nat} (hA : A = some ⟨b, o, none⟩) : ∀ j u, (bs.map enc)[j]? = some u → w.cell? ((⟨b, o, none⟩ : Addr).add j) = some u := by
  intro j u hu
  have hj : j < bs.length := by
    rcases Nat.lt_or_ge j bs.length with h | h
    · exact h
    · simp [List.getElem?_eq_none (show bs.length ≤ j from h)] at hu
  obtain ⟨b', o', e, _, hc⟩ := h (by rintro rfl; simp at hj)
  rw [hA] at e; cases e
  rw [addr_add, hc j hj]
  simpa [hj] using hu
end
def str (bs : List UInt8) : ByteArray := ⟨bs.toArray⟩
theorem str_size (a : List UInt8) : (str a).size = a.length := by simp [str, ByteArray.size]
section
variable {P : Program} {w : World}
theorem run_conv {B : Nat} {A : Option Addr} {bs : List UInt8} (h : HasA w B A bs) (c : Nat) {t e d : TypeId} (ht : P.underlying t = some (.slice e)) (he : P.underlying e = some (.int .u8)) (hd : P.underlying d = some .string) {n : Nat} (hn : n = bs.length) :
    (convert t d (.slice A n c)).run P w = .ok (.string (str bs)) w := by
  subst hn
  by_cases hb : bs = []
  · subst hb
    rw [List.length_nil, run_convert_bytes_zero w t e ht he A c d hd]
    rfl
  · obtain ⟨b, o, rfl, _, hc⟩ := h hb
    rw [run_convert_bytes_arg (P := P) w t e ht he b o bs.length c (bs.map fun x => (x.toNat : Int)) (by simp) (fun i hi => by rw [hc i hi]; simp [enc, List.getD, hi]) d hd]
    congr 2
    apply ByteArray.ext
    simp only [strOfNums, str, List.map_map]
    congr 1
    conv => rhs; rw [← List.map_id bs]
    apply List.map_congr_left
    intro x _
    simp
theorem run_append_has (base : Nat) (t ty e : TypeId) (i : TypeInfo) (ht : P.underlying t = some (.slice e)) (hi : P.info? e = some i) (hz : i.zero = some (.int .u8 0))
    (hsize : i.size = 1) (hby : i.bytes = 1) (v : Value) (n : Nat) (xs : List UInt8) (hown : w.ownsRow base e 1 v n (xs.map enc))
    (B : Nat) (A : Option Addr) (m c : Nat) (bs : List UInt8) (hm : m = bs.length) (h : HasA w B A bs) (h63 : n + m ≤ 140737488355328) (hbase : base ≤ w.heap.size) :
    ∃ v' w', (Builtin.append_ #[t, t] ty #[v, .slice A m c]).run P w = .ok v' w' ∧ w'.ownsRow base e 1 v' (n + m) ((xs ++ bs).map enc) ∧ w.grownBy w' v.ownBlock := by
  subst hm
  by_cases hb : bs = []
  · subst hb
    refine ⟨v, w, ?_, by simpa using hown, ⟨rfl, rfl, rfl, Nat.le_refl _, fun _ _ _ => rfl⟩⟩
    have hfc : (Builtin.firstCells 1 0 (.slice A 0 c)).run P w = .ok #[] w := by
      cases A <;> simp [Builtin.firstCells, loadCells, loadCellsFrom]
    rcases hown.2 with ⟨rfl, rfl⟩ | ⟨g, cap, cur, rfl, _, _, hnc, _⟩
    · simp [Builtin.append_, run_underlying ht, sizeOf, typeInfo, hi, Builtin.lenOf, hsize, hfc]
    · simp [Builtin.append_, run_underlying ht, sizeOf, typeInfo, hi, Builtin.lenOf, hsize, hfc, hnc, storeCells]
  · obtain ⟨b, o, rfl, _, _⟩ := id h hb
    obtain ⟨v', w', hr, h1, h2, _⟩ := run_append_own (P := P) w base t ty e i _ 1 1 ht hi hz hsize hby rfl (by omega) v n _ hown ⟨b, o, none⟩ bs.length c (bs.map enc) (by simp) (h.src rfl) (encs_one bs) (by simp only [maxLen]; omega) (by omega) hbase
    exact ⟨v', w', hr, by simpa using h1, h2⟩
theorem wpList_append_has {ops : Array Oper} {rest : List Oper} {o : Oper} {a : Act} {Q : Exit → Act → World → Prop} (hgd : Region.wanted o (yielded ops a.tmps) = true) (s x : Operand) (t : TypeId)
    (ho : o.op = .call { callee := .builtin .append, args := #[s, x], argTypes := #[t, t] })
    (base : Nat) (e : TypeId) (i : TypeInfo) (ht : P.underlying t = some (.slice e)) (hi : P.info? e = some i) (hz : i.zero = some (.int .u8 0)) (hsize : i.size = 1) (hby : i.bytes = 1)
    (v : Value) (n : Nat) (xs : List UInt8) (hs : a.eval s = v) (hown : w.ownsRow base e 1 v n (xs.map enc))
    (B : Nat) (A : Option Addr) (m c : Nat) (bs : List UInt8) (hx : a.eval x = .slice A m c) (hm : m = bs.length) (hr : HasA w B A bs)
    (h63 : n + m ≤ 140737488355328) (hbase : base ≤ w.heap.size)
    (h : ∀ v' w', w'.ownsRow base e 1 v' (n + m) ((xs ++ bs).map enc) → w.grownBy w' v.ownBlock → wpList P ops Q rest (a.put o.dst v') w') : wpList P ops Q (o :: rest) a w := by
  obtain ⟨v', w', hrun, h2, h3⟩ := run_append_has (P := P) base t o.type e i ht hi hz hsize hby v n xs hown B A m c bs hm hr h63 hbase
  refine BigFrame.wpList_want hgd fun K hK => ?_
  unfold Oper.wp execOp
  simp only [ho, resolve, invoke, builtin, Sem.run_bind, Sem.run_pure, Result.andThen_ok, List.map_toArray, List.map_cons, List.map_nil, hs, hx, hrun]
  exact hK _ _ (h v' w' h2 h3)
theorem run_append_str (base : Nat) (t u ty e : TypeId) (i : TypeInfo) (ht : P.underlying t = some (.slice e)) (hu : P.underlying u = some .string) (hi : P.info? e = some i) (hz : i.zero = some (.int .u8 0))
    (hsize : i.size = 1) (hby : i.bytes = 1) (v : Value) (n : Nat) (xs : List UInt8) (hown : w.ownsRow base e 1 v n (xs.map enc))
    (s : ByteArray) (h63 : n + s.size ≤ 140737488355328) (hbase : base ≤ w.heap.size) :
    ∃ v' w', (Builtin.append_ #[t, u] ty #[v, .string s]).run P w = .ok v' w' ∧ w'.ownsRow base e 1 v' (n + s.size) ((xs ++ s.data.toList).map enc) ∧ w.grownBy w' v.ownBlock := by
  have hxl : xs.length = n := by simpa using hown.1
  have hdl : s.data.toList.length = s.size := by simp
  have hlen : ((xs ++ s.data.toList).map enc).length = n + s.size := by
    simp only [List.length_map, List.length_append, hxl, hdl]
  have hfc := firstCells_string (P := P) s w
  have hbc : byteCells s = s.data.toList.map enc := rfl
  have hsl : (byteCells s).length = s.size := byteCells_length s
  have hsrc : Src P i.size u (.string s) s.size (byteCells s) w := by rw [hsize]; exact Src.ofString w hu s
  have grown : ∀ (old : Nat) (b : Option Addr), old < n + s.size → (Builtin.firstCells i.size n (.slice b n old)).run P w.drew = .ok (xs.map enc).toArray w.drew → ∀ (row : Option Nat),
      ∃ v' w', (Builtin.append_ #[t, u] ty #[.slice b n old, .string s]).run P w = .ok v' w' ∧ w'.ownsRow base e 1 v' (n + s.size) ((xs ++ s.data.toList).map enc) ∧ w.grownBy w' row := by
    intro old b ho hold row
    have hge := grownCap_ge w (n + s.size) old e
    have hcm : grownCap w (n + s.size) old e ≤ maxLen := grownCap_le_maxLen w (n + s.size) old e (by simp only [maxLen]; omega)
    refine ⟨_, _, run_append_grow_src (P := P) w t u ty e i _ ht hi hz b n old (xs.map enc) hold (.string s) s.size (byteCells s) hsrc ho (by omega) (growslice_fits ho (by rw [hby]; omega)), ⟨by rw [hlen]; simp, .inr ⟨w.heap.size, _, _, rfl, hbase, heap_alloc_new w.drew _, hge, hcm, ?_, ?_⟩⟩, ⟨rfl, rfl, rfl, by simp, fun k hk _ => Below.heap_alloc w.drew _ k hk⟩⟩
    · rw [hbc, ← List.map_append]
      simp only [Array.size_append, List.size_toArray, size_zeroCells, hlen, Nat.mul_one]
      show n + s.size + _ * 1 = _
      omega
    · rw [hbc, ← List.map_append, Array.toList_append, Nat.mul_one]
      rw [show n + s.size = (List.map enc (xs ++ s.data.toList)).toArray.toList.length from hlen.symm]
      exact List.take_left
  rcases hown.2 with ⟨rfl, rfl⟩ | ⟨g, cap, cur, rfl, hbg, hg, hnc, hcm, hcs, htake⟩
  · by_cases hs0 : s.size = 0
    · have hd0 : s.data.toList = [] := List.eq_nil_of_length_eq_zero (by rw [hdl]; exact hs0)
      refine ⟨.slice none 0 0, w, ?_, by rw [hd0, hs0, List.append_nil]; exact hown, ⟨rfl, rfl, rfl, Nat.le_refl _, fun _ _ _ => rfl⟩⟩
      have hfc' : (Builtin.firstCells 1 0 (.string s)).run P w = .ok #[] w := by
        have := hfc
        rw [hs0] at this
        rw [this, hbc, hd0]; rfl
      simp [Builtin.append_, run_underlying ht, run_underlying hu, sizeOf, typeInfo, hi, Builtin.lenOf, hsize, hs0, hfc']
    · obtain rfl : xs = [] := List.eq_nil_of_length_eq_zero hxl
      exact grown 0 none (by omega) (by simp [Builtin.firstCells]) _
  · by_cases hroom : n + s.size ≤ cap
    · have hst := run_storeCells_at P g n e (byteCells s) 0 cur w hg (by rw [hsl]; simp at hcs; omega) (by rw [hbc]; exact encs_one _)
      simp only [Nat.add_zero] at hst
      refine ⟨.slice (some ⟨g, 0, none⟩) (n + s.size) cap, w.setRow g (cur.toList.take n ++ byteCells s ++ cur.toList.drop (n + (byteCells s).length)).toArray, ?_, ⟨by rw [hlen]; simp, .inr ⟨g, cap, _, rfl, hbg, setRow_heap w g cur _ e _ hg, hroom, hcm, ?_, ?_⟩⟩, ⟨rfl, rfl, rfl, by simp, fun k _ hk => setRow_other w g k _ (fun e => hk (by simp [Value.ownBlock, e]))⟩⟩
      · simp [Builtin.append_, run_underlying ht, run_underlying hu, sizeOf, typeInfo, hi, hsize, Builtin.lenOf, hroom, hfc, Addr.add_lit, hst]
      · simp only [List.size_toArray, List.length_append, List.length_take, List.length_drop, Array.length_toList, hsl]
        simp at hcs; omega
      · rw [Nat.mul_one] at htake ⊢
        rw [htake, hbc, ← List.map_append]
        show List.take (n + s.size) (List.map enc (xs ++ s.data.toList) ++ _) = _
        rw [← hlen]
        exact List.take_left
    · have hold := hown.cells (g := g) rfl
      refine grown cap (some ⟨g, 0, none⟩) (by omega) ?_ _
      rw [hsize]
      exact run_firstCells_some (P := P) w.drew 1 n ⟨g, 0, none⟩ n cap (xs.map enc) (by simp [hxl]) hold
theorem wpList_append_str {ops : Array Oper} {rest : List Oper} {o : Oper} {a : Act} {Q : Exit → Act → World → Prop} (hgd : Region.wanted o (yielded ops a.tmps) = true) (sl x : Operand) (t u : TypeId)
    (ho : o.op = .call { callee := .builtin .append, args := #[sl, x], argTypes := #[t, u] })
    (base : Nat) (e : TypeId) (i : TypeInfo) (ht : P.underlying t = some (.slice e)) (hu : P.underlying u = some .string) (hi : P.info? e = some i) (hz : i.zero = some (.int .u8 0)) (hsize : i.size = 1) (hby : i.bytes = 1)
    (v : Value) (n : Nat) (xs : List UInt8) (hs : a.eval sl = v) (hown : w.ownsRow base e 1 v n (xs.map enc)) (s : ByteArray) (hx : a.eval x = .string s)
    (h63 : n + s.size ≤ 140737488355328) (hbase : base ≤ w.heap.size)
    (h : ∀ v' w', w'.ownsRow base e 1 v' (n + s.size) ((xs ++ s.data.toList).map enc) → w.grownBy w' v.ownBlock → wpList P ops Q rest (a.put o.dst v') w') : wpList P ops Q (o :: rest) a w := by
  obtain ⟨v', w', hrun, h2, h3⟩ := run_append_str (P := P) base t u o.type e i ht hu hi hz hsize hby v n xs hown s h63 hbase
  refine BigFrame.wpList_want hgd fun K hK => ?_
  unfold Oper.wp execOp
  simp only [ho, resolve, invoke, builtin, Sem.run_bind, Sem.run_pure, Result.andThen_ok, List.map_toArray, List.map_cons, List.map_nil, hs, hx, hrun]
  exact hK _ _ (h v' w' h2 h3)
end
end Go.Proofs.YtfjmdkhemnmkpaaGreatDoor
namespace Go.Proofs.YtfjmdkhemnmkpaaGreatDoor
open Go.RowKit
def backwards (ops : List Oper) : Bool := ops.zipIdx.all fun (o, i) => o.after.all fun e => !(Region.binds .any e) || decide (e.on < i)
theorem backwards_spec {ops : List Oper} (h : backwards ops = true) {i : Nat} {o : Oper} (ho : ops.toArray[i]? = some o) {e : Edge} (he : e ∈ o.after) (hbd : Region.binds .any e = true) : e.on < i := by
  unfold backwards at h
  rw [List.all_eq_true] at h
  have hm : (o, i) ∈ ops.zipIdx := by
    rw [List.mem_zipIdx_iff_getElem?]
    simpa using ho
  have := h _ hm
  simp only [Array.all_eq_true_iff_forall_mem] at this
  simpa [hbd] using this e he
section
variable {F : Fence} {n : Nat} {P : Program} {Q : Exit → Act → World → Prop} {ops : List Oper}
def lst (listed : Array Bool) (j : Nat) : Bool := listed.getD j false
theorem lst_set {listed : Array Bool} {i : Nat} (hi : i < listed.size) (j : Nat) : lst (listed.setIfInBounds i true) j = (lst listed j || j == i) := by
  unfold lst
  by_cases h : j = i
  · subst h; simp [hi]
  · simp [Ne.symm h, h]
theorem wpAnyIn_by (hb : backwards ops = true) (Inv : (Nat → Bool) → Act → World → Prop)
    (hstep : ∀ L a w i o, Inv L a w → ops.toArray[i]? = some o → L i = false → (∀ e ∈ o.after, Region.binds .any e = true → L e.on = true) →
      (∀ j o' e, ops.toArray[j]? = some o' → L j = true → e ∈ o'.after → Region.binds .any e = true → L e.on = true) →
      wpOpIn F n P ops.toArray Q i (fun a' w' => Inv (fun j => L j || j == i) a' w') a w)
    (hdone : ∀ L a w, Inv L a w → (∀ j, j < ops.length → L j = true) → Q .normal a w) :
    ∀ (fuel : Nat) (listed : Array Bool) (a : Act) (w : World), listed.size = ops.length → (listed.toList.countP (!·)) ≤ fuel →
      (∀ j o' e, ops.toArray[j]? = some o' → lst listed j = true → e ∈ o'.after → Region.binds .any e = true → lst listed e.on = true) →
      Inv (lst listed) a w → wpAnyIn F n P .any ops.toArray Q fuel listed a w := by
  have hall : ∀ listed : Array Bool, listed.size = ops.length → Region.ready .any ops.toArray listed = [] → ∀ j, j < ops.length → lst listed j = true := by
    intro listed hs hr j
    induction j using Nat.strongRecOn with
    | ind j ih =>
      intro hj
      refine Classical.byContradiction fun hn => ?_
      have hmem : j ∈ Region.ready .any ops.toArray listed := by
        rw [mem_ready]
        obtain ⟨o, ho⟩ : ∃ o, ops.toArray[j]? = some o := ⟨ops[j], by simp [hj]⟩
        refine ⟨?_, o, ho, ?_⟩
        · have : listed.getD j true = listed.getD j false := by simp [Array.getD, hs, hj]
          rw [this]; simpa [lst] using hn
        · intro e he hbd
          have hlt := backwards_spec hb ho he hbd
          exact ih e.on hlt (by omega)
      rw [hr] at hmem
      cases hmem
  intro fuel
  induction fuel with
  | zero =>
    intro listed a w hs hc hcl hi
    have hlist : ∀ j, j < ops.length → lst listed j = true := by
      intro j hj
      have h0 : listed.toList.countP (!·) = 0 := by omega
      rw [List.countP_eq_zero] at h0
      have hm : listed[j]'(by omega) ∈ listed.toList := by simp
      have := h0 _ hm
      simp [lst, Array.getD, hs, hj] at this ⊢
      exact this
    refine ⟨?_, hdone _ a w hi hlist⟩
    apply List.eq_nil_iff_forall_not_mem.2
    intro j hj
    rw [mem_ready] at hj
    obtain ⟨hl, o, ho, _⟩ := hj
    have hj' : j < ops.length := by
      have := (Array.getElem?_eq_some_iff.1 ho).1
      simpa using this
    have := hlist j hj'
    simp [lst, Array.getD, hs, hj'] at this hl
    rw [this] at hl; cases hl
  | succ fuel ih =>
    intro listed a w hs hc hcl hi
    refine ⟨fun hr => hdone _ a w hi (hall listed hs hr), fun i hmem => ?_⟩
    rw [mem_ready] at hmem
    obtain ⟨hl, o, ho, hp⟩ := hmem
    have hi' : i < ops.length := by
      have := (Array.getElem?_eq_some_iff.1 ho).1
      simpa using this
    have hli : lst listed i = false := by
      have : listed.getD i true = listed.getD i false := by simp [Array.getD, hs, hi']
      unfold lst; rw [← this]; exact hl
    have hpre : ∀ e ∈ o.after, Region.binds .any e = true → lst listed e.on = true := fun e he hbd => hp e he hbd
    refine wpOpIn_mono (fun a' w' h => ?_) (hstep (lst listed) a w i o hi ho hli hpre hcl)
    have heq : (fun j => lst listed j || j == i) = lst (listed.setIfInBounds i true) := by
      funext j; rw [lst_set (by omega)]
    refine ih _ a' w' (by simpa using hs) ?_ ?_ (heq ▸ h)
    · have hset : (listed.setIfInBounds i true).toList = listed.toList.set i true := by simp
      rw [hset]
      have hget : listed.toList[i]'(by simp; omega) = false := by
        have := hli
        simp [lst, Array.getD, hs, hi'] at this
        simpa using this
      have := List.countP_set (p := fun b : Bool => !b) (l := listed.toList) (i := i) (a := true) (by simp; omega)
      rw [this, hget]
      show List.countP _ _ - 1 + 0 ≤ fuel
      omega
    · intro j o' e hj hlj he hbd
      rw [lst_set (by omega)] at hlj ⊢
      rcases Bool.or_eq_true _ _ ▸ hlj with h | h
      · rw [hcl j o' e hj h he hbd]; rfl
      · have : j = i := by simpa using h
        subst this
        rw [ho] at hj; cases hj
        rw [hpre e he hbd]; rfl
theorem wpIn_region_by {id : Nat} {a : Act} {w : World} (hm : P.follows .mixedOrders = true) (hb : backwards ops = true) (Inv : (Nat → Bool) → Act → World → Prop)
    (h0 : Inv (fun _ => false) a w.drew)
    (hstep : ∀ L a w i o, Inv L a w → ops.toArray[i]? = some o → L i = false → (∀ e ∈ o.after, Region.binds .any e = true → L e.on = true) →
      (∀ j o' e, ops.toArray[j]? = some o' → L j = true → e ∈ o'.after → Region.binds .any e = true → L e.on = true) →
      wpOpIn F n P ops.toArray Q i (fun a' w' => Inv (fun j => L j || j == i) a' w') a w)
    (hdone : ∀ L a w, Inv L a w → (∀ j, j < ops.length → L j = true) → Q .normal a w) :
    (Code.region id ops.toArray true).wpIn F n P Q a w := by
  have hl : lst (Array.replicate ops.toArray.size false) = fun _ => false := by
    funext j
    simp [lst, Array.getD]
  refine wpIn_region_any hm (wpAnyIn_by hb Inv hstep hdone _ _ a _ (by simp) ?_ ?_ ?_)
  · rw [Array.toList_replicate]; exact Nat.le_trans (List.countP_le_length) (by simp)
  · intro j o' e hj hlj
    rw [hl] at hlj; cases hlj
  · rw [hl]; exact h0
theorem step_run {ops : Array Oper} {i : Nat} {o : Oper} {a : Act} {w w' : World} {v : Value} {K : Act → World → Prop} (hi : ops[i]? = some o) (hw : Region.wanted o (yielded ops a.tmps) = true)
    (hnd : ∀ c, o.op ≠ .defer c) (hab : o.about P w a.eval = none) (hrun : (execOp a.eval o).run P w = .ok (.value v) w') (h : K (a.put o.dst v) w') : wpOpIn F n P ops Q i K a w := by
  unfold wpOpIn
  simp only [hi, hw, if_true]
  refine ⟨fun f hf => absurd (hab.symm.trans hf) (by simp), ?_⟩
  rw [Oper.semAt_plain F _ _ hnd, hrun]
  exact h
theorem step_skip {ops : Array Oper} {i : Nat} {o : Oper} {a : Act} {w w' : World} {K : Act → World → Prop} (hi : ops[i]? = some o) (hw : Region.wanted o (yielded ops a.tmps) = true)
    (hnd : ∀ c, o.op ≠ .defer c) (hab : o.about P w a.eval = none) (hrun : (execOp a.eval o).run P w = .ok .skip w') (h : K (a.put o.dst undef) w') : wpOpIn F n P ops Q i K a w := by
  unfold wpOpIn
  simp only [hi, hw, if_true]
  refine ⟨fun f hf => absurd (hab.symm.trans hf) (by simp), ?_⟩
  rw [Oper.semAt_plain F _ _ hnd, hrun]
  exact h
theorem step_call {ops : Array Oper} {i : Nat} {o : Oper} {a : Act} {w : World} {K : Act → World → Prop} {f : FuncId} {xs : Array Operand} {ts : Array TypeId} (hi : ops[i]? = some o) (hw : Region.wanted o (yielded ops a.tmps) = true)
    (ho : o.op = .call { callee := .value (.func f), args := xs, argTypes := ts }) (hF : F.fn f) (hd : F.depth.isSome = true → 1 ≤ n) (eg : ∀ args w, (callFunc f args).run P w = .ok (.enter f args) w)
    (hc : CallsIn F (n - 1) P f (xs.map a.eval) w fun e w' => ∃ v, e = .returned v ∧ K (a.put o.dst v) w') : wpOpIn F n P ops Q i K a w := by
  unfold wpOpIn
  simp only [hi, hw, if_true]
  have hres : (resolve a.eval { callee := .value (.func f), args := xs, argTypes := ts } o.type).run P w = .ok { target := .fn (.func f) #[], args := xs.map a.eval } w := by
    simp [resolve, Act.eval, Deferred.ofValue]
  refine ⟨fun g hg => ?_, ?_⟩
  · simp [Oper.about, ho, hres, Target.leads] at hg
    subst hg; exact hF
  · rw [Oper.semAt_plain F _ _ (by rw [ho]; intro c hc'; cases hc')]
    have hex : (execOp a.eval o).run P w = .ok (.enter f (xs.map a.eval)) w := by
      simp [execOp, ho, hres, invoke, eg]
    rw [hex]
    refine ⟨hd, hc.mono ?_⟩
    rintro e w' ⟨v, rfl, h⟩
    exact h
def slotsOk (N : Nat) (ops : List Oper) : Bool :=
  ops.all (fun o => match o.dst with | some d => decide (d < N) | none => false) && decide ((ops.map (·.dst)).Nodup)
def hasEdge (o : Oper) (j : Nat) : Bool := o.after.toList.any fun e => e.on == j && Region.binds .any e
theorem getD_put_same {a : Act} {d : Nat} {v : Value} (h : d < a.tmps.size) : (a.put (some d) v).tmps.getD d undef = v := by
  simp [Act.put, Array.getD, h]
theorem getD_put_ne {a : Act} {d s : Nat} {v : Value} (h : s ≠ d) : (a.put (some d) v).tmps.getD s undef = a.tmps.getD s undef := by
  simp [Act.put, Array.getD_eq_getD_getElem?, Ne.symm h]
theorem size_put {a : Act} {d : Option Nat} {v : Value} : (a.put d v).tmps.size = a.tmps.size := by
  cases d <;> simp [Act.put]
theorem defers_put {a : Act} {d : Option Nat} {v : Value} : (a.put d v).defers = a.defers := by
  cases d <;> rfl
structure Frm (ops : List Oper) (a a' : Act) : Prop where
  size : a'.tmps.size = a.tmps.size
  defers : a'.defers = a.defers
  old : ∀ s, (∀ o ∈ ops, o.dst ≠ some s) → a'.tmps.getD s undef = a.tmps.getD s undef
theorem wpIn_region_vals {id : Nat} {a : Act} {w : World} (N : Nat) (hN : a.tmps.size = N) (hm : P.follows .mixedOrders = true) (hb : backwards ops = true) (hs : slotsOk N ops = true)
    (Rl : World → World → Prop) (hr : ∀ w, Rl w w) (ht : ∀ {x y z}, Rl x y → Rl y z → Rl x z)
    (ψ : Nat → Value → World → Prop) (hψ : ∀ i v w w', ψ i v w → Rl w w' → ψ i v w')
    (hstep : ∀ i o d, ops.toArray[i]? = some o → o.dst = some d → ∀ a' w', Frm ops a a' → Rl w.drew w' →
      (∀ j o' d', hasEdge o j = true → ops.toArray[j]? = some o' → o'.dst = some d' → ψ j (a'.tmps.getD d' undef) w') →
      wpOpIn F n P ops.toArray Q i (fun a'' w'' => ∃ v, a'' = a'.put (some d) v ∧ ψ i v w'' ∧ Rl w' w'') a' w')
    (hdone : ∀ a' w', Frm ops a a' → Rl w.drew w' → (∀ j o' d', ops.toArray[j]? = some o' → o'.dst = some d' → ψ j (a'.tmps.getD d' undef) w') → Q .normal a' w') :
    (Code.region id ops.toArray true).wpIn F n P Q a w := by
  have hall : ∀ (i : Nat) (o : Oper), ops.toArray[i]? = some o → ∃ d, o.dst = some d ∧ d < N := by
    intro i o ho
    have h1 := (Bool.and_eq_true _ _ ▸ hs).1
    rw [List.all_eq_true] at h1
    have hmem : o ∈ ops := by simpa using List.mem_of_getElem? (by simpa using ho)
    have := h1 o hmem
    cases hd : o.dst with
    | none => rw [hd] at this; cases this
    | some d => rw [hd] at this; exact ⟨d, rfl, by simpa using this⟩
  have hinj : ∀ (i j : Nat) (o o' : Oper) (d : Nat), ops.toArray[i]? = some o → ops.toArray[j]? = some o' → o.dst = some d → o'.dst = some d → i = j := by
    intro i j o o' d hi hj hd hd'
    have h1 := (Bool.and_eq_true _ _ ▸ hs).2
    have hnd : (ops.map (·.dst)).Nodup := by simpa using h1
    have hi' : (ops.map (·.dst))[i]? = some (some d) := by simp at hi; simp [hi, hd]
    have hj' : (ops.map (·.dst))[j]? = some (some d) := by simp at hj; simp [hj, hd']
    have hlt : i < (ops.map (·.dst)).length := by
      rcases Nat.lt_or_ge i (ops.map (·.dst)).length with h | h
      · exact h
      · rw [List.getElem?_eq_none h] at hi'; cases hi'
    exact (List.getElem?_inj hlt hnd).1 (hi'.trans hj'.symm)
  refine wpIn_region_by hm hb (fun L a' w' => Frm ops a a' ∧ Rl w.drew w' ∧ ∀ j o' d', L j = true → ops.toArray[j]? = some o' → o'.dst = some d' → ψ j (a'.tmps.getD d' undef) w')
    ⟨⟨rfl, rfl, fun _ _ => rfl⟩, hr _, fun _ _ _ h => by cases h⟩ ?_ ?_
  · rintro L a' w' i o ⟨hF, hR, hL⟩ hi hli hpre hcl
    obtain ⟨d, hd, hdN⟩ := hall i o hi
    refine wpOpIn_mono ?_ (hstep i o d hi hd a' w' hF hR (fun j o' d' he hj hd' => hL j o' d' ?_ hj hd'))
    · rintro a'' w'' ⟨v, rfl, hv, hR'⟩
      refine ⟨⟨size_put.trans hF.size, defers_put.trans hF.defers, fun s hs' => ?_⟩, ht hR hR', fun j o' d' hj ho' hd' => ?_⟩
      · have hmem : o ∈ ops := by simpa using List.mem_of_getElem? (by simpa using hi)
        rw [getD_put_ne (fun e => hs' o hmem (by rw [hd, e]))]
        exact hF.old s hs'
      · by_cases hji : j = i
        · subst hji
          rw [hi] at ho'; cases ho'
          rw [hd] at hd'; cases hd'
          rw [getD_put_same (by rw [hF.size, hN]; exact hdN)]
          exact hv
        · have hne : d' ≠ d := fun e => hji (by subst e; exact hinj j i o' o d' ho' hi hd' hd)
          rw [getD_put_ne hne]
          have hlj : L j = true := by simpa [hji] using hj
          exact hψ j _ _ _ (hL j o' d' hlj ho' hd') hR'
    · unfold hasEdge at he
      rw [List.any_eq_true] at he
      obtain ⟨e, hem, he'⟩ := he
      have h1 : e.on = j ∧ Region.binds .any e = true := by simpa using he'
      rw [← h1.1]
      exact hpre e (by simpa using hem) h1.2
  · rintro L a' w' ⟨hF, hR, hL⟩ hl
    refine hdone a' w' hF hR (fun j o' d' hj hd' => hL j o' d' (hl j ?_) hj hd')
    have := (Array.getElem?_eq_some_iff.1 hj).1
    simpa using this
end
end Go.Proofs.YtfjmdkhemnmkpaaGreatDoor
namespace Go.Proofs.YtfjmdkhemnmkpaaGreatDoor
open Go.RowKit Go.ChangeShapes Go.WideShapes Go.ChangeAt Go.ChangeMaps
theorem info5 : (Tryz.prog.info? 5).map (fun i => (i.zero, i.size, i.bytes)) = some (some (.int .u8 0), 1, 1) := by kernel_rfl
theorem own_len {w : World} {base n : Nat} {e : TypeId} {v : Value} {xs : List UInt8} (h : w.ownsRow base e 1 v n (xs.map enc)) : n = xs.length := by
  have := h.1; simp at this; omega
theorem blk_cell {w : World} {R : Nat} {cs : Array Value} {t : TypeId} (h : w.heap[R]? = some (.cells cs t (0, 0))) (i : Nat) : w.cell? ⟨R, i, none⟩ = cs[i]? := cell_of_row w R i cs t (0, 0) h
theorem blk_frozen {w : World} {R : Nat} {cs : Array Value} {t : TypeId} (h : w.heap[R]? = some (.cells cs t (0, 0))) (i : Nat) : w.frozen? ⟨R, i, none⟩ = false := by simp [World.frozen?, h]
theorem blk_set {w : World} {R : Nat} {cs : Array Value} {t : TypeId} (h : w.heap[R]? = some (.cells cs t (0, 0))) (i : Nat) (u : Value) : (w.setCell ⟨R, i, none⟩ u).heap[R]? = some (.cells (cs.setIfInBounds i u) t (0, 0)) := by
  simp [World.setCell, Array.getElem?_modify, h]
theorem grownBy_of_below {a b : World} {r : Option Nat} (h : Below a.heap.size a b) : a.grownBy b r := ⟨h.os, h.tape, h.output, h.size, fun k hk _ => h.block k hk⟩
theorem follows : Tryz.prog.follows .mixedOrders = true := by kernel_rfl
def Grew (w w' : World) : Prop := Below w.heap.size w w'
theorem Grew.refl (w : World) : Grew w w := Below.refl _ _
theorem Grew.trans {x y z : World} (h : Grew x y) (k : Grew y z) : Grew x z := Below.trans h (Below.mono k (Below.size h))
theorem Grew.undraw {w w' : World} (h : Grew w.drew w') : Grew w w' := by
  have k : Below w.drew.heap.size w.drew w' := h
  exact ⟨k.os, k.tape, k.output, k.size, k.block⟩
def IsB (w : World) (v : Value) (X : List UInt8) : Prop := ∃ A L c, v = .slice A L c ∧ L = X.length ∧ HasA w w.heap.size A X
theorem IsB.own {w : World} {base n : Nat} {v : Value} {X : List UInt8} (h : w.ownsRow base 5 1 v n (X.map enc)) : IsB w v X := by
  rcases h.2 with ⟨rfl, h0⟩ | ⟨g, cap, cur, rfl, _⟩
  · subst h0
    exact ⟨none, 0, 0, rfl, own_len h, HasA.of_own h⟩
  · exact ⟨_, n, cap, rfl, own_len h, HasA.of_own h⟩
theorem Frm.at {ops : List Oper} {a a' : Act} (h : Frm ops a a') (s : Nat) {v : Value} (hs : (ops.all fun o => !(o.dst == some s)) = true) (hv : a.tmps.getD s undef = v) : a'.tmps.getD s undef = v := by
  rw [← hv]
  refine h.old s fun o ho e => ?_
  rw [List.all_eq_true] at hs
  have := hs o ho
  simp [e] at this
theorem getD_some {tmps : Array Value} {d : Nat} {b : Bool} (h : tmps.getD d undef = .bool b) : tmps[d]? = some (.bool b) := by
  rw [Array.getD_eq_getD_getElem?] at h
  cases hx : tmps[d]? with
  | none => rw [hx] at h; cases h
  | some x => rw [hx] at h; simp at h; rw [h]
theorem wanted_on {ops : Array Oper} {o og : Oper} {a : Act} {g d : Nat} {b : Bool} (hg : o.guard = some (g, b)) (hog : ops[g]? = some og) (hd : og.dst = some d) (h : a.tmps.getD d undef = .bool b) : Region.wanted o (yielded ops a.tmps) = true := by
  simp [Region.wanted, hg, yielded, hog, hd, getD_some h]
section
variable {n : Nat} {Q : Exit → Act → World → Prop} {ops : Array Oper} {i : Nat} {o : Oper} {a : Act} {w : World} {K : Act → World → Prop}
theorem step_move {x : Operand} {v : Value} (hi : ops[i]? = some o) (hw : Region.wanted o (yielded ops a.tmps) = true) (ho : o.op = .move x) (hx : a.eval x = v) (h : K (a.put o.dst v) w) : wpOpIn Fence.wide n Tryz.prog ops Q i K a w :=
  step_run hi hw (by rw [ho]; intro c h; cases h) (by simp [Oper.about, ho]) (by simp [execOp, ho, hx]) h
theorem step_assign {x : Operand} {v : Value} (hi : ops[i]? = some o) (hw : Region.wanted o (yielded ops a.tmps) = true) (ho : o.op = .assign x) (hx : a.eval x = v) (h : K (a.put o.dst v) w) : wpOpIn Fence.wide n Tryz.prog ops Q i K a w :=
  step_run hi hw (by rw [ho]; intro c h; cases h) (by simp [Oper.about, ho]) (by simp [execOp, ho, hx]) h
theorem step_pick {x y z : Operand} {b : Bool} {v : Value} (hi : ops[i]? = some o) (hw : Region.wanted o (yielded ops a.tmps) = true) (ho : o.op = .pick x y z) (hx : a.eval x = .bool b) (hv : (if b then a.eval y else a.eval z) = v) (h : K (a.put o.dst v) w) : wpOpIn Fence.wide n Tryz.prog ops Q i K a w :=
  step_run hi hw (by rw [ho]; intro c h; cases h) (by simp [Oper.about, ho]) (by cases b <;> simp_all [execOp, asBool]) h
theorem step_bin {op : BinOp} {t u : TypeId} {x y : Operand} {vx vy v : Value} (hi : ops[i]? = some o) (hw : Region.wanted o (yielded ops a.tmps) = true) (ho : o.op = .binOp op t x y u) (hx : a.eval x = vx) (hy : a.eval y = vy)
    (hg : (eqGuard op t x y vx vy).run Tryz.prog w = .ok () w) (hr : (binOp op t vx vy).run Tryz.prog w = .ok v w) (h : K (a.put o.dst v) w) : wpOpIn Fence.wide n Tryz.prog ops Q i K a w :=
  step_run hi hw (by rw [ho]; intro c h; cases h) (by simp [Oper.about, ho]) (by simp [execOp, ho, hx, hy, hg, hr]) h
end
theorem guard_int (op : BinOp) (t : TypeId) (w : World) (x y : Operand) (k k' : IntKind) (s u : Int) : (eqGuard op t x y (.int k s) (.int k' u)).run Tryz.prog w = .ok () w := by
  cases op <;> simp [eqGuard]
theorem guard_bool (op : BinOp) (t : TypeId) (w : World) (x y : Operand) (s u : Bool) : (eqGuard op t x y (.bool s) (.bool u)).run Tryz.prog w = .ok () w := by
  cases op <;> simp [eqGuard]
theorem ownKnob_none : ownKnob Tryz.prog.godebug = none := by kernel_rfl
theorem laid_out : laidOutB Tryz.prog = true := by kernel_rfl
theorem cells5 : Tryz.prog.cellsOf 5 = 1 := by kernel_rfl
section
variable {H : Type} {enc : TypeId × Value → H} {P : Program}
theorem post_grew {f : Func} {s : ChangeSpec} {apart fresh handsOn : Bool} {W W' : World} {args : Array Value} {v : Value} {ds gs : List (DataW H)} {before pa pv : List MemPlace}
    (hW : DataW.Whole enc P f.params.toList s.vars apart W args.toList ds gs before)
    (hres : ∀ (b : Nat) (sp : Nat → Bool) (hd : Bool), DataW.TrodAll enc P W' b sp hd f.resultTypes.toList (v.resultList f.resultTypes.size) (s.fn H (ds ++ gs)).results [])
    (hargs : DataW.TrodAll enc P W' 0 (fun b => decide (b < W.heap.size)) true f.params.toList args.toList (s.fn H (ds ++ gs)).args pa)
    (hvars : DataW.TrodVars enc P W' (fun b => decide (b < W.heap.size)) s.vars (s.fn H (ds ++ gs)).vars pv)
    (hps : before = pa ++ pv) (hb : Below W.heap.size W W') : s.post enc P f apart fresh handsOn false W args v W' := by
  refine ⟨ds, gs, before, [], pa, pv, hW, hres _ _ _, hargs, hvars, World.keptBut_mono (fun p hp => ⟨hp, ?_⟩) (hb.frame (· ∈ before)), fun h => by cases h⟩
  rw [hps, List.mem_append] at hp
  exact Or.inr hp
end
end Go.Proofs.YtfjmdkhemnmkpaaGreatDoor
namespace Go.Proofs.YtfjmdkhemnmkpaaGreatDoor
open Go.RowKit
def puts (l : List (Nat × Value)) (a : Act) : Act := l.foldl (fun x p => x.put (some p.1) p.2) a
theorem puts_size : ∀ (l : List (Nat × Value)) (a : Act), (puts l a).tmps.size = a.tmps.size
  | [], _ => rfl
  | p :: l, a => (puts_size l (a.put (some p.1) p.2)).trans size_put
theorem puts_defers : ∀ (l : List (Nat × Value)) (a : Act), (puts l a).defers = a.defers
  | [], _ => rfl
  | p :: l, a => (puts_defers l (a.put (some p.1) p.2)).trans defers_put
theorem puts_old : ∀ (l : List (Nat × Value)) (a : Act) (s : Nat), s ∉ l.map (·.1) → (puts l a).tmps.getD s undef = a.tmps.getD s undef
  | [], _, _, _ => rfl
  | p :: l, a, s, h => by
    simp only [List.map_cons, List.mem_cons, not_or] at h
    exact (puts_old l (a.put (some p.1) p.2) s h.2).trans (getD_put_ne h.1)
theorem puts_new (v : Nat → Value) : ∀ (l : List (Nat × Value)) (a : Act) (s : Nat), (∀ p ∈ l, v p.1 = p.2) → (∀ p ∈ l, p.1 < a.tmps.size) → s ∈ l.map (·.1) → (puts l a).tmps.getD s undef = v s
  | [], _, _, _, _, h => by simp at h
  | p :: l, a, s, hv, hz, h => by
    by_cases hs : s ∈ l.map (·.1)
    · exact puts_new v l (a.put (some p.1) p.2) s (fun q hq => hv q (by simp [hq])) (fun q hq => by rw [size_put]; exact hz q (by simp [hq])) hs
    · have e : s = p.1 := by simpa [hs] using h
      subst e
      refine (puts_old l _ _ hs).trans ?_
      rw [getD_put_same (hz p (by simp))]
      exact (hv p (by simp)).symm
def coversB (ops : List Oper) (l : List (Nat × Value)) : Bool := ops.all fun o => match o.dst with | some d => l.any (fun p => p.1 == d) | none => true
def fitsB (N : Nat) (l : List (Nat × Value)) : Bool := l.all fun p => decide (p.1 < N)
theorem Frm.puts {ops : List Oper} {a a' : Act} (h : Frm ops a a') (l : List (Nat × Value)) (hl : ∀ p ∈ l, a'.tmps.getD p.1 undef = p.2) (hc : coversB ops l = true) (hz : fitsB a.tmps.size l = true) : a' = puts l a := by
  have hz' : ∀ p ∈ l, p.1 < a.tmps.size := fun p hp => by
    have := List.all_eq_true.1 hz p hp
    simpa using this
  have ht : a'.tmps = (Go.Proofs.YtfjmdkhemnmkpaaGreatDoor.puts l a).tmps := by
    apply Array.ext
    · rw [puts_size, h.size]
    · intro i h1 h2
      have e : ∀ (x : Array Value) (hx : i < x.size), x.getD i undef = x[i] := fun x hx => by simp [Array.getD, hx]
      rw [← e _ h1, ← e _ h2]
      by_cases hs : i ∈ l.map (·.1)
      · exact (puts_new (fun s => a'.tmps.getD s undef) l a i hl hz' hs).symm
      · rw [puts_old l a i hs]
        refine h.old i fun o ho e => hs ?_
        have := List.all_eq_true.1 hc o ho
        rw [e] at this
        simp only [List.any_eq_true, beq_iff_eq] at this
        obtain ⟨p, hp, rfl⟩ := this
        exact List.mem_map_of_mem hp
  have hd : a'.defers = (Go.Proofs.YtfjmdkhemnmkpaaGreatDoor.puts l a).defers := by rw [puts_defers, h.defers]
  cases a'; cases hq : Go.Proofs.YtfjmdkhemnmkpaaGreatDoor.puts l a; simp_all
section
variable {n : Nat} {Q : Exit → Act → World → Prop} {ops : Array Oper} {i : Nat} {o : Oper} {a : Act} {w : World} {K : Act → World → Prop}
theorem step_load {t : TypeId} {x : Operand} {vx v : Value} (hi : ops[i]? = some o) (hw : Region.wanted o (yielded ops a.tmps) = true) (ho : o.op = .load t x) (hx : a.eval x = vx) (hr : (Instr.loadAt t vx).run Tryz.prog w = .ok v w) (h : K (a.put o.dst v) w) : wpOpIn Fence.wide n Tryz.prog ops Q i K a w :=
  step_run hi hw (by rw [ho]; intro c h; cases h) (by simp [Oper.about, ho]) (by simp [execOp, ho, hx, hr]) h
theorem step_index {t : TypeId} {x y : Operand} {vx vy v : Value} (hi : ops[i]? = some o) (hw : Region.wanted o (yielded ops a.tmps) = true) (ho : o.op = .indexAddr t x y) (hx : a.eval x = vx) (hy : a.eval y = vy) (hr : (Instr.indexAt t vx vy).run Tryz.prog w = .ok v w) (h : K (a.put o.dst v) w) : wpOpIn Fence.wide n Tryz.prog ops Q i K a w :=
  step_run hi hw (by rw [ho]; intro c h; cases h) (by simp [Oper.about, ho]) (by simp [execOp, ho, hx, hy, hr]) h
theorem step_from {t : TypeId} {x y : Operand} {vx vy v : Value} (hi : ops[i]? = some o) (hw : Region.wanted o (yielded ops a.tmps) = true) (ho : o.op = .slice t x (some y) none none) (hx : a.eval x = vx) (hy : a.eval y = vy) (hr : (Instr.sliceAt t vx (some vy) none none).run Tryz.prog w = .ok v w) (h : K (a.put o.dst v) w) : wpOpIn Fence.wide n Tryz.prog ops Q i K a w :=
  step_run hi hw (by rw [ho]; intro c h; cases h) (by simp [Oper.about, ho]) (by simp [execOp, ho, hx, hy, hr]) h
theorem step_len {t e : TypeId} (ht : Tryz.prog.underlying t = some (.slice e)) {x : Operand} {A : Option Addr} {L c : Nat} (hi : ops[i]? = some o) (hw : Region.wanted o (yielded ops a.tmps) = true) (ho : o.op = .call { callee := .builtin .len, args := #[x], argTypes := #[t] }) (hx : a.eval x = .slice A L c) (h : K (a.put o.dst (.int .i64 (L : Int))) w) : wpOpIn Fence.wide n Tryz.prog ops Q i K a w := by
  refine step_run hi hw (by rw [ho]; intro c h; cases h) (by simp [Oper.about, ho, resolve, Target.leads, Sem.run_pure]) (v := .int .i64 (L : Int)) (w' := w) ?_ h
  have hl : (Builtin.len_ #[t] o.type #[.slice A L c]).run Tryz.prog w = .ok (.int .i64 (L : Int)) w := by
    simp [Builtin.len_, run_underlying ht]; rfl
  unfold execOp
  simp only [ho, resolve, invoke, builtin, Sem.run_bind, Sem.run_pure, Result.andThen_ok, List.map_toArray, List.map_cons, List.map_nil, hx, hl]
end
theorem own_below {w w' : World} {base n : Nat} {e : TypeId} {v : Value} {vs : List Value} (h : w.ownsRow base e 1 v n vs) (hb : Below w.heap.size w w') : w'.ownsRow base e 1 v n vs := by
  refine ⟨h.1, ?_⟩
  rcases h.2 with h2 | ⟨g, cap, cur, a, b, r, s⟩
  · exact .inl h2
  · exact .inr ⟨g, cap, cur, a, b, (hb.block g (Array.getElem?_eq_some_iff.1 r).1).trans r, s⟩
theorem own_form {w : World} {base n : Nat} {e : TypeId} {v : Value} {xs : List Value} (h : w.ownsRow base e 1 v n xs) : ∃ A c, v = .slice A n c := by
  rcases h.2 with ⟨rfl, h0⟩ | ⟨g, cap, cur, rfl, _⟩
  · exact ⟨none, 0, by rw [h0]⟩
  · exact ⟨_, _, rfl⟩
end Go.Proofs.YtfjmdkhemnmkpaaGreatDoor
namespace Go.Proofs.YtfjmdkhemnmkpaaGreatDoor
open Go.RowKit
structure Only (F : Nat → Prop) (w w' : World) : Prop where
  os : w'.os = w.os
  tape : w'.tape = w.tape
  output : w'.output = w.output
  size : w.heap.size ≤ w'.heap.size
  block : ∀ k, k < w.heap.size → ¬ F k → w'.heap[k]? = w.heap[k]?
theorem Only.refl (F : Nat → Prop) (w : World) : Only F w w := ⟨rfl, rfl, rfl, Nat.le_refl _, fun _ _ _ => rfl⟩
theorem Only.trans {F G : Nat → Prop} {a b c : World} (h : Only F a b) (k : Only G b c) (hG : ∀ x, G x → F x ∨ a.heap.size ≤ x) : Only F a c :=
  ⟨k.os.trans h.os, k.tape.trans h.tape, k.output.trans h.output, Nat.le_trans h.size k.size, fun i hi hn =>
    (k.block i (Nat.lt_of_lt_of_le hi h.size) (fun hg => (hG i hg).elim hn (fun hle => absurd hi (Nat.not_lt.2 hle)))).trans (h.block i hi hn)⟩
theorem Only.mono {F G : Nat → Prop} {a b : World} (h : Only F a b) (hF : ∀ x, x < a.heap.size → F x → G x) : Only G a b :=
  ⟨h.os, h.tape, h.output, h.size, fun k hk hn => h.block k hk (fun hf => hn (hF k hk hf))⟩
theorem Only.of_grew {F : Nat → Prop} {w w' : World} (h : Below w.heap.size w w') : Only F w w' := ⟨h.os, h.tape, h.output, h.size, fun k hk _ => h.block k hk⟩
theorem Only.of_grown {F : Nat → Prop} {w w' : World} {row : Option Nat} (h : w.grownBy w' row) (hr : ∀ k, row = some k → F k) : Only F w w' :=
  ⟨h.os, h.tape, h.output, h.size, fun k hk hn => h.block k hk (fun e => hn (hr k e.symm))⟩
theorem Only.setCell {F : Nat → Prop} {a w : World} (h : Only F a w) {p : Addr} (hp : F p.block ∨ a.heap.size ≤ p.block) (u : Value) : Only F a (w.setCell p u) :=
  ⟨h.os, h.tape, h.output, by simpa [World.setCell] using h.size, fun k hk hn => (Below.heap_setCell _ _ _ _ (fun e => by subst e; exact hp.elim hn (fun hle => absurd hk (Nat.not_lt.2 hle)))).trans (h.block k hk hn)⟩
theorem Only.grown {F : Nat → Prop} {a w w' : World} {row : Option Nat} (h : Only F a w) (hg : w.grownBy w' row) (hr : ∀ k, row = some k → F k ∨ a.heap.size ≤ k) : Only F a w' :=
  h.trans (Only.of_grown (F := fun k => row = some k) hg (fun _ e => e)) (fun x hx => hr x hx)
theorem Only.grew {F : Nat → Prop} {a w w' : World} (h : Only F a w) (hg : Below w.heap.size w w') : Only F a w' :=
  h.trans (Only.of_grew (F := fun _ => False) hg) (fun _ hx => hx.elim)
theorem Only.below {F : Nat → Prop} {w w' : World} {B : Nat} (h : Only F w w') (hB : B ≤ w.heap.size) (hF : ∀ x, F x → B ≤ x) : Below B w w' :=
  ⟨h.os, h.tape, h.output, h.size, fun k hk => h.block k (Nat.lt_of_lt_of_le hk hB) (fun hf => absurd hk (Nat.not_lt.2 (hF k hf)))⟩
theorem Only.blk {F : Nat → Prop} {w w' : World} (h : Only F w w') {k : Nat} {o : Obj} (hk : w.heap[k]? = some o) (hn : ¬ F k) : w'.heap[k]? = some o :=
  (h.block k (Array.getElem?_eq_some_iff.1 hk).1 hn).trans hk
theorem Only.own {F : Nat → Prop} {w w' : World} {base n : Nat} {e : TypeId} {v : Value} {vs : List Value} (h : Only F w w') (ho : w.ownsRow base e 1 v n vs) (hn : ∀ k, v.ownBlock = some k → ¬ F k) : w'.ownsRow base e 1 v n vs := by
  refine ⟨ho.1, ?_⟩
  rcases ho.2 with h2 | ⟨g, cap, cur, rfl, b, r, s⟩
  · exact .inl h2
  · exact .inr ⟨g, cap, cur, rfl, b, h.blk r (hn g rfl), s⟩
end Go.Proofs.YtfjmdkhemnmkpaaGreatDoor
namespace Go.Proofs.YtfjmdkhemnmkpaaGreatDoor
open Go.RowKit
section
variable {F : Fence} {n : Nat} {P : Program} {Q : Exit → Act → World → Prop} {ops : List Oper}
theorem wpIn_region_two {id : Nat} {a : Act} {w : World} {pen last : Oper} (N : Nat) (hN : a.tmps.size = N) (hm : P.follows .mixedOrders = true) (hb : backwards (ops ++ [pen, last]) = true) (hs : slotsOk N ops = true)
    (hall : ((List.range (ops.length + 1)).all (hasEdge last)) = true)
    (hpen : ∀ L : Nat → Bool, (∀ j o' e, (ops ++ [pen, last]).toArray[j]? = some o' → L j = true → e ∈ o'.after → Region.binds .any e = true → L e.on = true) → (∀ e ∈ pen.after, Region.binds .any e = true → L e.on = true) → ∀ j, j < ops.length → L j = true)
    (Rl : World → World → Prop) (hr : ∀ w, Rl w w) (ht : ∀ {x y z}, Rl x y → Rl y z → Rl x z)
    (ψ : Nat → Value → World → Prop) (hψ : ∀ i v w w', ψ i v w → Rl w w' → ψ i v w')
    (hstep : ∀ i o d, ops.toArray[i]? = some o → o.dst = some d → ∀ a' w', Frm ops a a' → Rl w.drew w' →
      (∀ j o' d', hasEdge o j = true → ops.toArray[j]? = some o' → o'.dst = some d' → ψ j (a'.tmps.getD d' undef) w') →
      wpOpIn F n P (ops ++ [pen, last]).toArray Q i (fun a'' w'' => ∃ v, a'' = a'.put (some d) v ∧ ψ i v w'' ∧ Rl w' w'') a' w')
    (hlast : ∀ a' w', Frm ops a a' → Rl w.drew w' → (∀ j o' d', ops.toArray[j]? = some o' → o'.dst = some d' → ψ j (a'.tmps.getD d' undef) w') →
      wpOpIn F n P (ops ++ [pen, last]).toArray Q ops.length (fun a'' w'' => wpOpIn F n P (ops ++ [pen, last]).toArray Q (ops.length + 1) (fun a3 w3 => Q .normal a3 w3) a'' w'') a' w') :
    (Code.region id (ops ++ [pen, last]).toArray true).wpIn F n P Q a w := by
  have hold : ∀ (i : Nat) (o : Oper), i < ops.length → (ops ++ [pen, last]).toArray[i]? = some o → ops.toArray[i]? = some o := by
    intro i o hi ho
    simp only [List.getElem?_toArray] at ho ⊢
    rwa [List.getElem?_append_left hi] at ho
  have hnew : ∀ (i : Nat) (o : Oper), ops.toArray[i]? = some o → i < ops.length := by
    intro i o ho
    have := (Array.getElem?_eq_some_iff.1 ho).1
    simpa using this
  have hpn : (ops ++ [pen, last]).toArray[ops.length]? = some pen := by simp
  have hlst : (ops ++ [pen, last]).toArray[ops.length + 1]? = some last := by simp
  have hdst : ∀ (i : Nat) (o : Oper), ops.toArray[i]? = some o → ∃ d, o.dst = some d ∧ d < N := by
    intro i o ho
    have h1 := (Bool.and_eq_true _ _ ▸ hs).1
    rw [List.all_eq_true] at h1
    have hmem : o ∈ ops := by simpa using List.mem_of_getElem? (by simpa using ho)
    have := h1 o hmem
    cases hd : o.dst with
    | none => rw [hd] at this; cases this
    | some d => rw [hd] at this; exact ⟨d, rfl, by simpa using this⟩
  have hinj : ∀ (i j : Nat) (o o' : Oper) (d : Nat), ops.toArray[i]? = some o → ops.toArray[j]? = some o' → o.dst = some d → o'.dst = some d → i = j := by
    intro i j o o' d hi hj hd hd'
    have h1 := (Bool.and_eq_true _ _ ▸ hs).2
    have hnd : (ops.map (·.dst)).Nodup := by simpa using h1
    have hi' : (ops.map (·.dst))[i]? = some (some d) := by simp at hi; simp [hi, hd]
    have hj' : (ops.map (·.dst))[j]? = some (some d) := by simp at hj; simp [hj, hd']
    have hlt : i < (ops.map (·.dst)).length := by
      rcases Nat.lt_or_ge i (ops.map (·.dst)).length with h | h
      · exact h
      · rw [List.getElem?_eq_none h] at hi'; cases hi'
    exact (List.getElem?_inj hlt hnd).1 (hi'.trans hj'.symm)
  have hedge : ∀ j, j < ops.length + 1 → ∃ e ∈ last.after, e.on = j ∧ Region.binds .any e = true := by
    intro j hj
    rw [List.all_eq_true] at hall
    have := hall j (List.mem_range.2 hj)
    unfold hasEdge at this
    rw [List.any_eq_true] at this
    obtain ⟨e, hem, he⟩ := this
    exact ⟨e, by simpa using hem, by simpa using he⟩
  have hcase : ∀ (i : Nat) (o : Oper), (ops ++ [pen, last]).toArray[i]? = some o → i < ops.length ∨ i = ops.length ∨ i = ops.length + 1 := by
    intro i o hi
    have := (Array.getElem?_eq_some_iff.1 hi).1
    simp at this
    omega
  refine wpIn_region_by hm hb (fun L a' w' => (L ops.length = false ∧ L (ops.length + 1) = false ∧ Frm ops a a' ∧ Rl w.drew w' ∧ ∀ j o' d', L j = true → ops.toArray[j]? = some o' → o'.dst = some d' → ψ j (a'.tmps.getD d' undef) w') ∨
      (L ops.length = true ∧ L (ops.length + 1) = false ∧ wpOpIn F n P (ops ++ [pen, last]).toArray Q (ops.length + 1) (fun a3 w3 => Q .normal a3 w3) a' w') ∨ (L (ops.length + 1) = true ∧ Q .normal a' w'))
    (.inl ⟨rfl, rfl, ⟨rfl, rfl, fun _ _ => rfl⟩, hr _, fun _ _ _ h => absurd h (by simp)⟩) ?_ ?_
  · rintro L a' w' i o (⟨hLp, hLn, hF, hR, hL⟩ | ⟨hLp, hLn, hw2⟩ | ⟨hLn, _⟩) hi hli hpre hcl
    · rcases hcase i o hi with hin | rfl | rfl
      · have hi' := hold i o hin hi
        obtain ⟨d, hd, hdN⟩ := hdst i o hi'
        refine wpOpIn_mono ?_ (hstep i o d hi' hd a' w' hF hR (fun j o' d' he hj hd' => hL j o' d' ?_ hj hd'))
        · rintro a'' w'' ⟨v, rfl, hv, hR'⟩
          refine .inl ⟨by have : ¬ (ops.length = i) := by omega
                          simp [hLp, this], by have : ¬ (ops.length + 1 = i) := by omega
                                               simp [hLn, this], ⟨size_put.trans hF.size, defers_put.trans hF.defers, fun s hs' => ?_⟩, ht hR hR', fun j o' d' hj ho' hd' => ?_⟩
          · have hmem : o ∈ ops := by simpa using List.mem_of_getElem? (by simpa using hi')
            rw [getD_put_ne (fun e => hs' o hmem (by rw [hd, e]))]
            exact hF.old s hs'
          · by_cases hji : j = i
            · subst hji
              rw [hi'] at ho'; cases ho'
              rw [hd] at hd'; cases hd'
              rw [getD_put_same (by rw [hF.size, hN]; exact hdN)]
              exact hv
            · have hne : d' ≠ d := fun e => hji (by subst e; exact hinj j i o' o d' ho' hi' hd' hd)
              rw [getD_put_ne hne]
              have hlj : L j = true := by simpa [hji] using hj
              exact hψ j _ _ _ (hL j o' d' hlj ho' hd') hR'
        · unfold hasEdge at he
          rw [List.any_eq_true] at he
          obtain ⟨e, hem, he'⟩ := he
          have h1 : e.on = j ∧ Region.binds .any e = true := by simpa using he'
          rw [← h1.1]
          exact hpre e (by simpa using hem) h1.2
      · rw [hpn] at hi; cases hi
        have hLall := hpen L hcl hpre
        refine wpOpIn_mono ?_ (hlast a' w' hF hR (fun j o' d' hj hd' => hL j o' d' (hLall j (hnew j o' hj)) hj hd'))
        intro a'' w'' h
        exact .inr (.inl ⟨by simp, by simp [hLn], h⟩)
      · rw [hlst] at hi; cases hi
        obtain ⟨e, hem, he, hbd⟩ := hedge ops.length (by omega)
        have := hpre e hem hbd
        rw [he, hLp] at this; cases this
    · rcases hcase i o hi with hin | rfl | rfl
      · have := hpen L hcl (fun e he hbd => hcl ops.length pen e hpn hLp he hbd) i hin
        rw [hli] at this; cases this
      · rw [hLp] at hli; cases hli
      · rw [hlst] at hi; cases hi
        refine wpOpIn_mono ?_ hw2
        intro a'' w'' h
        exact .inr (.inr ⟨by simp, h⟩)
    · rcases hcase i o hi with hin | rfl | rfl
      · obtain ⟨e, hem, he, hbd⟩ := hedge i (by omega)
        have := hcl (ops.length + 1) last e hlst hLn hem hbd
        rw [he, hli] at this; cases this
      · obtain ⟨e, hem, he, hbd⟩ := hedge ops.length (by omega)
        have := hcl (ops.length + 1) last e hlst hLn hem hbd
        rw [he, hli] at this; cases this
      · rw [hLn] at hli; cases hli
  · rintro L a' w' (⟨_, hLn, _⟩ | ⟨_, hLn, _⟩ | ⟨_, h⟩) hl
    · have := hl (ops.length + 1) (by simp)
      rw [hLn] at this; cases this
    · have := hl (ops.length + 1) (by simp)
      rw [hLn] at this; cases this
    · exact h
end
end Go.Proofs.YtfjmdkhemnmkpaaGreatDoor
namespace Go.Proofs.YtfjmdkhemnmkpaaGreatDoor
open Go.RowKit
end Go.Proofs.YtfjmdkhemnmkpaaGreatDoor
namespace Go.Proofs.YtfjmdkhemnmkpaaGreatDoor
open Go.ChangeShapes Go.WideShapes Go.ChangeAt Go.RowKit Go.ChangeMaps
end Go.Proofs.YtfjmdkhemnmkpaaGreatDoor
namespace Go.Proofs.YtfjmdkhemnmkpaaGreatDoor
open Go.RowKit
end Go.Proofs.YtfjmdkhemnmkpaaGreatDoor
namespace Go.Proofs.YtfjmdkhemnmkpaaGreatDoor
open Go.RowKit
end Go.Proofs.YtfjmdkhemnmkpaaGreatDoor
namespace Go.Proofs.YtfjmdkhemnmkpaaGreatDoor
open Go.RowKit
end Go.Proofs.YtfjmdkhemnmkpaaGreatDoor
namespace Go.Proofs.YtfjmdkhemnmkpaaGreatDoor
open Go.RowKit
end Go.Proofs.YtfjmdkhemnmkpaaGreatDoor
namespace Go.Proofs.YtfjmdkhemnmkpaaGreatDoor
open Go.RowKit
end Go.Proofs.YtfjmdkhemnmkpaaGreatDoor
