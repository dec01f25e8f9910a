/- Copy (maps.Clone) and Same (maps.Equal). maps.Equal of two maps of texts, each in a struct of its own; Same. The program's package kv as the walks want it. -/
import Derived.Test.YtfkdlmokigeemaaDoorMKqA
import Derived.Test.YtfkdlmokigeemaaDoorKvLay
import Derived.Shelf.SlMaps.Equal
import Derived.Laws.StructEq
import Derived.Maps.RangeWalk
import Derived.Laws.IdiomRangeMap
import Derived.Deep.LoopGhost
import Derived.Sort.MapsRangeIn
import Derived.Test.YtfkdlmokigeemaaDoorMKqD
-- KqS
namespace Go.Proofs.YtfkdlmokigeemaaDoor
open Go.RowKit Go.Maps Go.WideMaps

theorem clone_any {w : World} {p : Option Nat} {l : List PV} (h : MapO w p l) : Calls Tryd.prog 20 #[.map p] w fun e W' => ∃ q, e = .returned (.map q) ∧ MapO W' q l ∧ (∀ b, q = some b → w.heap.size ≤ b) ∧ Below w.heap.size w W' := by
  cases p with
  | none => exact (Go.Proofs.AnyW.maps_Clone_nil lay_clone w).mono fun e W' ⟨he, hw⟩ => ⟨none, he, h, fun b e => (by cases e), by rw [hw]; exact Below.refl _ _⟩
  | some b => exact (Go.Proofs.AnyW.maps_Clone_owns lay_clone 9 heldR b _ _ w (show w.ownsMap _ _ _ b _ _ from h)).mono fun e W' ⟨he, h1, _, hb⟩ => ⟨some w.heap.size, he, MapQ.of h1, fun b e => by cases e; exact Nat.le_refl _, hb⟩
set_option maxRecDepth 100000 in
theorem copy_any {w : World} {R : Nat} {p : Option Nat} {l : List PV} (h : StQ w R p l) : Calls Tryd.prog 11 #[.pointer (some ⟨R, 0, none⟩)] w fun e W' => ∃ S q, e = .returned (.pointer (some ⟨S, 0, none⟩)) ∧ StQ W' S q l ∧ w.heap.size ≤ S ∧ (∀ b, q = some b → w.heap.size ≤ b) ∧ Below w.heap.size w W' := by
  have hm := h.mp
  have HC := Lib.hid (clone_any h.map)
  clear h
  go_enter Tryd.func11, Tryd.ntmps11
  go_wp2_with fail
  refine HC.out.mono ?_
  rintro e W1 ⟨q, rfl, hq, hn, hb⟩
  have HH := Lib.hid (And.intro hq (And.intro hn hb))
  clear hq hn hb HC
  go_wp2
  go_ret
  have hB : Below W1.heap.size W1 (W1.alloc (Obj.cells #[.map q] 53)) := (Below.refl _ W1).alloc (Nat.le_refl _) _
  exact ⟨W1.heap.size, q, rfl, ⟨World.alloc_heap_new W1 _, HH.out.1.below hB⟩, HH.out.2.2.size, HH.out.2.1, HH.out.2.2.trans (Below.mono hB HH.out.2.2.size)⟩
theorem copy_nil (w : World) : Calls Tryd.prog 11 #[.pointer none] w fun e W' => e = .returned (.pointer none) ∧ Below w.heap.size w W' := by
  go_enter Tryd.func11, Tryd.ntmps11
  go_wp2
  go_ret
  exact ⟨rfl, Below.refl _ _⟩

/-- Whether two elements are alike, on data. -/
def eqT : DataW Unit → DataW Unit → Bool
  | .lit (.string s), .lit (.string t) => decide (s = t)
  | _, _ => false
theorem eqT_lit (a b : ByteArray) : eqT (.lit (litB a)) (.lit (litB b)) = decide (a = b) := by
  show decide (a.data.toList = b.data.toList) = _
  by_cases h : a = b
  · subst h; simp
  · rw [decide_eq_false h, decide_eq_false]
    intro e
    exact h (ByteArray.ext (Array.ext' e))
theorem sub_len : ∀ {m l : List PV}, SortedP l → SortedP m → (∀ p ∈ l, p ∈ m) → l.length ≤ m.length
  | [], l, _, _, h => by
    cases l with
    | nil => exact Nat.le_refl _
    | cons a r => exact absurd (h a (List.mem_cons_self ..)) (by simp)
  | b :: m, [], _, _, _ => Nat.zero_le _
  | b :: m, a :: r, hl, hm, h => by
    have hl' := List.pairwise_cons.1 hl
    have hm' := List.pairwise_cons.1 hm
    by_cases hab : a = b
    · subst hab
      have := sub_len (m := m) (l := r) hl'.2 hm'.2 fun p hp => by
        rcases List.mem_cons.1 (h p (List.mem_cons_of_mem _ hp)) with e | e
        · exact absurd (hl'.1 p hp) (by rw [e, ltB_irr]; decide)
        · exact e
      simpa using this
    · have ham : a ∈ m := (List.mem_cons.1 (h a (List.mem_cons_self ..))).resolve_left hab
      have hba := hm'.1 a ham
      have := sub_len (m := m) (l := a :: r) hl hm'.2 fun p hp => by
        rcases List.mem_cons.1 (h p hp) with e | e
        · rcases List.mem_cons.1 hp with e2 | e2
          · exact absurd (e2.symm.trans e) hab
          · exact absurd (ltB_trans hba (hl'.1 p e2)) (by rw [e, ltB_irr]; decide)
        · exact e
      simp only [List.length_cons] at this ⊢
      omega
theorem sub_eq : ∀ {m l : List PV}, SortedP l → SortedP m → (∀ p ∈ l, p ∈ m) → l.length = m.length → l = m
  | [], l, _, _, _, hn => List.eq_nil_of_length_eq_zero hn
  | b :: m, [], _, _, _, hn => by simp at hn
  | b :: m, a :: r, hl, hm, h, hn => by
    have hl' := List.pairwise_cons.1 hl
    have hm' := List.pairwise_cons.1 hm
    have hab : a = b := Decidable.byContradiction fun hab => by
      have ham : a ∈ m := (List.mem_cons.1 (h a (List.mem_cons_self ..))).resolve_left hab
      have hba := hm'.1 a ham
      have := sub_len (m := m) (l := a :: r) hl hm'.2 fun p hp => by
        rcases List.mem_cons.1 (h p hp) with e | e
        · rcases List.mem_cons.1 hp with e2 | e2
          · exact absurd (e2.symm.trans e) hab
          · exact absurd (ltB_trans hba (hl'.1 p e2)) (by rw [e, ltB_irr]; decide)
        · exact e
      simp only [List.length_cons] at this hn
      omega
    subst hab
    rw [sub_eq (m := m) (l := r) hl'.2 hm'.2 (fun p hp => by
      rcases List.mem_cons.1 (h p (List.mem_cons_of_mem _ hp)) with e | e
      · exact absurd (hl'.1 p hp) (by rw [e, ltB_irr]; decide)
      · exact e) (by simpa using hn)]
theorem goodT (l : List PV) (k v : ByteArray) : Lib.goodD eqT (mapD l) (litB k, .lit (litB v)) = decide (lookP l k = some v) := by
  unfold Lib.goodD
  simp only [mapD_has, mapD_at]
  cases h : lookP l k with
  | none => simp
  | some u =>
    simp only [Option.isSome_some, Bool.true_and, Option.elim_some]
    rw [eqT_lit]
    by_cases e : v = u
    · subst e; simp
    · simp [e, Ne.symm e]
/-- Sorted pairs are alike if they are the same. -/
theorem equal_pairs {l m : List PV} (hl : SortedP l) (hm : SortedP m) : Lib.equalFuncD eqT (mapD l) (mapD m) = decide (l = m) := by
  unfold Lib.equalFuncD
  rw [mapD_size, mapD_size]
  have hall : (Lib.entriesD (mapD l)).all (Lib.goodD eqT (mapD m)) = true ↔ ∀ p ∈ l, lookP m p.1 = some p.2 := by
    show (l.map fun p => (litB p.1, (.lit (litB p.2) : DataW Unit))).all (Lib.goodD eqT (mapD m)) = true ↔ _
    rw [List.all_map, List.all_eq_true]
    refine forall₂_congr fun p _ => ?_
    show Lib.goodD eqT (mapD m) (litB p.1, .lit (litB p.2)) = true ↔ _
    rw [goodT, decide_eq_true_iff]
  by_cases e : l = m
  · subst e
    rw [decide_eq_true rfl, decide_eq_true rfl, Bool.true_and, hall]
    intro p hp
    cases hc : lookP l p.1 with
    | none =>
      have := lookP_of_mem (k := p.1) (v := p.2) hp
      rw [hc] at this
      cases this
    | some u =>
      have h1 := lookP_mem hc
      by_cases hu : u = p.2
      · rw [hu]
      · exfalso
        obtain ⟨i, hi, e1⟩ := List.mem_iff_getElem.1 h1
        obtain ⟨j, hj, e2⟩ := List.mem_iff_getElem.1 hp
        rcases Nat.lt_trichotomy i j with h | h | h
        · have := List.pairwise_iff_getElem.1 hl i j hi hj h
          rw [e1, e2, ltB_irr] at this
          cases this
        · subst h
          rw [e1] at e2
          exact hu (congrArg Prod.snd e2)
        · have := List.pairwise_iff_getElem.1 hl j i hj hi h
          rw [e1, e2, ltB_irr] at this
          cases this
  · rw [decide_eq_false e]
    by_cases hn : l.length = m.length
    · rw [decide_eq_true hn, Bool.true_and]
      cases hb : (Lib.entriesD (mapD l)).all (Lib.goodD eqT (mapD m)) with
      | false => rfl
      | true => exact absurd (sub_eq hl hm (fun p hp => lookP_mem (hall.1 hb p hp)) hn) e
    · rw [decide_eq_false hn, Bool.false_and]
theorem eq_held (op : BinOp) (w : World) (x y : Operand) (a b : ByteArray) : (eqGuard op 61 x y (heldV a) (heldV b)).run Tryd.prog w = .ok () w := by
  have h : Tryd.prog.eqGuardType Tryd.prog.depth 61 = false := by kernel_rfl
  cases op <;> simp [eqGuard, h]
theorem ne_held_same (w : World) (a : ByteArray) : (binOp .neq 61 (heldV a) (heldV a)).run Tryd.prog w = .ok (.bool false) w := by
  simp [go_sem]
theorem ne_held_other (w : World) {a b : ByteArray} (h : a ≠ b) : (binOp .neq 61 (heldV a) (heldV b)).run Tryd.prog w = .ok (.bool true) w := by
  have hne : ¬ a.toList = b.toList := fun e => h (toList_inj9.1 e)
  simp [go_sem, hne]
end Go.Proofs.YtfkdlmokigeemaaDoor

-- KqF
namespace Go.Proofs.YtfkdlmokigeemaaDoor
open Go.RowKit Go.Maps Go.WideMaps Go.Shelf

theorem keyOf_str {x : ByteArray} {kl : Lit} (h : keyOf Tryd.prog 9 (.string x) = some kl) : x.size ≤ maxLen ∧ kl = litB x := by
  by_cases hx : x.size ≤ maxLen
  · rw [keyL hx] at h
    exact ⟨hx, (Option.some.inj h).symm⟩
  · simp [keyOf, Tryd.underlying9, mapKey, hx] at h
set_option maxHeartbeats 4000000 in
set_option maxRecDepth 100000 in
theorem equal_both {w : World} {b1 : Nat} {p2 : Option Nat} {l1 l2 : List PV} (h1 : MapQ w b1 l1) (h2 : MapO w p2 l2) (s1 : SortedP l1) (s2 : SortedP l2) :
    Calls Tryd.prog 22 #[.map (some b1), .map p2] w fun e W' => e = .returned (.bool (decide (l1 = l2))) ∧ w.grownBy W' none := by
  rw [← equal_pairs s1 s2]
  have l1' := fun ty => MapO.len (p := some b1) h1 ty
  have l2' := fun ty => MapO.len h2 ty
  have hm1 : w.ownsMap Tryd.prog 9 heldR b1 l1.length (mapD l1) := h1
  obtain ⟨es1, he, hap, hkeys⟩ := hm1.entries keyedS
  have hsz1 : Maps.size (.map es1 : DataW Unit) = l1.length := by rw [← he, mapD_size]
  rw [he] at hm1 ⊢
  have hb2 : ∀ b, p2 = some b → b < w.heap.size := fun b e => (Array.getElem?_eq_some_iff.1 (h2.blk e).choose_spec.choose_spec).1
  generalize hres : Lib.equalFuncD eqT (.map es1) (mapD l2) = res
  have RES : Aside (Lib.equalFuncD eqT (.map es1) (mapD l2) = res) := hres
  have HAPK := Lib.hid (And.intro hap hkeys)
  obtain ⟨N1, hN1⟩ : ∃ N, N = l1.length := ⟨_, rfl⟩
  obtain ⟨N2, hN2⟩ : ∃ N, N = l2.length := ⟨_, rfl⟩
  rw [← hN1] at l1' hm1 hsz1
  rw [← hN2] at l2'
  have HN2 := Lib.hid hN2
  have H2 := Lib.hid h2
  have H1 := Lib.hid hm1
  clear hres h1 h2 he hN1 hN2 hap hkeys s1 s2
  by_cases hsz : N1 = N2
  · have HSZ : Hid (Maps.size (.map es1 : DataW Unit) = Maps.size (mapD l2)) := Lib.hid (by rw [hsz1, mapD_size, hsz]; exact HN2.out)
    subst hsz
    clear hsz1
    have HB2 := Lib.hid hb2
    clear hb2
    go_enter Tryd.func22, Tryd.ntmps22
    go_wp2_with (first
      | (at_range; refine wpList_range_own _ rfl _ 51 rfl 9 61 keyedS Tryd.underlying51 heldR b1 N1 _ rfl H1.out ?_; intro w0 hrg0 hg0 hs0)
      | go_in)
    go_frame
    go_loopw [5] (fun _ wr => ∃ (left : Lit → Bool) (cnt : Nat), wr.ranges Tryd.prog 9 heldR b1 w.heap.size N1 (.map es1) left cnt ∧ MapO wr p2 l2 ∧ w.grownBy wr none ∧ Aside (GoodAt eqT es1 (mapD l2) left))
      (fun _ wr => wr.rangeLeft b1 w.heap.size)
    case atStart => exact ⟨_, _, hrg0, MapO.keep H2.out (fun b e => hg0.block b (HB2.out b e) (by simp)), hg0, good_start HAPK.out.2 _⟩
    case round =>
      obtain ⟨left, cnt, hrg, h2r, hgw, G⟩ := hrel
      go_wp2_with (first
        | (at_next; refine wpList_next_ranges _ rfl _ rfl 9 keyedS heldR Value.string heldV (fun key _ hk => keyOf_string_inv Tryd.underlying9 hk) (fun v y hv => let ⟨s, e, _⟩ := heldR_inv hv; ⟨s, e⟩) b1 w.heap.size N1 _ _ _ rfl hrg ?_ ?_)
        | go_in)
      · intro _ hl0
        go_wp2
        go_ret
        exact ⟨by rw [← RES.out, all_good G.out hl0 HSZ.out]; rfl, hgw⟩
      · intro x c kl yd yp w1 cnt1 hkey hlx hv hat hrg1 hlt hg1 hs1 hen
        have hx : x.size ≤ maxLen ∧ kl = litB x := keyOf_str hkey
        obtain ⟨hxs, rfl⟩ := hx
        obtain ⟨c', hc', hy⟩ := heldR_inv hv
        obtain rfl : c = c' := by simpa using hc'
        obtain ⟨rfl, rfl⟩ := Prod.mk.inj hy
        have hgw1 : w.grownBy w1 none := hgw.andThen hg1 (fun j hj => by cases hj; exact Or.inl (Nat.le_refl _))
        have h2w1 : MapO w1 p2 l2 := h2r.keep (fun b eb => hg1.block b (Nat.lt_of_lt_of_le (HB2.out b eb) hgw.size) (fun e => by have := Option.some.inj e; have := HB2.out b eb; omega))
        have HAT := Lib.hid hat
        have hrgA := hrg1.alloc (Obj.cells #[.string c] 61)
        have hgA : w.grownBy (w1.alloc (Obj.cells #[.string c] 61)) none := hgw1.andThen (World.grownBy_alloc w1 _ none) (fun j hj => by cases hj)
        have h2A : MapO (w1.alloc (Obj.cells #[.string c] 61)) p2 l2 := h2w1.below ((Below.refl _ w1).alloc (Nat.le_refl _) _)
        have k1 : (w1.alloc (Obj.cells #[.string c] 61)).heap[w1.heap.size]? = some (.cells #[.string c] 61 (0, 0)) := World.alloc_heap_new w1 _
        have hM := Lib.hid (And.intro hrg hlt)
        clear hat hrg1 hg1 hgw1 h2w1 h2r hv hkey hgw hs1 hrg hlt
        go_upto_region 6 with (fail)
        obtain ⟨W2, hW2⟩ : ∃ W2, W2 = w1.alloc (Obj.cells #[.string c] 61) := ⟨_, rfl⟩
        rw [← hW2] at hrgA hgA h2A k1 ⊢
        obtain ⟨P1, hP1⟩ : ∃ P1, P1 = w1.heap.size := ⟨_, rfl⟩
        rw [← hP1] at k1 ⊢
        have hrun := h2A.look hxs
        have c1 : W2.cell? ⟨P1, 0, none⟩ = some (.string c) := by simpa using blk_cell k1 0
        have HH := Lib.hid (And.intro hrgA (And.intro hgA (And.intro h2A k1)))
        clear hW2 hP1 hen
        clear hrgA hgA h2A k1
        obtain ⟨o, ho⟩ : ∃ o, o = lookP l2 x := ⟨_, rfl⟩
        rw [← ho] at hrun
        have HO := Lib.hid ho
        clear ho
        cases o with
        | none =>
          have hbad : Lib.goodD eqT (mapD l2) (litB x, .lit (litB c)) = false := by rw [goodT, ← HO.out]; rfl
          go_wp2
          go_ret
          exact ⟨by rw [← RES.out, bad_false HAPK.out.1 HAPK.out.2 HAT.out hbad]; rfl, HH.out.2.1.andThen (World.grownBy_alloc W2 _ none) (fun j hj => by cases hj)⟩
        | some u =>
          have hrun' : (Instr.lookup 51 (.map p2) (.string x) true).run Tryd.prog W2 = .ok (.tuple #[.agg #[.string u], .bool true]) W2 := hrun
          clear hrun
          have c1' : (W2.alloc (Obj.cells #[.string u] 61)).cell? ⟨P1, 0, none⟩ = some (.string c) := (((Below.refl _ W2).alloc (Nat.le_refl _) (Obj.cells #[.string u] 61)).cell (p := ⟨P1, 0, none⟩) (Array.getElem?_eq_some_iff.1 HH.out.2.2.2).1).trans c1
          have hg2 := fun (W : World) a b => eq_held .neq W a b c u
          have HG2 : Hid (w.grownBy (W2.alloc (Obj.cells #[.string u] 61)) none ∧ (W2.alloc (Obj.cells #[.string u] 61)).ranges Tryd.prog 9 heldR b1 w.heap.size N1 (.map es1) (fun z => left z && !z.sameKey (litB x)) cnt1 ∧ MapO (W2.alloc (Obj.cells #[.string u] 61)) p2 l2) := Lib.hid ⟨HH.out.2.1.andThen (World.grownBy_alloc W2 _ none) (fun j hj => by cases hj), HH.out.1.alloc _, HH.out.2.2.1.below ((Below.refl _ W2).alloc (Nat.le_refl _) _)⟩
          by_cases hcu : c = u
          · subst hcu
            have hne2 := fun (W : World) => ne_held_same W c
            have hgood : Lib.goodD eqT (mapD l2) (litB x, .lit (litB c)) = true := by rw [goodT, ← HO.out]; simp
            go_wp2
            refine ⟨⟨_, cnt1, HG2.out.2.1, HG2.out.2.2, HG2.out.1, good_step HAPK.out.1 HAPK.out.2 HAT.out G.out hgood⟩, ?_⟩
            rw [HG2.out.2.1.left_eq, hM.out.1.left_eq]
            exact hM.out.2
          · have hne2 := fun (W : World) => ne_held_other W hcu
            have hbad : Lib.goodD eqT (mapD l2) (litB x, .lit (litB c)) = false := by rw [goodT, ← HO.out]; simpa using fun e => hcu e.symm
            go_wp2
            go_ret
            exact ⟨by rw [← RES.out, bad_false HAPK.out.1 HAPK.out.2 HAT.out hbad]; rfl, HG2.out.1⟩
  · have hne : ¬ ((N1 : Int) = (N2 : Int)) := fun e => hsz (by exact_mod_cast e)
    have hneb : ((N1 : Int) == (N2 : Int)) = false := by simpa using hne
    go_enter Tryd.func22, Tryd.ntmps22
    go_wp2
    go_ret
    exact ⟨by rw [← RES.out, sizes_false (by rw [hsz1, mapD_size, ← HN2.out]; exact hsz), show ((N1 : Int) != (N2 : Int)) = true by simp [hne]]; rfl, World.grownBy.refl _ _⟩
set_option maxHeartbeats 4000000 in
set_option maxRecDepth 100000 in
theorem equal_nil {w : World} {p2 : Option Nat} {l2 : List PV} (h2 : MapO w p2 l2) :
    Calls Tryd.prog 22 #[.map none, .map p2] w fun e W' => e = .returned (.bool (decide (([] : List PV) = l2))) ∧ w.grownBy W' none := by
  have l1' := fun ty => (show MapO w none [] from rfl).len ty
  have l2' := fun ty => h2.len ty
  have hrg := run_range_nilMap (P := Tryd.prog) w 51 _ _ Tryd.underlying51
  have hnx : ∀ ty, (Instr.next (.pointer (some ⟨w.heap.size, 0, none⟩)) false ty).run Tryd.prog (w.alloc (.mapIter none 0 #[] 0)) = _ := fun ty => run_next_nilMap _ ty 0 0 #[]
  cases l2 with
  | nil =>
    clear h2
    go_enter Tryd.func22, Tryd.ntmps22
    go_wp2
    refine wp_loop_rounds 1 ?_
    rw [rounds_succ]
    go_wp2
    go_ret
    exact ⟨rfl, World.grownBy_alloc w _ none⟩
  | cons a r =>
    obtain ⟨N, hN⟩ : ∃ N, N = (a :: r).length := ⟨_, rfl⟩
    rw [← hN] at l2'
    have hne : ¬ ((0 : Int) = (N : Int)) := by rw [hN]; simp; omega
    clear h2 hN
    go_enter Tryd.func22, Tryd.ntmps22
    go_wp2
    go_ret
    exact ⟨rfl, World.grownBy.refl _ _⟩
theorem equal_any {w : World} {p1 p2 : Option Nat} {l1 l2 : List PV} (h1 : MapO w p1 l1) (h2 : MapO w p2 l2) (s1 : SortedP l1) (s2 : SortedP l2) :
    Calls Tryd.prog 22 #[.map p1, .map p2] w fun e W' => e = .returned (.bool (decide (l1 = l2))) ∧ Below w.heap.size w W' := by
  have gb : ∀ {W' : World}, w.grownBy W' none → Below w.heap.size w W' := fun hg => (Below.refl _ w).grown hg (Nat.le_refl _) (fun j hj => by cases hj)
  cases p1 with
  | none =>
    obtain rfl : l1 = [] := h1
    exact (equal_nil h2).mono fun _ _ ⟨he, hg⟩ => ⟨he, gb hg⟩
  | some b => exact (equal_both (show MapQ w b l1 from h1) h2 s1 s2).mono fun _ _ ⟨he, hg⟩ => ⟨he, gb hg⟩
theorem same_maps {w : World} {p1 p2 : Option Nat} {l1 l2 : List PV} (a b : Value) (h1 : MapO w p1 l1) (h2 : MapO w p2 l2) (s1 : SortedP l1) (s2 : SortedP l2)
    (ha : Calls Tryd.prog 21 #[a] w fun e W' => e = .returned (.map p1) ∧ W' = w) (hb : Calls Tryd.prog 21 #[b] w fun e W' => e = .returned (.map p2) ∧ W' = w) :
    Calls Tryd.prog 13 #[a, b] w fun e W' => e = .returned (.bool (decide (l1 = l2))) ∧ Below w.heap.size w W' := by
  have HA := Lib.hid ha
  have HB := Lib.hid hb
  have HE := Lib.hid (equal_any h1 h2 s1 s2)
  obtain ⟨r, hr⟩ : ∃ r, r = decide (l1 = l2) := ⟨_, rfl⟩
  rw [← hr] at HE ⊢
  clear h1 h2 ha hb s1 s2 hr
  go_enter Tryd.func13, Tryd.ntmps13
  go_wp2_with fail
  refine HA.out.mono ?_
  rintro e W ⟨rfl, rfl⟩
  go_wp2_with fail
  refine HB.out.mono ?_
  rintro e W1 ⟨rfl, rfl⟩
  go_wp2_with fail
  refine HE.out.mono ?_
  rintro e W2 ⟨rfl, hb2⟩
  have HB2 := Lib.hid hb2
  clear hb2
  go_wp2
  go_ret
  exact ⟨rfl, HB2.out⟩
end Go.Proofs.YtfkdlmokigeemaaDoor

-- KqK
namespace Go.Proofs.YtfkdlmokigeemaaDoor
open Go.RowKit Go.Maps Go.WideMaps

/-- A state of sorted pairs; F: its blocks. -/
def PlQ (F : Nat → Prop) (w : World) (R : Nat) (l : List PV) : Prop := ∃ p, StQ w R p l ∧ SortedP l ∧ ∀ k, F k ↔ (k = R ∨ p = some k)
theorem PlQ.mk {w : World} {R : Nat} {p : Option Nat} {l : List PV} (h : StQ w R p l) (hs : SortedP l) : PlQ (fun k => k = R ∨ p = some k) w R l := ⟨p, h, hs, fun _ => Iff.rfl⟩
theorem only_of {w W : World} {F : Nat → Prop} {R : Nat} {p : Option Nat} (hF : ∀ k, F k ↔ (k = R ∨ p = some k)) (h : Only (fun x => x = R ∨ p = some x) w W) : Only F w W := h.mono fun x _ hx => (hF x).2 hx
noncomputable def lKv : KvK TabK where
  grew := TabK.grew
  Pl := PlQ
  keep := fun {F G w w' R l} ⟨p, h, hs, hF⟩ ho hd => ⟨p, h.keep (ho.block R h.lt (hd R ((hF R).2 (.inl rfl)))) (fun b e => ho.block b (h.blt b e) (hd b ((hF b).2 (.inr e)))), hs, hF⟩
  lt := fun {F w R l} ⟨p, h, _, hF⟩ k hk => by
    rcases (hF k).1 hk with e | e
    · rw [e]; exact h.lt
    · exact h.blt k e
  sorted := fun ⟨_, _, hs, _⟩ => hs
  new := fun w _ => (new_any w).mono fun e W' ⟨he, hw⟩ => by
    subst hw
    refine ⟨_, w.heap.size, he, PlQ.mk (p := none) ⟨World.alloc_heap_new w _, rfl⟩ SortedP.nil, fun k hk => ?_, (Below.refl _ w).alloc (Nat.le_refl _) _⟩
    rcases hk with e | e
    · omega
    · cases e
  do_ := fun {F w R l} v ⟨p, h, hs, hF⟩ hT hl hv _ => (do_any R p l v w h hT hs hl hv).mono fun e W' ⟨he, hc⟩ => by
    obtain ⟨p', s', hp'⟩ := hc.ex
    refine ⟨he, _, PlQ.mk s' (doP_sorted hs v.m), only_of hF hc.only, fun k hk => ?_⟩
    rcases hk with e | e
    · exact .inl ((hF k).2 (.inl e))
    · rcases hp' k e with e' | e'
      · exact .inl ((hF k).2 (.inr e'))
      · exact .inr e'
  doNil := fun w v _ _ => Do_nil v w
  get := fun k ⟨_, h, _, _⟩ hk => get_any h k hk
  getNil := fun w k hk => get_nil w k hk
  len := fun ⟨_, h, _, _⟩ => (len_any h).mono fun _ _ ⟨he, hw⟩ => ⟨he, by rw [hw]; exact Below.refl _ _⟩
  lenNil := fun w => (len_nil w).mono fun _ _ ⟨he, hw⟩ => ⟨he, by rw [hw]; exact Below.refl _ _⟩
  copy := fun {F w R l} ⟨p, h, hs, hF⟩ _ _ => (copy_any h).mono fun e W' ⟨S, q, he, hS, h1, h2, hb⟩ => ⟨_, S, he, PlQ.mk hS hs, fun k hk => by
    rcases hk with e | e
    · rw [e]; exact h1
    · exact h2 k e, hb⟩
  copyNil := fun w _ => copy_nil w
  same := fun {F G w R S l m} ⟨p, h, hs, _⟩ ⟨q, h', hs', _⟩ _ _ _ => ⟨decide (l = m), decide_eq_true_iff, same_maps _ _ h.map h'.map hs hs' (all_any h) (all_any h')⟩
  sameNil := fun {G w S m} ⟨q, h', hs', _⟩ _ _ => ⟨decide (([] : List PV) = m), by rw [decide_eq_true_iff]; exact eq_comm, same_maps (p1 := none) (l1 := []) _ _ rfl h'.map SortedP.nil hs' (all_nil w) (all_any h')⟩
end Go.Proofs.YtfkdlmokigeemaaDoor
