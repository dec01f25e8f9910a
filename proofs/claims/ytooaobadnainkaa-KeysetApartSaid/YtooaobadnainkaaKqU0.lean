/- Touches: the keys in a set, then sorted. -/
import Derived.Test.YtooaobadnainkaaLitB
import Derived.Test.YtooaobadnainkaaMKvM
import Derived.Test.YtooaobadnainkaaKvLay
import Derived.Deep.QuietTactic
import Derived.BigQuiet
import Derived.Handy
import Derived.Carry
namespace Go.Proofs.Ytooaobadnainkaa
open Go.RowKit Go.Maps Go.Sort Go.Shelf

/-- Keys as a set's datum. -/
def setD (l : List PV) : DataW Unit := .map (l.map fun p => (litB p.1, .agg []))
theorem setD_del (l : List PV) (k : ByteArray) : (setD l).del (litB k) = setD (withoutP l k) := by
  simp only [setD, DataW.del, withoutP]
  congr 1
  rw [List.filter_map]
  congr 1
  refine List.filter_congr fun p _ => ?_
  simp [same_litB]
theorem insert_setD (k v : ByteArray) : ∀ r : List PV, (∀ p ∈ r, p.1 ≠ k) → DataW.insert (litB k, (.agg [] : DataW Unit)) (r.map fun p => (litB p.1, .agg [])) = (r.take (placeP r k) ++ (k, v) :: r.drop (placeP r k)).map fun p => (litB p.1, .agg [])
  | [], _ => rfl
  | p :: r, h => by
    have hp := h p (List.mem_cons_self ..)
    have ih := insert_setD k v r (fun q hq => h q (List.mem_cons_of_mem _ hq))
    rw [List.map_cons, DataW.insert, before_litB]
    by_cases hl : ltB p.1 k = true
    · have hk : ltB k p.1 = false := by
        cases hh : ltB k p.1
        · rfl
        · have := ltB_trans hl hh
          rw [ltB_irr] at this
          cases this
      have hpl : placeP (p :: r) k = placeP r k + 1 := by simp [placeP, hl]
      rw [hpl, if_neg (by rw [hk]; decide), ih]
      rfl
    · have hl' : ltB p.1 k = false := by simpa using hl
      have hk := ltB_tot hp hl'
      have hpl : placeP (p :: r) k = 0 := by simp [placeP, hl']
      rw [hpl, if_pos hk]
      rfl
theorem setD_put (l : List PV) (k v : ByteArray) : (setD l).put (litB k) (.agg []) = setD (withP l k v) := by
  have hd := setD_del l k
  simp only [setD, DataW.del, DataW.map.injEq] at hd
  simp only [setD, DataW.put]
  rw [hd, insert_setD k v _ withoutP_ne]
  rfl
theorem setD_size (l : List PV) : Maps.size (setD l) = l.length := by simp [setD, size_eq]
theorem setD_keys (l : List PV) : strKeys (setD l) = strKeys (mapD l) := by
  rw [mapD_keys]
  simp [setD, strKeys, strOf, litB]
def SetQ (w : World) (b n : Nat) (l : List PV) : Prop := w.ownsMap Try.prog 9 unitElem b n (setD l)
theorem SetQ.put {w : World} {b n : Nat} {l : List PV} (h : SetQ w b n l) (hn : n < maxLen) {k : ByteArray} (hk : k.size ≤ maxLen) : ∃ w', (Instr.mapUpdate 51 (.map (some b)) (.string k) (.agg #[])).run Try.prog w = .ok () w' ∧ SetQ w' b (n + 1) (withP l k ⟨#[]⟩) ∧ w.grownBy w' (some b) := by
  obtain ⟨w', hrun, h1, h2⟩ := World.ownsMap.update h keyedS Try.underlying51 hn (keyL hk) unitElem_mk
  rw [setD_put _ _ ⟨#[]⟩] at h1
  exact ⟨w', hrun, h1, h2⟩
/-- What maps.Keys tells: a function over a block that holds the map. -/
def keysU (g : Nat) : Value := .func (.func 35) #[] #[.pointer (some ⟨g, 0, none⟩)]
theorem keysU_any (b : Nat) (w : World) : Calls Try.prog 27 #[.map (some b)] w fun e W' => e = .returned (keysU w.heap.size) ∧ W' = w.alloc (.cells #[.map (some b)] 51) :=
  (callsIn_wide (n := 5)).1 (lay_maps_Keys_27 (some b) w)
theorem sortedU_any {w : World} {b n : Nat} {l : List PV} (h : SetQ w b n l) (hs : SortedP l) (hl : l.length ≤ 1000000) :
    Calls Try.prog 26 #[keysU w.heap.size] (w.alloc (.cells #[.map (some b)] 51)) fun e W' => ∃ v, e = .returned v ∧ OwnS w.heap.size W' v (l.map (·.1)) ∧ Below w.heap.size w W' := by
  have hk := lay_slices_Sorted_keys_26_27 b n (setD l) _ w h (by rw [setD_size]; simp only [maxLen]; omega) (by rw [setD_size]; omega)
  refine ((callsIn_wide (n := 5)).1 hk).mono ?_
  rintro e W' ⟨v, ss, rfl, hp, hrow, _, hb⟩
  rw [setD_keys] at hp
  have hlen : ss.length = (l.map (·.1)).length := by
    rw [hp.length_eq, mapD_keys, List.length_map, List.length_map]
  have hcells := sorted_keys hs hp
  have h0 : Below w.heap.size w (w.alloc (.cells #[.map (some b)] 51)) := (Below.refl _ w).alloc (Nat.le_refl _) _
  refine ⟨v, rfl, ?_, h0.trans (Below.mono hb h0.size)⟩
  rw [hlen] at hrow
  have hrow2 : OwnS (w.alloc (.cells #[.map (some b)] 51)).heap.size W' v (l.map (·.1)) := by
    unfold OwnS
    have e1 : cellsS (l.map (·.1)) = (ss.mergeSort fun x y => decide (x ≤ y)).map encStr := by
      rw [show (fun x y => decide (x ≤ y)) = Go.leB from rfl, hcells, cellsS, List.map_map]
      rfl
    rw [e1]
    exact hrow
  exact hrow2.mono h0.size
set_option maxRecDepth 100000 in
set_option maxHeartbeats 4000000 in
theorem touches_any (a : CmdV) (w : World) (ha : a.ok w) (hn : a.ks.length ≤ 10000) : Calls Try.prog 18 #[a.val] w fun e W' => ∃ x, e = .returned x ∧ TxtS W' x (touchK a.ks) ∧ Below w.heap.size w W' := by
  obtain ⟨acl, asq, akd, KA, L, c, ks, old, new, n⟩ := a
  simp only at hn
  have HAS := Lib.hid ha.has
  have HLN : Hid (L = ks.length) := Lib.hid ha.len
  have HEA : Hid (∀ k ∈ ks, k.size ≤ maxLen) := Lib.hid ha.each
  have hLi : (L : Int) ≤ 10000 := by have := HLN.out; omega
  have HNN := Lib.hid hn
  simp only [CmdV.val, CmdV.cells]
  clear ha hn
  go_enter Try.func18, Try.ntmps18
  go_upto_region 1 with (fail)
  obtain ⟨W0, hW0⟩ : ∃ W0, W0 = w.alloc (Obj.cells #[.int .u32 (acl : Int), .int .u32 (asq : Int), .int .u8 (akd : Int), .slice KA L c, .string old, .string new, .int .i64 n] 31) := ⟨_, rfl⟩
  rw [← hW0]
  have hB0 : Below w.heap.size w W0 := by rw [hW0]; exact (Below.refl _ w).alloc (Nat.le_refl _) _
  have k0 : W0.heap[w.heap.size]? = some (.cells #[.int .u32 (acl : Int), .int .u32 (asq : Int), .int .u8 (akd : Int), .slice KA L c, .string old, .string new, .int .i64 n] 31 (0, 0)) := by rw [hW0]; exact World.alloc_heap_new w _
  obtain ⟨p, hp⟩ : ∃ p, p = w.heap.size := ⟨_, rfl⟩
  rw [← hp] at k0 ⊢
  have hmk := run_makeMap (P := Try.prog) 51 W0
  have h1 : SetQ (W0.alloc (.map #[] 0)) W0.heap.size 0 [] := World.ownsMap_made W0 _ _ _
  have hB1 : Below W0.heap.size W0 (W0.alloc (.map #[] 0)) := (Below.refl _ W0).alloc (Nat.le_refl _) _
  have k1 := (hB1.block p (Array.getElem?_eq_some_iff.1 k0).1).trans k0
  have hwB : w.heap.size ≤ W0.heap.size := hB0.size
  have hp0 : p < W0.heap.size := (Array.getElem?_eq_some_iff.1 k0).1
  obtain ⟨b, hb⟩ : ∃ b, b = W0.heap.size := ⟨_, rfl⟩
  rw [← hb] at h1 hmk hwB hp0
  obtain ⟨W1, hW1⟩ : ∃ W1, W1 = W0.alloc (.map #[] 0) := ⟨_, rfl⟩
  rw [← hW1] at h1 hB1 k1 hmk
  have HB1 := Lib.hid (And.intro (hB0.trans (Below.mono hB1 hB0.size)) (And.intro hwB hp0))
  have H1 := Lib.hid h1
  have z3 : W1.cell? ⟨p, 3, none⟩ = some (.slice KA L c) := by simpa using blk_cell k1 3
  clear hW0 hB0 k0 hp hB1 k1 hb h1 hW1 hwB hp0
  go_wp2
  go_loopw [10] (fun i wr => ∃ j : Nat, j ≤ L ∧ i = .int .i64 (j : Int) ∧ Hid (SetQ wr b j (touchP (ks.take j))) ∧ Hid (Only (fun x => x = b) W1 wr)) (fun i _ => L - (intOf i).toNat)
  case atStart => exact ⟨0, Nat.zero_le _, rfl, H1, Lib.hid (Only.refl _ _)⟩
  case round =>
    obtain ⟨j, hj, rfl, HS, HO⟩ := hrel
    by_cases hlt : j < L
    · have hji : (j : Int) < L := by omega
      have hj1 : j < ks.length := by have := HLN.out; omega
      obtain ⟨kb, ko, e1, l1, f1⟩ := HAS.out (by rintro rfl; simp at hj1)
      subst e1
      have g1 := f1 j hj1
      obtain ⟨t, ht⟩ : ∃ t, t = ks[j] := ⟨_, rfl⟩
      rw [← ht] at g1
      have g2 : wr.cell? ⟨kb, ko + j, none⟩ = some (.string t) := (World.cell?_of_block (HO.out.block kb (Nat.lt_of_lt_of_le l1 HB1.out.1.size) (fun e => by have := HB1.out.2.1; omega))).trans ((HB1.out.1.cell (p := ⟨kb, ko + j, none⟩) l1).trans g1)
      have hts : t.size ≤ maxLen := HEA.out t (by rw [ht]; exact List.getElem_mem hj1)
      have hJ : touchP (ks.take (j + 1)) = withP (touchP (ks.take j)) t ⟨#[]⟩ := by rw [touchP_succ hj1, ← ht]
      obtain ⟨W3, hrun, hm3, hg3⟩ := HS.out.put (by have := HNN.out; have := HLN.out; simp only [maxLen]; omega) hts
      have HR3 : Hid (SetQ W3 b (j + 1) (touchP (ks.take (j + 1))) ∧ Only (fun x => x = b) W1 W3) := Lib.hid ⟨by rw [hJ]; exact hm3, HO.out.grown hg3 (fun k e => .inl (Option.some.inj e).symm)⟩
      clear f1 g1 l1 ht hJ hm3 hg3
      go_wp2
      exact ⟨⟨j + 1, by omega, by congr 1, Lib.hid HR3.out.1, Lib.hid HR3.out.2⟩, by simp only [intOf]; omega⟩
    · have hji : ¬ (j : Int) < L := by omega
      obtain rfl : j = L := by omega
      have hs := HS.out
      rw [List.take_of_length_le (by have := HLN.out; omega)] at hs
      have HK := Lib.hid (keysU_any b wr)
      have hlen : (touchP ks).length ≤ ks.length := by
        have h1 := hs.size_le
        rw [setD_size, HLN.out] at h1
        exact h1
      have HSO := Lib.hid (sortedU_any hs (touchP_sorted ks) (by have := HNN.out; omega))
      have HBW : Hid (Below w.heap.size w wr) := Lib.hid (HB1.out.1.trans (HO.out.below HB1.out.1.size (fun x e => by rw [e]; exact HB1.out.2.1)))
      clear hs hlen
      go_wp2_with fail
      refine HK.out.mono ?_
      rintro e W4 ⟨rfl, rfl⟩
      go_wp2_with fail
      refine HSO.out.mono ?_
      rintro e W5 ⟨v, rfl, ho, hb5⟩
      obtain ⟨A5, c5, rfl, hc5⟩ := ho.form
      have HH := Lib.hid (And.intro ho (And.intro hb5 hc5))
      clear ho hb5 hc5
      go_wp2
      go_ret
      exact ⟨_, rfl, ⟨A5, (touchP ks).length, c5, rfl, by simp [touchK], by have := HH.out.2.2; simpa using this, HH.out.1.has⟩, HBW.out.trans (Below.mono HH.out.2.1 HBW.out.size)⟩
end Go.Proofs.Ytooaobadnainkaa
