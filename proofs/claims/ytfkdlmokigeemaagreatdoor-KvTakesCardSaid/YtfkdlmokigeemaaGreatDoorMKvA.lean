/- Pairs of texts as they lie; the reference's Find. The reference's Without: pairs without a key. The reference's With: pairs with a key's value, in its place. The reference's swap. The reference's digits. The reference's Decimal. The reference's Number. The reference's add. The reference's Bytes: a state's bytes. -/
import Derived.Test.YtfkdlmokigeemaaGreatDoorMBase
import Derived.Test.YtfkdlmokigeemaaGreatDoorCmSpec
import Derived.Deep.DeepCutAuto
import Derived.Maps.AppendAt
import Derived.IntWalk
import Derived.Test.YtfkdlmokigeemaaGreatDoorFoldMath
-- KvSpec
namespace Go.Proofs.YtfkdlmokigeemaaGreatDoor
open Go.RowKit

/-- A key and its value. -/
abbrev PV := ByteArray × ByteArray
/-- Pairs that lie in a row. -/
def HasP (w : World) (A : Option Addr) (l : List PV) : Prop := l ≠ [] → ∃ b o, A = some ⟨b, o, none⟩ ∧ b < w.heap.size ∧ ∀ j (h : j < l.length), w.cell? ⟨b, o + j * 2, none⟩ = some (.string l[j].1) ∧ w.cell? ⟨b, o + j * 2 + 1, none⟩ = some (.string l[j].2)
theorem HasP.below {w W : World} {A : Option Addr} {l : List PV} (h : HasP w A l) (hb : Below w.heap.size w W) : HasP W A l := fun hl => by
  obtain ⟨b, o, e, h1, h2⟩ := h hl
  exact ⟨b, o, e, Nat.lt_of_lt_of_le h1 hb.size, fun j hj => ⟨(hb.cell (p := ⟨b, o + j * 2, none⟩) h1).trans (h2 j hj).1, (hb.cell (p := ⟨b, o + j * 2 + 1, none⟩) h1).trans (h2 j hj).2⟩⟩
/-- Where a key is. -/
def findP (l : List PV) (k : ByteArray) : Nat := l.findIdx fun p => decide (p.1 = k)
def findI (l : List PV) (k : ByteArray) : Int := if findP l k < l.length then (findP l k : Int) else -1
theorem toList_inj9 {a b : ByteArray} : a.toList = b.toList ↔ a = b :=
  ⟨fun h => by rw [ByteArray.toList_eq, ByteArray.toList_eq] at h; exact ByteArray.ext (Array.ext' h), fun h => by rw [h]⟩
theorem findI_at {l : List PV} {k : ByteArray} {j : Nat} (hj : j < l.length) (h1 : l[j].1 = k) (h2 : ∀ i (hi : i < l.length), i < j → l[i].1 ≠ k) : findI l k = (j : Int) := by
  have : findP l k = j := (List.findIdx_eq hj).2 ⟨by simpa using h1, fun i hi => by simpa using h2 i (by omega) hi⟩
  rw [findI, this, if_pos hj]
theorem findI_no {l : List PV} {k : ByteArray} (h : ∀ i (hi : i < l.length), l[i].1 ≠ k) : findI l k = -1 := by
  have : ¬ findP l k < l.length := fun hlt => by
    have := List.findIdx_getElem (p := fun p : PV => decide (p.1 = k)) (xs := l) (w := hlt)
    exact h (List.findIdx (fun p : PV => decide (p.1 = k)) l) hlt (of_decide_eq_true this)
  rw [findI, if_neg this]
end Go.Proofs.YtfkdlmokigeemaaGreatDoor

-- KvList
namespace Go.Proofs.YtfkdlmokigeemaaGreatDoor
open Go.RowKit

theorem infoP : (Tryz.prog.info? 45).map (fun i => (i.zero, i.size, i.bytes)) = some (some (.agg #[.string ⟨#[]⟩, .string ⟨#[]⟩]), 2, 32) := by kernel_rfl
theorem infoP_parts : ∃ i, Tryz.prog.info? 45 = some i ∧ i.zero = some (.agg #[.string ⟨#[]⟩, .string ⟨#[]⟩]) ∧ i.size = 2 ∧ i.bytes = 32 := by
  have h := infoP
  cases hi : Tryz.prog.info? 45 with
  | none => rw [hi] at h; cases h
  | some i => rw [hi] at h; simp at h; exact ⟨i, rfl, h.1, h.2.1, h.2.2⟩
/-- The cells of pairs. -/
def cellsP (l : List PV) : List Value := l.flatMap fun p => [.string p.1, .string p.2]
theorem cellsP_len : ∀ (l : List PV), (cellsP l).length = l.length * 2
  | [] => rfl
  | p :: l => by rw [cellsP, List.flatMap_cons, List.length_append]; have := cellsP_len l; rw [cellsP] at this; rw [this, List.length_cons]; simp; omega
theorem cellsP_append (l m : List PV) : cellsP (l ++ m) = cellsP l ++ cellsP m := by simp [cellsP]
theorem cellsP_one (l : List PV) : ∀ u ∈ cellsP l, u.oneCell' = true := by
  intro u hu
  obtain ⟨p, _, hp⟩ := List.mem_flatMap.1 hu
  simp at hp
  rcases hp with rfl | rfl <;> rfl
theorem cellsP_get : ∀ (l : List PV) (j : Nat) (h : j < l.length), (cellsP l)[j * 2]? = some (.string l[j].1) ∧ (cellsP l)[j * 2 + 1]? = some (.string l[j].2)
  | p :: l, 0, _ => ⟨rfl, rfl⟩
  | p :: l, j + 1, h => by
    have := cellsP_get l j (by simpa using h)
    have e : cellsP (p :: l) = .string p.1 :: .string p.2 :: cellsP l := rfl
    rw [e, show (j + 1) * 2 = j * 2 + 1 + 1 by omega]
    simpa using this
/-- Pairs that a call owns. -/
def OwnP (base : Nat) (w : World) (v : Value) (l : List PV) : Prop := w.ownsRow base 45 2 v l.length (cellsP l)
theorem OwnP.form {base : Nat} {w : World} {v : Value} {l : List PV} (h : OwnP base w v l) : ∃ A c, v = .slice A l.length c ∧ l.length ≤ c := by
  rcases h.2 with ⟨rfl, h0⟩ | ⟨g, cap, cur, rfl, _, _, hn, _⟩
  · exact ⟨none, 0, by rw [h0], by omega⟩
  · exact ⟨_, _, rfl, hn⟩
theorem OwnP.below {base : Nat} {w w' : World} {v : Value} {l : List PV} (h : OwnP base w v l) (hb : Below w.heap.size w w') : OwnP base w' v l := by
  refine World.ownsRow.kept h (grownBy_of_below (r := none) hb) ?_
  cases v.ownBlock with
  | none => exact .inl rfl
  | some x => exact .inr (by simp)
theorem OwnP.has {base : Nat} {w : World} {A : Option Addr} {n c : Nat} {l : List PV} (h : OwnP base w (.slice A n c) l) : HasP w A l := fun hl => by
  have hl' : 0 < l.length := List.length_pos_iff.2 hl
  rcases h.2 with ⟨e, h0⟩ | ⟨g, cap, cur, e, _, hg, hn, _⟩
  · omega
  · cases e
    refine ⟨g, 0, rfl, (Array.getElem?_eq_some_iff.1 hg).1, fun j hj => ?_⟩
    have c0 := World.ownsRow.cells h (g := g) rfl (j * 2) _ (cellsP_get l j hj).1
    have c1 := World.ownsRow.cells h (g := g) rfl (j * 2 + 1) _ (cellsP_get l j hj).2
    rw [addr_add] at c0 c1
    exact ⟨c0, by rw [Nat.add_assoc]; exact c1⟩
theorem OwnP.nil (base : Nat) (w : World) : OwnP base w (.slice none 0 0) [] := World.ownsRow_nil _ _ _ _
def withoutP (l : List PV) (k : ByteArray) : List PV := l.filter fun p => decide (p.1 ≠ k)
theorem withoutP_len (l : List PV) (k : ByteArray) : (withoutP l k).length ≤ l.length := List.length_filter_le _ _
theorem withoutP_succ {l : List PV} {k : ByteArray} {j : Nat} (hj : j < l.length) : withoutP (l.take (j + 1)) k = withoutP (l.take j) k ++ (if l[j].1 ≠ k then [l[j]] else []) := by
  rw [List.take_succ_eq_append_getElem hj, withoutP, List.filter_append]
  congr 1
  by_cases h : l[j].1 = k
  · simp [h]
  · simp [h]
/-- An append of pairs to pairs that the call owns. -/
theorem wpList_append_P {ops : Array Oper} {rest : List Oper} {o : Oper} {a : Act} {w : World} {Q : Exit → Act → World → Prop} (hgd : o.guard = none) (s x : Operand)
    (ho : o.op = .call { callee := .builtin .append, args := #[s, x], argTypes := #[27, 27] }) (base : Nat) (v : Value) (l : List PV) (hs : a.eval s = v) (hown : OwnP base w v l)
    (A : Option Addr) (m c : Nat) (l2 : List PV) (hx : a.eval x = .slice A m c) (hm : m = l2.length) (hA : HasP w A l2) (hlen : l.length + m ≤ 1000000) (hbase : base ≤ w.heap.size)
    (h : ∀ v' w', OwnP base w' v' (l ++ l2) → w.grownBy w' v.ownBlock → wpList Tryz.prog ops Q rest (a.put o.dst v') w') : wpList Tryz.prog ops Q (o :: rest) a w := by
  obtain ⟨i, hi, hz, hsz, hby⟩ := infoP_parts
  by_cases h0 : l2 = []
  · subst h0
    obtain rfl : m = 0 := hm
    refine wpList_plain hgd fun K hK => ?_
    have hrun : (Builtin.append_ #[27, 27] o.type #[v, .slice A 0 c]).run Tryz.prog w = .ok v w := by
      have hfc : ∀ k, (Builtin.firstCells 2 0 (.slice A 0 k)).run Tryz.prog w = .ok #[] w := fun k => by
        cases A <;> simp [Builtin.firstCells, loadCells, loadCellsFrom]
      rcases hown.2 with ⟨rfl, _⟩ | ⟨g, cap, cur, rfl, _, hg, hnc, _⟩
      · simp [Builtin.append_, run_underlying Tryz.underlying27, sizeOf, typeInfo, hi, Builtin.lenOf, hsz, hfc]
      · simp [Builtin.append_, run_underlying Tryz.underlying27, sizeOf, typeInfo, hi, Builtin.lenOf, hsz, hfc, hnc, storeCells]
    unfold Oper.wp execOp
    simp only [ho, resolve, invoke, builtin, Sem.run_bind, Sem.run_pure, Result.andThen_ok, List.map_toArray, List.map_cons, List.map_nil, hs, hx, hrun]
    exact hK _ _ (h v w (by rw [List.append_nil]; exact hown) ⟨rfl, rfl, rfl, Nat.le_refl _, fun _ _ _ => rfl⟩)
  · obtain ⟨b, o', rfl, hb, hc⟩ := hA h0
    refine wpList_append_own_at w hgd s x 27 ho base 45 i _ 2 32 Tryz.underlying27 hi hz hsz hby rfl (by omega) v l.length (cellsP l) hs hown ⟨b, o', none⟩ m c (cellsP l2) hx (by rw [cellsP_len, hm]) (fun j u hj => ?_) (cellsP_one l2) (by simp only [maxLen]; omega) (by omega) hbase ?_
    · have hjl : j < l2.length * 2 := by rw [← cellsP_len]; exact (List.getElem?_eq_some_iff.1 hj).1
      rw [addr_add]
      rcases Nat.mod_two_eq_zero_or_one j with h2 | h2
      · have e : j = j / 2 * 2 := by omega
        have hc' := hc (j / 2) (by omega)
        have hg := cellsP_get l2 (j / 2) (by omega)
        rw [e, hg.1] at hj
        rw [e, ← hj]
        exact hc'.1
      · have e : j = j / 2 * 2 + 1 := by omega
        have hc' := hc (j / 2) (by omega)
        have hg := cellsP_get l2 (j / 2) (by omega)
        rw [e, hg.2] at hj
        rw [e, ← hj, ← Nat.add_assoc]
        exact hc'.2
    · intro v' w' h1 h2 _ _
      refine h v' w' ?_ h2
      unfold OwnP
      rw [cellsP_append, List.length_append, ← hm]
      exact h1
theorem hasP_one {w : World} (p : PV) : HasP (w.alloc (.cells #[.string p.1, .string p.2] 45)) (some ⟨w.heap.size, 0, none⟩) [p] := fun _ => by
  have h := World.alloc_heap_new w (.cells #[.string p.1, .string p.2] 45)
  refine ⟨w.heap.size, 0, rfl, (Array.getElem?_eq_some_iff.1 h).1, fun j hj => ?_⟩
  obtain rfl : j = 0 := by simpa using hj
  exact ⟨by rw [blk_cell h]; rfl, by rw [blk_cell h]; rfl⟩
set_option maxRecDepth 100000 in
set_option maxHeartbeats 4000000 in
theorem Without_any (A : Option Addr) (L c : Nat) (l : List PV) (k : ByteArray) (w : World) (hL : L = l.length) (hLm : L ≤ 100000) (hA : HasP w A l) :
    Calls Tryz.prog 23 #[.slice A L c, .string k] w fun e W' => ∃ v, e = .returned v ∧ OwnP w.heap.size W' v (withoutP l k) ∧ Below w.heap.size w W' := by
  have HL := Lib.hid hL
  have HA := Lib.hid hA
  have hLi : (L : Int) ≤ 100000 := by omega
  clear hL hA
  go_enter Tryz.func23, Tryz.ntmps23
  go_wp2
  go_loopw [5, 6] (fun s5 i wr => ∃ j : Nat, ∃ A5 c5 M, j ≤ L ∧ i = .int .i64 (j : Int) ∧ s5 = .slice A5 M c5 ∧ M ≤ j ∧ Hid (M = (withoutP (l.take j) k).length) ∧ Hid (OwnP w.heap.size wr (.slice A5 M c5) (withoutP (l.take j) k)) ∧ Hid (Below w.heap.size w wr)) (fun _ i _ => L - (intOf i).toNat)
  case atStart => exact ⟨0, none, 0, 0, Nat.zero_le _, rfl, rfl, Nat.le_refl _, Lib.hid rfl, Lib.hid (OwnP.nil _ _), Lib.hid (Below.refl _ _)⟩
  case round =>
    obtain ⟨j, A5, c5, M, hj, rfl, rfl, hMj, HM, HO, HB⟩ := hrel
    by_cases hlt : j < L
    · have hji : (j : Int) < L := by omega
      have hj1 : j < l.length := by have := HL.out; omega
      obtain ⟨b, o, e1, l1, f1⟩ := HA.out (by rintro rfl; simp at hj1)
      subst e1
      obtain ⟨t, ht⟩ : ∃ t, t = l[j].1 := ⟨_, rfl⟩
      obtain ⟨u, hu⟩ : ∃ u, u = l[j].2 := ⟨_, rfl⟩
      have g1 := (HB.out.cell (p := ⟨b, o + j * 2, none⟩) l1).trans (f1 j hj1).1
      have g2 := (HB.out.cell (p := ⟨b, o + j * 2 + 1, none⟩) l1).trans (f1 j hj1).2
      rw [← ht] at g1
      rw [← hu] at g2
      have HT := Lib.hid (And.intro ht hu)
      have hsucc := withoutP_succ (k := k) hj1
      have HS := Lib.hid hsucc
      clear ht hu f1 hsucc
      by_cases he : t = k
      · subst he
        have hneb : (t.toList != t.toList) = false := by simp
        go_wp2
        all_goals
          refine ⟨⟨j + 1, A5, c5, M, by omega, by congr 1, rfl, by omega, Lib.hid ?_, Lib.hid ?_, HB⟩, by simp only [intOf]; omega⟩
          · rw [HS.out, if_neg (by rw [← HT.out.1]; simp), List.append_nil]; exact HM.out
          · rw [HS.out, if_neg (by rw [← HT.out.1]; simp), List.append_nil]; exact HO.out
      · have hne : ¬ t.toList = k.toList := fun h => he (toList_inj9.1 h)
        have hneb : (t.toList != k.toList) = true := by simpa using hne
        have HP := Lib.hid (hasP_one (w := wr) (t, u))
        have hbn : Below wr.heap.size wr (wr.alloc (.cells #[.string t, .string u] 45)) := (Below.refl _ wr).alloc (Nat.le_refl _) _
        have HBN := Lib.hid hbn
        clear hbn
        go_wp2_with (first | (at_builtin; refine wpList_append_P rfl (.tmp 20) (.tmp 25) rfl w.heap.size (.slice A5 M c5) (withoutP (l.take j) k) rfl (HO.out.below HBN.out) (some ⟨wr.heap.size, 0, none⟩) 1 1 [(t, u)] rfl rfl HP.out (by rw [← HM.out]; omega) (Nat.le_trans HB.out.size (by simp)) ?_; intro v6 U6 hown6 hg6; have hb6 : Below w.heap.size w U6 := (HB.out.trans (Below.mono HBN.out HB.out.size)).grown hg6 (Nat.le_trans HB.out.size (by simp)) (fun x e => (World.ownsRow.lt HO.out x e).1); obtain ⟨A6, c6, rfl, _⟩ := hown6.form; have O6 := Lib.hid hown6; have B6 := Lib.hid hb6; clear hown6 hg6 hb6) | fail)
        · have hlen6 : (withoutP (l.take j) k ++ [(t, u)]).length = M + 1 := by rw [List.length_append, ← HM.out]; rfl
          have hsu : withoutP (l.take (j + 1)) k = withoutP (l.take j) k ++ [(t, u)] := by rw [HS.out, if_pos (by rw [← HT.out.1]; exact he), HT.out.1, HT.out.2]
          have HSU := Lib.hid hsu
          have HL6 := Lib.hid hlen6
          clear hsu hlen6
          refine ⟨⟨j + 1, A6, c6, M + 1, by omega, by congr 1, by rw [← HM.out], by omega, Lib.hid ?_, Lib.hid ?_, B6⟩, by simp only [intOf]; omega⟩
          · rw [HSU.out, HL6.out]
          · rw [HSU.out, ← HL6.out]; exact O6.out
        · rename_i hx
          exact absurd (by simpa using hx) hne
    · have hji : ¬ (j : Int) < L := by omega
      obtain rfl : j = L := by omega
      go_wp2
      go_ret
      refine ⟨_, rfl, ?_, HB.out⟩
      have h := HO.out
      rw [HL.out, List.take_length] at h
      exact h
end Go.Proofs.YtfkdlmokigeemaaGreatDoor

-- KvWith
namespace Go.Proofs.YtfkdlmokigeemaaGreatDoor
open Go.RowKit

/-- The order of keys. -/
def ltB (a b : ByteArray) : Bool := Op.bytesLess a.toList b.toList
def placeP (r : List PV) (k : ByteArray) : Nat := (r.takeWhile fun p => ltB p.1 k).length
def withP (l : List PV) (k v : ByteArray) : List PV := (withoutP l k).take (placeP (withoutP l k) k) ++ (k, v) :: (withoutP l k).drop (placeP (withoutP l k) k)
theorem placeP_le (r : List PV) (k : ByteArray) : placeP r k ≤ r.length := by
  unfold placeP
  exact (List.takeWhile_prefix _).length_le
theorem placeP_is : ∀ {r : List PV} {k : ByteArray} {n : Nat}, n ≤ r.length → (∀ i (h : i < r.length), i < n → ltB r[i].1 k = true) → (∀ h : n < r.length, ltB r[n].1 k = false) → placeP r k = n
  | [], k, n, hn, _, _ => by
    obtain rfl : n = 0 := by simpa using hn
    rfl
  | p :: r, k, 0, _, _, h2 => by
    have := h2 (by simp)
    simp only [List.getElem_cons_zero] at this
    unfold placeP
    rw [List.takeWhile_cons_of_neg (by simp [this])]
    rfl
  | p :: r, k, n + 1, hn, h1, h2 => by
    have h0 := h1 0 (by simp) (by omega)
    simp only [List.getElem_cons_zero] at h0
    have ih := placeP_is (r := r) (k := k) (n := n) (by simpa using hn) (fun i h hi => by
      have := h1 (i + 1) (by simpa using h) (by omega)
      simpa using this) (fun h => by
      have := h2 (by simpa using h)
      simpa using this)
    unfold placeP at ih ⊢
    rw [List.takeWhile_cons_of_pos (by simp [h0]), List.length_cons, ih]
theorem withP_len (l : List PV) (k v : ByteArray) : (withP l k v).length ≤ l.length + 1 := by
  have h1 := withoutP_len l k
  have h2 := placeP_le (withoutP l k) k
  unfold withP
  rw [List.length_append, List.length_cons, List.length_take, List.length_drop]
  omega
theorem OwnP.mono {b b' : Nat} {w : World} {v : Value} {l : List PV} (h : OwnP b w v l) (hb : b' ≤ b) : OwnP b' w v l := by
  refine ⟨h.1, ?_⟩
  rcases h.2 with h2 | ⟨g, cap, cur, e, h1, h2⟩
  · exact .inl h2
  · exact .inr ⟨g, cap, cur, e, Nat.le_trans hb h1, h2⟩
theorem HasP.take {w : World} {A : Option Addr} {l : List PV} (h : HasP w A l) (n : Nat) : HasP w A (l.take n) := fun hn => by
  obtain ⟨b, o, e, h1, h2⟩ := h (fun e => hn (by rw [e]; simp))
  refine ⟨b, o, e, h1, fun j hj => ?_⟩
  have hj' : j < l.length := by rw [List.length_take] at hj; omega
  rw [List.getElem_take]
  exact h2 j hj'
theorem run_uptoP (w : World) (A : Option Addr) (L c N : Nat) (h : N ≤ c) (_hc : N ≤ 1000000000) : (Instr.sliceAt 27 (.slice A L c) none (some (.int .i64 (N : Int))) none).run Tryz.prog w = .ok (.slice A N c) w := by
  have h1 : (N : Int) ≤ c := by omega
  cases A <;> simp [go_sem, h1]
theorem run_fromP (A : Option Addr) (L c n : Nat) (h1 : n ≤ L) (h2 : L ≤ c) (_hc : L ≤ 1000000000) : ∃ A', (∀ w : World, (Instr.sliceAt 27 (.slice A L c) (some (.int .i64 (n : Int))) none none).run Tryz.prog w = .ok (.slice A' (L - n) (c - n)) w) ∧ ∀ b o, A = some ⟨b, o, none⟩ → n < L → A' = some ⟨b, o + n * 2, none⟩ := by
  have e1 : (0 : Int) ≤ (n : Int) := by omega
  have e2 : (n : Int) ≤ (L : Int) := by omega
  have e3 : (L : Int) ≤ (c : Int) := by omega
  cases A with
  | none =>
    refine ⟨none, fun w => ?_, fun _ _ e => by cases e⟩
    simp [go_sem, e1, e2]
  | some a =>
    by_cases hcn : c = n
    · refine ⟨some a, fun w => ?_, fun b o e h => by omega⟩
      simp [go_sem, e1, e2, hcn]
    · refine ⟨some (a.add (n * 2)), fun w => ?_, fun b o e _ => by cases e; exact congrArg some (addr_add b o (n * 2))⟩
      simp [go_sem, e1, e2, hcn]
theorem HasP.drop {w : World} {A A' : Option Addr} {l : List PV} {n : Nat} (h : HasP w A l) (hA : ∀ b o, A = some ⟨b, o, none⟩ → n < l.length → A' = some ⟨b, o + n * 2, none⟩) : HasP w A' (l.drop n) := fun hn => by
  have hm : n < l.length := Nat.lt_of_not_le (fun hle => hn (List.drop_eq_nil_of_le hle))
  obtain ⟨b, o, e, h1, h2⟩ := h (fun e => by rw [e] at hm; simp at hm)
  refine ⟨b, o + n * 2, hA b o e hm, h1, fun j hj => ?_⟩
  have hj' : n + j < l.length := by rw [List.length_drop] at hj; omega
  rw [List.getElem_drop]
  have := h2 (n + j) hj'
  rw [show o + n * 2 + j * 2 = o + (n + j) * 2 by omega]
  exact this
set_option maxRecDepth 100000 in
set_option maxHeartbeats 4000000 in
theorem With_any (A : Option Addr) (L c : Nat) (l : List PV) (k v : ByteArray) (w : World) (hL : L = l.length) (hLm : L ≤ 100000) (hA : HasP w A l) :
    Calls Tryz.prog 22 #[.slice A L c, .string k, .string v] w fun e W' => ∃ x, e = .returned x ∧ OwnP w.heap.size W' x (withP l k v) ∧ Below w.heap.size w W' := by
  have HL := Lib.hid hL
  have HA := Lib.hid hA
  clear hL hA
  go_enter Tryz.func22, Tryz.ntmps22
  go_wp2_with fail
  refine (Without_any A L c l k w HL.out hLm HA.out).mono ?_
  rintro e W1 ⟨vr, rfl, ho, hb⟩
  obtain ⟨r, hr⟩ : ∃ r, r = withoutP l k := ⟨_, rfl⟩
  rw [← hr] at ho
  have hrl : r.length ≤ 100000 := by have := withoutP_len l k; rw [← hr] at this; have := HL.out; omega
  obtain ⟨Ar, cr, rfl, hrc⟩ := ho.form
  obtain ⟨M, hM⟩ : ∃ M, M = r.length := ⟨_, rfl⟩
  rw [← hM] at ho hrl hrc ⊢
  have HR := Lib.hid (And.intro hr hM)
  have HO := Lib.hid ho
  have HB := Lib.hid hb
  have HP := Lib.hid ho.has
  have hMi : (M : Int) ≤ 100000 := by omega
  have hMc : (M : Int) ≤ cr := by omega
  clear ho hb hr hM
  go_wp2
  go_loopw [8] (fun i wr => wr = W1 ∧ ∃ j : Nat, j ≤ M ∧ i = .int .i64 (j : Int) ∧ Hid (∀ x (h1 : x < r.length), x < j → ltB r[x].1 k = true)) (fun i _ => M - (intOf i).toNat)
  case atStart => exact ⟨rfl, 0, Nat.zero_le _, rfl, Lib.hid (fun x _ h => by omega)⟩
  case round =>
    obtain ⟨rfl, j, hj, rfl, HJ⟩ := hrel
    by_cases hlt : j < M
    · have hji : (j : Int) < M := by omega
      have hj1 : j < r.length := by have := HR.out.2; omega
      obtain ⟨b, o, e1, l1, f1⟩ := HP.out (by rintro rfl; simp at hj1)
      subst e1
      obtain ⟨t, ht⟩ : ∃ t, t = r[j].1 := ⟨_, rfl⟩
      have g1 := (f1 j hj1).1
      rw [← ht] at g1
      have HT := Lib.hid ht
      clear ht f1
      cases hc : ltB t k with
      | true =>
        have hcb : Op.bytesLess t.toList k.toList = true := hc
        go_wp2
        refine ⟨⟨trivial, j + 1, by omega, by congr 1, Lib.hid (fun x h1 h2 => ?_)⟩, by simp only [intOf]; omega⟩
        by_cases hx : x < j
        · exact HJ.out x h1 hx
        · obtain rfl : x = j := by omega
          rw [← HT.out]
          exact hc
      | false =>
        have hcb : Op.bytesLess t.toList k.toList = false := hc
        have HPL := Lib.hid (placeP_is (r := r) (k := k) (n := j) (by omega) HJ.out (fun h => by rw [← HT.out]; exact hc))
        have hji2 : (j : Int) ≤ M := by omega
        have hjc : (j : Int) ≤ cr := by omega
        have hjm : j ≤ 100000 := by omega
        obtain ⟨A7, hfr, hA7⟩ := run_fromP (some ⟨b, o, none⟩) M cr j (by omega) hrc (by omega)
        have HFD := Lib.hid (HP.out.drop (n := j) (fun b o e h => hA7 b o e (by have := HR.out.2; omega)))
        have htl : j = (r.take j).length := by rw [List.length_take]; have := HR.out.2; omega
        have hl5 : (r.take j ++ [(k, v)]).length = j + 1 := by rw [List.length_append, ← htl]; rfl
        have HTL := Lib.hid (And.intro htl hl5)
        clear hA7 htl hl5
        go_wp2_with (first | (at_builtin; refine wpList_append_P rfl (.const (.slice none 0 0)) (.tmp 30) rfl wr.heap.size (.slice none 0 0) [] rfl (OwnP.nil _ _) (some ⟨b, o, none⟩) j cr (r.take j) rfl HTL.out.1 (HP.out.take j) (by show 0 + j ≤ 1000000; omega) (Nat.le_refl _) ?_; intro v4 U4 hown4 hg4; rw [List.nil_append] at hown4; have hb4 : Below wr.heap.size wr U4 := (Below.refl _ wr).grown hg4 (Nat.le_refl _) (fun x e => by cases e); obtain ⟨A4, c4, rfl, _⟩ := hown4.form; rw [← HTL.out.1] at hown4 ⊢; have O4 := Lib.hid hown4; have B4 := Lib.hid hb4; clear hown4 hg4 hb4) | (at_builtin; refine wpList_append_P rfl (.tmp 32) (.tmp 36) rfl wr.heap.size (.slice A4 j c4) (r.take j) rfl (O4.out.below ((Below.refl U4.heap.size U4).alloc (Nat.le_refl _) _)) (some ⟨U4.heap.size, 0, none⟩) 1 1 [(k, v)] rfl rfl (hasP_one (w := U4) (k, v)) (by rw [← HTL.out.1]; omega) (Nat.le_trans B4.out.size (by simp)) ?_; intro v5 U5 hown5 hg5; have hb5 : Below wr.heap.size wr U5 := (B4.out.trans (Below.mono ((Below.refl U4.heap.size U4).alloc (Nat.le_refl _) _) B4.out.size)).grown hg5 (Nat.le_trans B4.out.size (by simp)) (fun x e => (World.ownsRow.lt O4.out x e).1); obtain ⟨A5, c5, rfl, _⟩ := hown5.form; rw [HTL.out.2] at hown5 ⊢; have O5 := Lib.hid hown5; have B5 := Lib.hid hb5; have H5 := Lib.hid (HFD.out.below hb5); clear hown5 hg5 hb5) | (at_builtin; refine wpList_append_P rfl (.tmp 38) (.tmp 41) rfl wr.heap.size (.slice A5 (j + 1) c5) (r.take j ++ [(k, v)]) rfl O5.out A7 (M - j) (cr - j) (r.drop j) rfl (by rw [List.length_drop, ← HR.out.2]) H5.out (by rw [HTL.out.2]; omega) B5.out.size ?_; intro v6 U6 hown6 hg6; have hb6 : Below wr.heap.size wr U6 := B5.out.grown hg6 B5.out.size (fun x e => (World.ownsRow.lt O5.out x e).1); obtain ⟨A6, c6, rfl, _⟩ := hown6.form; obtain ⟨n6, hn6⟩ : ∃ n6, n6 = (r.take j ++ [(k, v)] ++ r.drop j).length := ⟨_, rfl⟩; rw [← hn6] at hown6 ⊢; have O6 := Lib.hid hown6; have B6 := Lib.hid hb6; clear hn6 hown6 hg6 hb6) | fail)
        all_goals
          go_ret
          refine ⟨_, rfl, ?_, HB.out.trans (Below.mono B6.out HB.out.size)⟩
          have h := O6.out
          unfold withP
          rw [← HR.out.1, HPL.out]
          rw [List.append_assoc] at h
          exact h.mono HB.out.size
    · have hji : ¬ (j : Int) < M := by omega
      obtain rfl : j = M := by omega
      have HPL := Lib.hid (placeP_is (r := r) (k := k) (n := j) (by have := HR.out.2; omega) HJ.out (fun h => by have := HR.out.2; omega))
      have hjc : (j : Int) ≤ cr := by omega
      have hjm : j ≤ 100000 := by omega
      obtain ⟨A7, hfr, hA7⟩ := run_fromP Ar j cr j (by omega) hrc (by omega)
      have HFD := Lib.hid (HP.out.drop (n := j) (fun b o e h => hA7 b o e (by have := HR.out.2; omega)))
      have htl : j = (r.take j).length := by rw [List.length_take]; have := HR.out.2; omega
      have hl5 : (r.take j ++ [(k, v)]).length = j + 1 := by rw [List.length_append, ← htl]; rfl
      have HTL := Lib.hid (And.intro htl hl5)
      clear hA7 htl hl5
      go_wp2_with (first | (at_builtin; refine wpList_append_P rfl (.const (.slice none 0 0)) (.tmp 30) rfl wr.heap.size (.slice none 0 0) [] rfl (OwnP.nil _ _) Ar j cr (r.take j) rfl HTL.out.1 (HP.out.take j) (by show 0 + j ≤ 1000000; omega) (Nat.le_refl _) ?_; intro v4 U4 hown4 hg4; rw [List.nil_append] at hown4; have hb4 : Below wr.heap.size wr U4 := (Below.refl _ wr).grown hg4 (Nat.le_refl _) (fun x e => by cases e); obtain ⟨A4, c4, rfl, _⟩ := hown4.form; rw [← HTL.out.1] at hown4 ⊢; have O4 := Lib.hid hown4; have B4 := Lib.hid hb4; clear hown4 hg4 hb4) | (at_builtin; refine wpList_append_P rfl (.tmp 32) (.tmp 36) rfl wr.heap.size (.slice A4 j c4) (r.take j) rfl (O4.out.below ((Below.refl U4.heap.size U4).alloc (Nat.le_refl _) _)) (some ⟨U4.heap.size, 0, none⟩) 1 1 [(k, v)] rfl rfl (hasP_one (w := U4) (k, v)) (by rw [← HTL.out.1]; omega) (Nat.le_trans B4.out.size (by simp)) ?_; intro v5 U5 hown5 hg5; have hb5 : Below wr.heap.size wr U5 := (B4.out.trans (Below.mono ((Below.refl U4.heap.size U4).alloc (Nat.le_refl _) _) B4.out.size)).grown hg5 (Nat.le_trans B4.out.size (by simp)) (fun x e => (World.ownsRow.lt O4.out x e).1); obtain ⟨A5, c5, rfl, _⟩ := hown5.form; rw [HTL.out.2] at hown5 ⊢; have O5 := Lib.hid hown5; have B5 := Lib.hid hb5; have H5 := Lib.hid (HFD.out.below hb5); clear hown5 hg5 hb5) | (at_builtin; refine wpList_append_P rfl (.tmp 38) (.tmp 41) rfl wr.heap.size (.slice A5 (j + 1) c5) (r.take j ++ [(k, v)]) rfl O5.out A7 0 (cr - j) (r.drop j) rfl (by rw [List.length_drop, ← HR.out.2]; omega) H5.out (by rw [HTL.out.2]; omega) B5.out.size ?_; intro v6 U6 hown6 hg6; have hb6 : Below wr.heap.size wr U6 := B5.out.grown hg6 B5.out.size (fun x e => (World.ownsRow.lt O5.out x e).1); obtain ⟨A6, c6, rfl, _⟩ := hown6.form; obtain ⟨n6, hn6⟩ : ∃ n6, n6 = (r.take j ++ [(k, v)] ++ r.drop j).length := ⟨_, rfl⟩; rw [← hn6] at hown6 ⊢; have O6 := Lib.hid hown6; have B6 := Lib.hid hb6; clear hn6 hown6 hg6 hb6) | fail)
      all_goals
        go_ret
        refine ⟨_, rfl, ?_, HB.out.trans (Below.mono B6.out HB.out.size)⟩
        have h := O6.out
        unfold withP
        rw [← HR.out.1, HPL.out]
        rw [List.append_assoc] at h
        exact h.mono HB.out.size
end Go.Proofs.YtfkdlmokigeemaaGreatDoor

-- KvSwap
namespace Go.Proofs.YtfkdlmokigeemaaGreatDoor
open Go.RowKit

/-- A key's value. -/
def lookP (l : List PV) (k : ByteArray) : Option ByteArray := (l.find? fun p => decide (p.1 = k)).map (·.2)
theorem find_cases : ∀ (l : List PV) (k : ByteArray), (findI l k = -1 ∧ lookP l k = none) ∨ ∃ j, ∃ h : j < l.length, findI l k = (j : Int) ∧ lookP l k = some l[j].2 := by
  intro l k
  have key : (findP l k = l.length ∧ lookP l k = none) ∨ ∃ h : findP l k < l.length, lookP l k = some l[findP l k].2 := by
    induction l with
    | nil => exact .inl ⟨rfl, rfl⟩
    | cons p l ih =>
      by_cases hp : p.1 = k
      · refine .inr ?_
        have e : findP (p :: l) k = 0 := by simp [findP, List.findIdx_cons, hp]
        have e2 : lookP (p :: l) k = some p.2 := by simp [lookP, hp]
        exact ⟨by rw [e]; simp, by rw [e2]; simp [e]⟩
      · have e : findP (p :: l) k = findP l k + 1 := by simp [findP, List.findIdx_cons, hp]
        have e2 : lookP (p :: l) k = lookP l k := by simp [lookP, hp]
        rcases ih with ⟨h1, h2⟩ | ⟨h1, h2⟩
        · exact .inl ⟨by rw [e, h1]; rfl, by rw [e2, h2]⟩
        · refine .inr ⟨by rw [e, List.length_cons]; omega, ?_⟩
          rw [e2, h2]
          simp [e]
  rcases key with ⟨h1, h2⟩ | ⟨h1, h2⟩
  · exact .inl ⟨by rw [findI, h1, if_neg (by omega)], h2⟩
  · exact .inr ⟨_, h1, by rw [findI, if_pos h1], h2⟩
def putP (o : List PV) (k : ByteArray) : Option ByteArray → List PV
  | none => o
  | some v => withP o k v
def swapP (l : List PV) (a b : ByteArray) : List PV := putP (putP (withoutP (withoutP l a) b) a (lookP l b)) b (lookP l a)
end Go.Proofs.YtfkdlmokigeemaaGreatDoor

-- KvDig
namespace Go.Proofs.YtfkdlmokigeemaaGreatDoor
open Go.RowKit

/-- Decimal digits. -/
def decN (n : Nat) : List UInt8 := if n < 10 then [UInt8.ofNat (48 + n)] else decN (n / 10) ++ [UInt8.ofNat (48 + n % 10)]
theorem decN_lt {n : Nat} (h : n < 10) : decN n = [UInt8.ofNat (48 + n)] := by rw [decN, if_pos h]
theorem decN_ge {n : Nat} (h : ¬ n < 10) : decN n = decN (n / 10) ++ [UInt8.ofNat (48 + n % 10)] := by rw [decN, if_neg h]
theorem decN_le : ∀ (k n : Nat), n < 10 ^ (k + 1) → (decN n).length ≤ k + 1
  | 0, n, h => by rw [decN_lt (by simpa using h)]; simp
  | k + 1, n, h => by
    by_cases h10 : n < 10
    · rw [decN_lt h10]; simp
    · have := decN_le k (n / 10) (by rw [Nat.pow_succ] at h; omega)
      rw [decN_ge h10, List.length_append, List.length_singleton]
      omega
theorem decN_len (n : Nat) (h : n < 18446744073709551616) : (decN n).length ≤ 20 := decN_le 19 n (by omega)
theorem wrap_u64 {x : Int} (h0 : 0 ≤ x) (h1 : x < 18446744073709551616) : IntKind.u64.wrap x = x := by
  simp [IntKind.wrap, IntKind.bits, IntKind.signed]
  omega
theorem wrap_u8 {x : Int} (h0 : 0 ≤ x) (h1 : x < 256) : IntKind.u8.wrap x = x := by
  simp [IntKind.wrap, IntKind.bits, IntKind.signed]
  omega
theorem run_quo10 (t : TypeId) (w : World) (n : Nat) (h : n < 18446744073709551616) : (binOp .quo t (.int .u64 (n : Int)) (.int .u64 10)).run Tryz.prog w = .ok (.int .u64 ((n / 10 : Nat) : Int)) w := by
  have e := wrap_u64 (x := (n : Int) / 10) (by omega) (by omega)
  simp [go_sem, e]
theorem run_rem10 (t : TypeId) (w : World) (n : Nat) : (binOp .rem t (.int .u64 (n : Int)) (.int .u64 10)).run Tryz.prog w = .ok (.int .u64 ((n % 10 : Nat) : Int)) w := by
  have e : (n : Int).tmod 10 = (n : Int) % 10 := Int.tmod_eq_emod_of_nonneg (by omega)
  simp [go_sem, e]
theorem run_add48 (t : TypeId) (w : World) (n : Nat) (h : n ≤ 1000) : (binOp .add t (.int .u64 48) (.int .u64 (n : Int))).run Tryz.prog w = .ok (.int .u64 ((48 + n : Nat) : Int)) w := by
  have e := wrap_u64 (x := 48 + (n : Int)) (by omega) (by omega)
  simp [go_sem, e]
theorem run_cv85 (w : World) (n : Nat) (h : n < 256) : (convert 70 5 (.int .u64 (n : Int))).run Tryz.prog w = .ok (.int .u8 (n : Int)) w := by
  have e := wrap_u8 (x := (n : Int)) (by omega) (by omega)
  simp [go_sem, e]
theorem run_bs9 (w : World) (x : Int) : (Instr.buildSlice 38 1 #[(0, .int .u8 x)]).run Tryz.prog w = .ok (.slice (some ⟨w.heap.size, 0, none⟩) 1 1) (w.alloc (.cells #[.int .u8 x] 5)) := by
  simp [go_sem, Instr.buildSlice]
theorem isB_nine (w : World) (n : Nat) (h : n < 256) : IsB (w.alloc (.cells #[.int .u8 (n : Int)] 5)) (.slice (some ⟨w.heap.size, 0, none⟩) 1 1) [UInt8.ofNat n] := by
  have h1 := World.alloc_heap_new w (.cells #[.int .u8 (n : Int)] 5)
  refine ⟨_, 1, 1, rfl, rfl, fun _ => ⟨w.heap.size, 0, rfl, (Array.getElem?_eq_some_iff.1 h1).1, fun j hj => ?_⟩⟩
  obtain rfl : j = 0 := by simpa using hj
  rw [blk_cell h1]
  simp only [List.getElem_cons_zero, enc_ofNat h]
  rfl
section
variable {n : Nat} {Q : Exit → Act → World → Prop} {ops : Array Oper} {i : Nat} {o : Oper} {a : Act} {w : World} {K : Act → World → Prop}
theorem step_bs9 {y : Operand} {x : Int} (hi : ops[i]? = some o) (hw : Region.wanted o (yielded ops a.tmps) = true) (ho : o.op = .buildSlice 38 1 #[(0, y)]) (hy : a.eval y = .int .u8 x) (h : K (a.put o.dst (.slice (some ⟨w.heap.size, 0, none⟩) 1 1)) (w.alloc (.cells #[.int .u8 x] 5))) : wpOpIn Fence.wide n Tryz.prog ops Q i K a w :=
  step_run hi hw (by rw [ho]; intro c h; cases h) (by simp [Oper.about, ho]) (by
    have hb := run_bs9 w x
    simp [execOp, ho, hy, hb]) h
theorem step_callK {f : FuncId} {xs : Array Operand} {ts : Array TypeId} {vs : Array Value} (hi : ops[i]? = some o) (hw : Region.wanted o (yielded ops a.tmps) = true)
    (ho : o.op = .call { callee := .value (.func f), args := xs, argTypes := ts }) (eg : ∀ args w, (callFunc f args).run Tryz.prog w = .ok (.enter f args) w) (hxs : xs.map a.eval = vs) (hc : Calls Tryz.prog f vs w fun e w' => ∃ v, e = .returned v ∧ K (a.put o.dst v) w') : wpOpIn Fence.wide n Tryz.prog ops Q i K a w := by
  refine step_call hi hw ho trivial (fun h => by cases h) eg ?_
  rw [hxs]
  exact callsIn_wide.2 hc
end
def oDG0 (p : String) : Oper := { dst := some 10, op := Op.move (Operand.tmp 0), type := 70, pos := p, after := #[], guard := none }
def oDG1 (p : String) : Oper := { dst := some 11, op := Op.binOp BinOp.quo 70 (Operand.tmp 10) (Operand.const (Value.int IntKind.u64 10)) 70, type := 70, pos := p, after := #[{ on := 0, ground := Ground.data }], guard := none }
def oDG3 (p : String) : Oper := { dst := some 13, op := Op.move (Operand.tmp 0), type := 70, pos := p, after := #[], guard := none }
def oDG4 (p : String) : Oper := { dst := some 14, op := Op.binOp BinOp.rem 70 (Operand.tmp 13) (Operand.const (Value.int IntKind.u64 10)) 70, type := 70, pos := p, after := #[{ on := 3, ground := Ground.data }], guard := none }
def oDG5 (p : String) : Oper := { dst := some 15, op := Op.binOp BinOp.add 70 (Operand.const (Value.int IntKind.u64 48)) (Operand.tmp 14) 70, type := 70, pos := p, after := #[{ on := 4, ground := Ground.data }], guard := none }
def oDG6 (p : String) : Oper := { dst := some 16, op := Op.convert 70 5 (Operand.tmp 15), type := 5, pos := p, after := #[{ on := 5, ground := Ground.data }], guard := none }
def oDG7 (p : String) : Oper := { dst := some 17, op := Op.buildSlice 38 1 #[(0, Operand.tmp 16)], type := 38, pos := p, after := #[{ on := 6, ground := Ground.data }], guard := none }
def oDG8 (p : String) : Oper := { dst := some 18, op := Op.convert 38 9 (Operand.tmp 17), type := 9, pos := p, after := #[{ on := 7, ground := Ground.data }], guard := none }
def oDG9 (p : String) : Oper := { dst := some 19, op := Op.binOp BinOp.add 9 (Operand.tmp 12) (Operand.tmp 18) 9, type := 9, pos := p, after := #[{ on := 2, ground := Ground.data }, { on := 8, ground := Ground.data }], guard := none }
def oDG10 (p : String) : Oper := { dst := some 2, op := Op.assign (Operand.tmp 19), type := 9, pos := p, after := #[{ on := 9, ground := Ground.data }, { on := 2, ground := Ground.chain }, { on := 0, ground := Ground.phase }, { on := 1, ground := Ground.phase }, { on := 2, ground := Ground.phase }, { on := 3, ground := Ground.phase }, { on := 4, ground := Ground.phase }, { on := 5, ground := Ground.phase }, { on := 6, ground := Ground.phase }, { on := 7, ground := Ground.phase }, { on := 8, ground := Ground.phase }, { on := 9, ground := Ground.phase }], guard := none }
/-- What each slot comes to. -/
def psiDG (n : Nat) : Nat → Value → World → Prop
  | 0, v, _ => v = .int .u64 (n : Int)
  | 1, v, _ => v = .int .u64 ((n / 10 : Nat) : Int)
  | 2, v, _ => v = .string (str (decN (n / 10)))
  | 3, v, _ => v = .int .u64 (n : Int)
  | 4, v, _ => v = .int .u64 ((n % 10 : Nat) : Int)
  | 5, v, _ => v = .int .u64 ((48 + n % 10 : Nat) : Int)
  | 6, v, _ => v = .int .u8 ((48 + n % 10 : Nat) : Int)
  | 7, v, w => IsB w v ([UInt8.ofNat (48 + n % 10)])
  | 8, v, _ => v = .string (str ([UInt8.ofNat (48 + n % 10)]))
  | 9, v, _ => v = .string (str (decN (n / 10) ++ [UInt8.ofNat (48 + n % 10)]))
  | 10, v, _ => v = .string (str (decN (n / 10) ++ [UInt8.ofNat (48 + n % 10)]))
  | _, _, _ => True
theorem psiDG_grew (n : Nat) : ∀ i v w w', psiDG n i v w → Grew w w' → psiDG n i v w' := by
  intro i v w w' h hg
  rcases i with _ | _ | _ | _ | _ | _ | _ | _ | _ | _ | _ | i
  · exact h
  · exact h
  · exact h
  · exact h
  · exact h
  · exact h
  · exact h
  · exact IsB.grew h hg
  · exact h
  · exact h
  · exact h
  · trivial
end Go.Proofs.YtfkdlmokigeemaaGreatDoor

-- KvDec
namespace Go.Proofs.YtfkdlmokigeemaaGreatDoor
open Go.RowKit

/-- A number's digits. -/
def decI (n : Int) : List UInt8 := if n < 0 then 45 :: decN (-n).toNat else decN n.toNat
theorem decI_len {n : Int} (h1 : -9223372036854775808 ≤ n) (h2 : n ≤ 9223372036854775807) : (decI n).length ≤ 21 := by
  unfold decI
  split
  · have := decN_len (-n).toNat (by omega); simp; omega
  · have := decN_len n.toNat (by omega); omega
end Go.Proofs.YtfkdlmokigeemaaGreatDoor

-- KvNum
namespace Go.Proofs.YtfkdlmokigeemaaGreatDoor
open Go.RowKit

/-- What is a number's text. -/
def dig (c : UInt8) : Bool := decide (48 ≤ c.toNat ∧ c.toNat ≤ 57)
def valD (d : List UInt8) : Nat := d.foldl (fun n c => 10 * n + (c.toNat - 48)) 0
def badD (neg : Bool) (d : List UInt8) : Prop := d.length = 0 ∨ 19 < d.length ∨ (d[0]? = some 48 ∧ (1 < d.length ∨ neg = true))
open Classical in
noncomputable def numD (neg : Bool) (d : List UInt8) : Option Int := if badD neg d then none else if ¬ d.all dig then none else if neg then (if valD d ≤ 9223372036854775808 then some (-(valD d : Int)) else none) else if valD d < 9223372036854775808 then some (valD d : Int) else none
noncomputable def numM (bs : List UInt8) : Option Int := if bs[0]? = some 45 then numD true (bs.drop 1) else numD false bs
def BD (bad neg : Bool) (d : List UInt8) : Prop := bad = true ↔ badD neg d
/-- What Number answers. -/
def NumP (bs : List UInt8) (w : World) (e : Ending) (W' : World) : Prop := W' = w ∧ ∃ (x : Int) (ok : Bool), e = .returned (.tuple #[.int .i64 x, .bool ok]) ∧ numM bs = if ok then some x else none
theorem valD_succ {d : List UInt8} {k : Nat} (h : k < d.length) : valD (d.take (k + 1)) = 10 * valD (d.take k) + (d[k].toNat - 48) := by
  unfold valD
  rw [List.take_succ_eq_append_getElem h, List.foldl_append]
  rfl
theorem all_succ {d : List UInt8} {k : Nat} (h : k < d.length) (h1 : (d.take k).all dig = true) (h2 : dig d[k] = true) : (d.take (k + 1)).all dig = true := by
  rw [List.take_succ_eq_append_getElem h, List.all_append, h1]
  simp [h2]
theorem str_at (d : List UInt8) (j : Nat) (_h : j < d.length) (hj : j < (str d).size) : ((str d)[j]'hj).toNat = d[j].toNat := rfl
theorem str_drop1 (b : UInt8) (d : List UInt8) : (str (b :: d)).extract 1 (str (b :: d)).size = str d := by
  apply ByteArray.ext
  simp [str, ByteArray.size]
end Go.Proofs.YtfkdlmokigeemaaGreatDoor

-- KvAdd
namespace Go.Proofs.YtfkdlmokigeemaaGreatDoor
open Go.RowKit

/-- What Add begins from. -/
noncomputable def seedP (l : List PV) (k : ByteArray) : Option Int := match lookP l k with | none => some 0 | some v => numM v.data.toList
/-- What Add comes to: the sum, if there is one. -/
noncomputable def sumP (l : List PV) (k : ByteArray) (n : Int) : Option Int :=
  match seedP l k with
  | none => none
  | some m => if -9223372036854775808 ≤ m + n ∧ m + n ≤ 9223372036854775807 then some (m + n) else none
noncomputable def addP (l : List PV) (k : ByteArray) (n : Int) : List PV × Nat × ByteArray :=
  match sumP l k n with
  | none => (l, 2, ⟨#[]⟩)
  | some s => (withP l k (str (decI s)), 0, str (decI s))
theorem numD_range {neg : Bool} {d : List UInt8} {m : Int} (h : numD neg d = some m) : -9223372036854775808 ≤ m ∧ m ≤ 9223372036854775807 := by
  unfold numD at h
  split at h
  · cases h
  · split at h
    · cases h
    · split at h
      · split at h
        · cases h; omega
        · cases h
      · split at h
        · cases h; omega
        · cases h
theorem numM_range {bs : List UInt8} {m : Int} (h : numM bs = some m) : -9223372036854775808 ≤ m ∧ m ≤ 9223372036854775807 := by
  unfold numM at h
  split at h
  · exact numD_range h
  · exact numD_range h
theorem sumP_none {l : List PV} {k : ByteArray} {n : Int} (h : seedP l k = none) : sumP l k n = none := by rw [sumP, h]
theorem sumP_some {l : List PV} {k : ByteArray} {n m : Int} (h : seedP l k = some m) : sumP l k n = if -9223372036854775808 ≤ m + n ∧ m + n ≤ 9223372036854775807 then some (m + n) else none := by rw [sumP, h]
/-- Pairs, those that were handed in or new ones, and a reply. -/
def PR (w : World) (A : Option Addr) (l : List PV) (r : List PV × Nat × ByteArray) (e : Ending) (W' : World) : Prop := ∃ A' L' c', e = .returned (.tuple #[.slice A' L' c', .agg #[.int .u8 (r.2.1 : Int), .string r.2.2]]) ∧ L' = r.1.length ∧ HasP W' A' r.1 ∧ (A' = A ∧ r.1 = l ∨ ∀ b o m, A' = some ⟨b, o, m⟩ → w.heap.size ≤ b) ∧ Below w.heap.size w W'
theorem OwnP.lo {base n c : Nat} {w : World} {A : Option Addr} {l : List PV} (h : OwnP base w (.slice A n c) l) {b o : Nat} {m : Option Nat} (e : A = some ⟨b, o, m⟩) : base ≤ b := by
  rcases h.2 with ⟨e', _⟩ | ⟨g, cap, cur, e', hb, _⟩
  · cases e'; cases e
  · cases e'; cases e; exact hb
theorem seedP_range {l : List PV} {k : ByteArray} {m : Int} (h : seedP l k = some m) : -9223372036854775808 ≤ m ∧ m ≤ 9223372036854775807 := by
  unfold seedP at h
  split at h
  · cases h; omega
  · exact numM_range h
theorem OwnP.set {base q i : Nat} {W : World} {v a : Value} {l : List PV} (h : OwnP base W v l) (hq : q < base) : OwnP base (W.setCell ⟨q, i, none⟩ a) v l := by
  refine World.ownsRow.kept h (grownBy_set W q i a) ?_
  cases e : v.ownBlock with
  | none => exact .inl rfl
  | some x =>
    have := (World.ownsRow.lt h x e).1
    exact .inr (by simp; omega)
theorem reply_set {B q : Nat} {w W : World} {c0 c1 : Value} {t : TypeId} (a b : Value) (h : W.heap[q]? = some (.cells #[c0, c1] t (0, 0))) (hb : Below B w W) (hB : B ≤ q) (hW : B ≤ W.heap.size) :
    ((W.setCell ⟨q, 0, none⟩ a).setCell ⟨q, 1, none⟩ b).cell? ⟨q, 0, none⟩ = some a ∧ ((W.setCell ⟨q, 0, none⟩ a).setCell ⟨q, 1, none⟩ b).cell? ⟨q, 1, none⟩ = some b ∧ Below B w ((W.setCell ⟨q, 0, none⟩ a).setCell ⟨q, 1, none⟩ b) ∧ Below q W ((W.setCell ⟨q, 0, none⟩ a).setCell ⟨q, 1, none⟩ b) := by
  have h1 := blk_set h 0 a
  have h2 := blk_set h1 1 b
  have hq : q < W.heap.size := (Array.getElem?_eq_some_iff.1 h).1
  have hs : (W.setCell ⟨q, 0, none⟩ a).heap.size = W.heap.size := by simp [World.setCell]
  refine ⟨by rw [blk_cell h2 0]; rfl, by rw [blk_cell h2 1]; rfl, ?_, ?_⟩
  · exact (hb.grown (grownBy_set W q 0 a) hW (fun k e => by cases e; exact hB)).grown (grownBy_set _ q 1 b) (by omega) (fun k e => by cases e; exact hB)
  · exact ((Below.refl q W).grown (grownBy_set W q 0 a) (by omega) (fun k e => by cases e; exact Nat.le_refl _)).grown (grownBy_set _ q 1 b) (by omega) (fun k e => by cases e; exact Nat.le_refl _)
end Go.Proofs.YtfkdlmokigeemaaGreatDoor

-- KvBytes
namespace Go.Proofs.YtfkdlmokigeemaaGreatDoor
open Go.RowKit

def pairB (p : PV) : List UInt8 := txt p.1 ++ txt p.2
def pairsTo (l : List PV) (k : Nat) : List UInt8 := (l.take k).flatMap pairB
theorem pairsTo_succ {l : List PV} {k : Nat} (h : k < l.length) : pairsTo l (k + 1) = pairsTo l k ++ txt l[k].1 ++ txt l[k].2 := by
  unfold pairsTo
  rw [List.take_succ_eq_append_getElem h, List.flatMap_append, List.append_assoc]
  simp [pairB]
def bytesP (l : List PV) : List UInt8 := vb l.length ++ l.flatMap pairB
end Go.Proofs.YtfkdlmokigeemaaGreatDoor
