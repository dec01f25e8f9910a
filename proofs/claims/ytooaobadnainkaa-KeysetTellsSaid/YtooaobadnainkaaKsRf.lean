/- The reference's Lone, Way and Waves. -/
import Derived.Test.YtooaobadnainkaaKsK
import Derived.Test.YtooaobadnainkaaKvTchD
import Derived.Deep.DeepCutAuto
namespace Go.Proofs.Ytooaobadnainkaa
open Go.RowKit

set_option maxRecDepth 100000 in
set_option maxHeartbeats 4000000 in
theorem refLone_any (v : CmdV) (w : World) (hv : v.ok w) (hm : v.L ≤ 1000) : Calls Try.prog 10 #[v.val] w fun e W' => e = .returned (.bool (loneM v.m)) ∧ Below w.heap.size w W' := by
  obtain ⟨W1, hW1⟩ : ∃ W1, W1 = w.alloc (Obj.cells v.cells 31) := ⟨_, rfl⟩
  have hB : Below w.heap.size w W1 := by rw [hW1]; exact (Below.refl _ w).alloc (Nat.le_refl _) _
  have k1 : W1.heap[w.heap.size]? = some (.cells v.cells 31 (0, 0)) := by rw [hW1]; exact World.alloc_heap_new w _
  have HT := Touches_any v W1 (hv.below hB) hm
  obtain ⟨r, hr⟩ : ∃ r, r = loneM v.m := ⟨_, rfl⟩
  have hr2 : r = decide (4 < (touchK v.ks).length) := hr
  rw [← hr]
  clear hr
  obtain ⟨acl, asq, akd, KA, KL, kc, ks, old, new, n⟩ := v
  simp only at hm hr2
  simp only [CmdV.val, CmdV.cells] at HT hW1 k1 ⊢
  obtain ⟨p, hp⟩ : ∃ p, p = w.heap.size := ⟨_, rfl⟩
  rw [← hp] at k1
  have z0 := blk_cell k1 0
  have z1 := blk_cell k1 1
  have z2 := blk_cell k1 2
  have z3 := blk_cell k1 3
  have z4 := blk_cell k1 4
  have z5 := blk_cell k1 5
  have z6 := blk_cell k1 6
  simp at z0 z1 z2 z3 z4 z5 z6
  have HTT := Lib.hid HT
  have HB := Lib.hid hB
  have HR := Lib.hid hr2
  clear HT hB k1 hm hv hr2
  go_enter Try.func10, Try.ntmps10
  go_upto_region 1 with (fail)
  rw [← hW1, ← hp]
  clear hW1 hp
  go_wp2_with fail
  refine HTT.out.mono ?_
  rintro e W2 ⟨x, rfl, ho, hb⟩
  obtain ⟨A, c, rfl, _⟩ := ho.form
  obtain ⟨T, hT⟩ : ∃ T, T = (touchK ks).length := ⟨_, rfl⟩
  rw [← hT]
  have hrT := HR.out
  rw [← hT] at hrT
  have H2 := Lib.hid (HB.out.trans (Below.mono hb HB.out.size))
  clear ho hb z0 z1 z2 z3 z4 z5 z6 hT HTT HR
  by_cases h4 : 4 < T
  · have h4i : (4 : Int) < T := by omega
    rw [decide_eq_true h4] at hrT
    subst hrT
    clear h4
    go_wp2
    go_ret
    exact ⟨rfl, H2.out⟩
  · have h4i : ¬ (4 : Int) < T := by omega
    rw [decide_eq_false h4] at hrT
    subst hrT
    clear h4
    go_wp2
    go_ret
    exact ⟨by show Ending.returned (.bool (decide ((4 : Int) < (T : Int)))) = _; rw [decide_eq_false (by omega)], H2.out⟩
theorem toListK {a b : ByteArray} (h : a.toList = b.toList) : a = b := by
  rw [ByteArray.toList_eq, ByteArray.toList_eq] at h
  exact ByteArray.ext (Array.ext' h)
/-- Whether two commands name a key in common. -/
def shareK (a b : List ByteArray) : Bool := a.any fun k => b.any fun j => decide (k = j)
theorem shareK_iff {a b : List ByteArray} : shareK a b = true ↔ ∃ i, ∃ h : i < a.length, ∃ j, ∃ h2 : j < b.length, a[i] = b[j] := by
  unfold shareK
  simp only [List.any_eq_true, decide_eq_true_eq]
  constructor
  · rintro ⟨x, hx, y, hy, e⟩
    obtain ⟨i, hi, rfl⟩ := List.mem_iff_getElem.1 hx
    obtain ⟨j, hj, rfl⟩ := List.mem_iff_getElem.1 hy
    exact ⟨i, hi, j, hj, e⟩
  · rintro ⟨i, hi, j, hj, e⟩
    exact ⟨_, List.getElem_mem hi, _, List.getElem_mem hj, e⟩
theorem wayM_share {a b : CM} (h : shareK a.ks b.ks = true) : wayM a b = true := by
  unfold wayM
  show (_ || shareK a.ks b.ks) = true
  rw [h, Bool.or_true]
theorem wayM_not {a b : CM} (h : shareK a.ks b.ks = false) : wayM a b = (loneM a || loneM b || decide (a.cl = b.cl)) := by
  unfold wayM
  show (_ || shareK a.ks b.ks) = _
  rw [h, Bool.or_false]
set_option maxRecDepth 100000 in
set_option maxHeartbeats 4000000 in
theorem refWay_any (a b : CmdV) (w : World) (ha : a.ok w) (hb : b.ok w) (hma : a.L ≤ 1000) (hmb : b.L ≤ 1000) : Calls Try.prog 12 #[a.val, b.val] w fun e W' => e = .returned (.bool (wayM a.m b.m)) ∧ Below w.heap.size w W' := by
  obtain ⟨W0, hW0⟩ : ∃ W0, W0 = w.alloc (Obj.cells a.cells 31) := ⟨_, rfl⟩
  obtain ⟨W1, hW1⟩ : ∃ W1, W1 = W0.alloc (Obj.cells b.cells 31) := ⟨_, rfl⟩
  have hB0 : Below w.heap.size w W0 := by rw [hW0]; exact (Below.refl _ w).alloc (Nat.le_refl _) _
  have hs0 : W0.heap.size = w.heap.size + 1 := by rw [hW0]; exact World.size_alloc _ _
  have hB1 : Below W0.heap.size W0 W1 := by rw [hW1]; exact (Below.refl _ W0).alloc (Nat.le_refl _) _
  have hs1 : W1.heap.size = W0.heap.size + 1 := by rw [hW1]; exact World.size_alloc _ _
  have kp : W1.heap[w.heap.size]? = some (.cells a.cells 31 (0, 0)) := by
    refine (hB1.block _ (by omega)).trans ?_
    rw [hW0]; exact World.alloc_heap_new w _
  have kq : W1.heap[w.heap.size + 1]? = some (.cells b.cells 31 (0, 0)) := by rw [← hs0, hW1]; exact World.alloc_heap_new W0 _
  have hB : Below w.heap.size w W1 := hB0.trans (Below.mono hB1 hB0.size)
  obtain ⟨p, hp⟩ : ∃ p, p = w.heap.size := ⟨_, rfl⟩
  obtain ⟨q, hq⟩ : ∃ q, q = p + 1 := ⟨_, rfl⟩
  rw [← hp] at kp kq
  rw [← hq] at kq
  have hpq : p < W1.heap.size ∧ q < W1.heap.size := by omega
  obtain ⟨r, hr⟩ : ∃ r, r = wayM a.m b.m := ⟨_, rfl⟩
  have hr1 : shareK a.ks b.ks = true → r = true := fun h => by rw [hr]; exact wayM_share h
  have hr2 : shareK a.ks b.ks = false → r = (loneM a.m || loneM b.m || decide (a.cl = b.cl)) := fun h => by rw [hr]; exact wayM_not h
  have HLa0 := fun W (h : Below W1.heap.size W1 W) => refLone_any a W ((ha.below hB).below h) hma
  have HLb0 := fun W (h : Below W1.heap.size W1 W) => refLone_any b W ((hb.below hB).below h) hmb
  rw [← hr]
  clear hr
  obtain ⟨ra, hra⟩ : ∃ x, x = loneM a.m := ⟨_, rfl⟩
  obtain ⟨rb, hrb⟩ : ∃ x, x = loneM b.m := ⟨_, rfl⟩
  rw [← hra] at HLa0 hr2
  rw [← hrb] at HLb0 hr2
  clear hra hrb
  have OA := Lib.hid (ha.below hB)
  have OB := Lib.hid (hb.below hB)
  have HB := Lib.hid hB
  have PQ := Lib.hid hpq
  clear ha hb hB0 hB1 hs0 hs1 hB hpq
  obtain ⟨acl, asq, akd, KA, KL, kc, ks, old, new, n⟩ := a
  obtain ⟨bcl, bsq, bkd, JA, JL, jc, js, bld, bew, bn⟩ := b
  simp only at hma hmb
  simp only [CmdV.val, CmdV.cells] at HLa0 HLb0 hW0 hW1 kp kq ⊢
  simp only at hr1 hr2
  have HLa := Lib.hid HLa0
  have HLb := Lib.hid HLb0
  have HR := Lib.hid (And.intro hr1 hr2)
  clear HLa0 HLb0 hr1 hr2
  have XA := Lib.hid (fun i => blk_cell kp i)
  have XB := Lib.hid (fun i => blk_cell kq i)
  have hKi : (KL : Int) ≤ 1000 := by omega
  have hJi : (JL : Int) ≤ 1000 := by omega
  have LKS : Hid (KL = ks.length) := Lib.hid OA.out.len
  have LJS : Hid (JL = js.length) := Lib.hid OB.out.len
  have HKS : Hid (HasS W1 KA ks) := Lib.hid OA.out.has
  have HJS : Hid (HasS W1 JA js) := Lib.hid OB.out.has
  clear kp kq hma hmb OA OB
  go_enter Try.func12, Try.ntmps12
  go_upto_region 1 with (fail)
  rw [← hW0, ← hW1, ← hp, ← hq]
  clear hW0 hW1 hp hq
  go_wp2
  go_loopw [5] (fun i wr => ∃ j : Nat, j ≤ KL ∧ i = .int .i64 (j : Int) ∧ Hid (Below W1.heap.size W1 wr ∧ ∀ u (h1 : u < ks.length), u < j → ∀ t (h2 : t < js.length), ks[u] ≠ js[t])) (fun i _ => KL - (intOf i).toNat)
  case atStart => exact ⟨0, Nat.zero_le _, rfl, Lib.hid ⟨Below.refl _ _, fun u _ h => by omega⟩⟩
  case round =>
    obtain ⟨j, hj, rfl, hx⟩ := hrel
    have x3 := (hx.out.1.cell (p := ⟨p, 3, none⟩) PQ.out.1).trans (XA.out 3)
    simp at x3
    by_cases hlt : j < KL
    · have hji : (j : Int) < KL := by omega
      have hj1 : j < ks.length := by have := LKS.out; omega
      obtain ⟨kb, ko, e1, l1, f1⟩ := HKS.out (by rintro rfl; simp at hj1)
      subst e1
      obtain ⟨X, hX⟩ : ∃ X, X = ks[j] := ⟨_, rfl⟩
      have g1 := f1 j hj1
      rw [← hX] at g1
      have FK := Lib.hid (And.intro l1 (And.intro g1 hX))
      clear l1 f1 g1 hX
      obtain ⟨Wa, hWa⟩ : ∃ Wa, Wa = wr := ⟨_, rfl⟩
      go_wp2
      go_loopw [6] (fun i wx => ∃ t : Nat, t ≤ JL ∧ i = .int .i64 (t : Int) ∧ Hid (Below W1.heap.size W1 wx ∧ ∀ u (h1 : u < js.length), u < t → X ≠ js[u])) (fun i _ => JL - (intOf i).toNat)
      case atStart => exact ⟨0, Nat.zero_le _, rfl, Lib.hid ⟨hx.out.1, fun u _ h => by omega⟩⟩
      case round =>
        obtain ⟨t, ht, rfl, hy⟩ := hrel
        have x3a := (hy.out.1.cell (p := ⟨p, 3, none⟩) PQ.out.1).trans (XA.out 3)
        have x3b := (hy.out.1.cell (p := ⟨q, 3, none⟩) PQ.out.2).trans (XB.out 3)
        simp at x3a x3b
        by_cases htl : t < JL
        · have hti : (t : Int) < JL := by omega
          have ht1 : t < js.length := by have := LJS.out; omega
          obtain ⟨jb, jo, e2, l2, f2⟩ := HJS.out (by rintro rfl; simp at ht1)
          subst e2
          obtain ⟨Y, hY⟩ : ∃ Y, Y = js[t] := ⟨_, rfl⟩
          have g2 := f2 t ht1
          rw [← hY] at g2
          have gX := (hy.out.1.cell (p := ⟨kb, ko + j, none⟩) FK.out.1).trans FK.out.2.1
          have gY := (hy.out.1.cell (p := ⟨jb, jo + t, none⟩) l2).trans g2
          have HY := Lib.hid hY
          clear l2 f2 g2 hY
          by_cases hXY : X = Y
          · subst hXY
            have hsh : r = true := HR.out.1 (shareK_iff.2 ⟨j, hj1, t, ht1, by rw [← FK.out.2.2, ← HY.out]⟩)
            subst hsh
            go_upto_region 7 with (fail)
            go_region
            all_goals
              go_wp2
              go_ret
              exact ⟨rfl, HB.out.trans (Below.mono hy.out.1.drew HB.out.size)⟩
          · have hne : (X.toList == Y.toList) = false := by
              rw [Bool.eq_false_iff]
              intro e
              exact hXY (toListK (by simpa using e))
            have HXY := Lib.hid hXY
            clear hXY
            go_upto_region 7 with (fail)
            go_region
            all_goals
              go_wp2
              refine ⟨⟨t + 1, by omega, by congr 1, Lib.hid ⟨hy.out.1.drew, fun u h1 hu => ?_⟩⟩, by simp only [intOf]; omega⟩
              rcases Nat.lt_or_ge u t with h | h
              · exact hy.out.2 u h1 h
              · have : u = t := by omega
                subst this
                rw [← HY.out]
                exact HXY.out
        · have hti : ¬ (t : Int) < JL := by omega
          go_wp2
          refine ⟨⟨j + 1, by omega, by congr 1, Lib.hid ⟨hy.out.1, fun u h1 hu t h2 => ?_⟩⟩, by simp only [intOf]; omega⟩
          rcases Nat.lt_or_ge u j with h | h
          · exact hx.out.2 u h1 h t h2
          · have : u = j := by omega
            subst this
            rw [← FK.out.2.2]
            exact hy.out.2 t h2 (by have := LJS.out; omega)
    · have hji : ¬ (j : Int) < KL := by omega
      have hns : shareK ks js = false := by
        rw [Bool.eq_false_iff]
        intro hc
        obtain ⟨u, hu, t, ht, e⟩ := shareK_iff.1 hc
        exact hx.out.2 u hu (by have := LKS.out; omega) t ht e
      have hrr := HR.out.2 hns
      have cA := fun (W : World) (h : Below W1.heap.size W1 W) i => (h.cell (p := ⟨p, i, none⟩) PQ.out.1).trans (XA.out i)
      have cB := fun (W : World) (h : Below W1.heap.size W1 W) i => (h.cell (p := ⟨q, i, none⟩) PQ.out.2).trans (XB.out i)
      have CA := Lib.hid cA
      have CB := Lib.hid cB
      have a0 := cA wr hx.out.1 0
      have a1 := cA wr hx.out.1 1
      have a2 := cA wr hx.out.1 2
      have a4 := cA wr hx.out.1 4
      have a5 := cA wr hx.out.1 5
      have a6 := cA wr hx.out.1 6
      simp at a0 a1 a2 a4 a5 a6
      have HX := Lib.hid hx.out.1
      have hbw : w.heap.size ≤ wr.heap.size := Nat.le_trans HB.out.size hx.out.1.size
      have HBW := Lib.hid (HB.out.trans (Below.mono hx.out.1 HB.out.size))
      have HRR := Lib.hid hrr
      clear hns hrr cA cB hx hbw
      go_wp2_with fail
      refine (HLa.out wr HX.out).mono ?_
      rintro e W3 ⟨rfl, hb3⟩
      have h13 : Below W1.heap.size W1 W3 := HX.out.trans (Below.mono hb3 HX.out.size)
      have H3 := Lib.hid (And.intro h13 (HBW.out.trans (Below.mono hb3 HBW.out.size)))
      clear a0 a1 a2 a4 a5 a6 x3 hb3 h13
      cases ra with
      | true =>
        have hrt : r = true := HRR.out
        subst hrt
        go_wp2
        go_ret
        exact ⟨rfl, H3.out.2⟩
      | false =>
        have b0 := CB.out W3 H3.out.1 0
        have b1 := CB.out W3 H3.out.1 1
        have b2 := CB.out W3 H3.out.1 2
        have b3 := CB.out W3 H3.out.1 3
        have b4 := CB.out W3 H3.out.1 4
        have b5 := CB.out W3 H3.out.1 5
        have b6 := CB.out W3 H3.out.1 6
        simp at b0 b1 b2 b3 b4 b5 b6
        go_wp2_with fail
        refine (HLb.out W3 H3.out.1).mono ?_
        rintro e W4 ⟨rfl, hb4⟩
        have h14 : Below W1.heap.size W1 W4 := H3.out.1.trans (Below.mono hb4 H3.out.1.size)
        have H4 := Lib.hid (And.intro h14 (H3.out.2.trans (Below.mono hb4 H3.out.2.size)))
        clear b0 b1 b2 b3 b4 b5 b6 hb4 h14
        cases rb with
        | true =>
          have hrt : r = true := HRR.out
          subst hrt
          go_wp2
          go_ret
          exact ⟨rfl, H4.out.2⟩
        | false =>
          have y0 := CA.out W4 H4.out.1 0
          have z0 := CB.out W4 H4.out.1 0
          simp at y0 z0
          have hrt : r = decide (acl = bcl) := HRR.out
          by_cases hc : acl = bcl
          · subst hc
            rw [decide_eq_true rfl] at hrt
            subst hrt
            go_wp2
            go_ret
            exact ⟨rfl, H4.out.2⟩
          · rw [decide_eq_false hc] at hrt
            subst hrt
            have hci : ¬ (acl : Int) = bcl := by omega
            have hcb : ((acl : Int) == bcl) = false := by simpa using hci
            clear hc
            go_wp2
            go_ret
            exact ⟨rfl, H4.out.2⟩
end Go.Proofs.Ytooaobadnainkaa
