/- The walk of the law FrameLong. -/
import Derived.Test.YtbhncffeoolhfaaDoorFrSpec
namespace Go.Proofs.YtbhncffeoolhfaaDoor
open Go.RowKit

/-- 'make([]byte, n)', in a plain walk. -/
theorem wpList_make_b {w : World} {ops : Array Oper} {rest : List Oper} {o : Oper} {a : Act} {Q : Exit → Act → World → Prop}
    (hg : o.guard = none) (l c : Operand) (t : TypeId) (hop : o.op = Op.makeSlice t l c) (base : Nat) (e : TypeId) (i : TypeInfo) (ht : Tryd.prog.underlying t = some (.slice e)) (hi : Tryd.prog.info? e = some i) (hz : i.zero = some (.int .u8 0)) (hsize : i.size = 1) (hby : i.bytes = 1)
    (L C : Nat) (x y : Int) (hl : a.eval l = .int .i64 y) (hc : a.eval c = .int .i64 x) (hyL : y = (L : Int)) (hxC : x = (C : Int)) (hLC : L ≤ C) (hC : C ≤ 140737488355328) (hb : base ≤ w.heap.size)
    (hK : ∀ w', w'.ownsRow base e 1 (.slice (some ⟨w.heap.size, 0, none⟩) L C) L ((List.replicate L (0 : UInt8)).map enc) → w.grownBy w' none → wpList Tryd.prog ops Q rest (a.put o.dst (.slice (some ⟨w.heap.size, 0, none⟩) L C)) w') :
    wpList Tryd.prog ops Q (o :: rest) a w := by
  subst hxC
  subst hyL
  have hr := run_make (P := Tryd.prog) w t e i _ ht hi hz .i64 .i64 (L : Int) (C : Int) (by omega) (by omega) (by rw [hby]; omega) (by omega)
  simp only [Int.toNat_natCast] at hr
  refine wpList_plain hg fun K hK' => ?_
  unfold Oper.wp
  simp [execOp, hop, hl, hc, hr, Result.andThen]
  refine hK' _ _ (hK _ ⟨by simp, .inr ⟨w.heap.size, C, _, rfl, hb, heap_alloc_new w _, hLC, by simp only [maxLen]; omega, ?_, ?_⟩⟩ (World.grownBy_alloc w _ none))
  · rw [size_madeCells, hsize]
  · rw [hsize, Nat.mul_one, Nat.mul_one]
    show List.take L (madeCells #[Value.int .u8 0] C).toList = _
    rw [toList_madeCells_one]
    simp [List.take_replicate, Nat.min_eq_left hLC]
    right; rfl


theorem some_zeros (n : Nat) : ∃ X : List UInt8, X = List.replicate n 0 ∧ X.length = n := ⟨_, rfl, by simp⟩

set_option maxRecDepth 100000 in
set_option maxHeartbeats 2000000 in
theorem Long_any (hP : PutSpec) (hK : TakeSpec) (w : World) (hT : Tab w) : Calls Tryd.prog 4 #[] w fun e W' => e = .returned (.bool true) ∧ Below w.heap.size w W' := by
  obtain ⟨i0, hi, hz0, hz1, hz2⟩ := info_parts info5
  have HT := Lib.hid hT
  have HP := Lib.hid hP
  have HK := Lib.hid hK
  clear hT hP hK
  obtain ⟨Y, hY, hYl⟩ := some_zeros 65537
  have HY := Lib.hid hY
  have HYL := Lib.hid hYl
  clear hY hYl
  go_enter Tryd.func4, Tryd.ntmps4
  go_wp2_with (at_make; refine wpList_make_b rfl _ _ 22 rfl w.heap.size 5 i0 Tryd.underlying22 hi hz0 hz1 hz2 65537 65537 _ _ rfl rfl rfl rfl (Nat.le_refl _) (by omega) (Nat.le_refl _) ?_; intro W1 hown1 hg1; rw [← HY.out] at hown1; have HO1 := Lib.hid hown1; have B1 := Lib.hid ((Below.refl w.heap.size w).grown hg1 (Nat.le_refl _) (fun k e => by cases e)); clear hown1 hg1)
  have HA1 := Lib.hid (HasA.of_own HO1.out)
  obtain ⟨X, hX⟩ : ∃ X, X = Y.take 65536 := ⟨_, rfl⟩
  have hXl : X.length = 65536 := by rw [hX, List.length_take, HYL.out]; rfl
  have HX := Lib.hid hX
  have HXL := Lib.hid hXl
  have HFX := Lib.hid (show Fit X from ⟨by rw [hXl]; decide, by rw [hXl]; exact Nat.le_refl _⟩)
  have HFY := Lib.hid (show ¬ Fit Y from fun h => by have := h.2; rw [HYL.out] at this; omega)
  have HAX := Lib.hid (show HasA W1 W1.heap.size (some ⟨w.heap.size, 0, none⟩) X by rw [hX]; exact HA1.out.take 65536)
  clear hX hXl
  refine (HP.out none 0 0 [] _ 65536 65537 X W1 rfl (by omega) (by omega) HXL.out.symm (by omega) (by omega) (HT.out.grew B1.out) (HasA.nil _ _ _) HAX.out).mono ?_
  rintro e W2 (⟨_, g, L2, c2, rfl, hown2, hb2⟩ | ⟨h, _⟩)
  rotate_left
  · exact absurd HFX.out h
  rw [List.nil_append] at hown2
  have hfl := frm_length X
  rw [HXL.out] at hfl
  have hv := vb_len10 (n := 65536) (by omega)
  have hL2 : L2 ≤ 70000 := by have := own_len hown2; omega
  have B2 := Lib.hid (B1.out.trans (hb2.mono B1.out.size))
  have HA2 := Lib.hid (HA1.out.below' hb2)
  have H2 := Lib.hid (own_base (base' := w.heap.size) hown2 B1.out.size)
  clear hown2 hb2 HA1 HAX hfl hv
  go_wp2_with fail
  refine (HP.out none 0 0 [] _ 65537 65537 Y W2 rfl (by omega) (by omega) HYL.out.symm (by omega) (by omega) (HT.out.grew B2.out) (HasA.nil _ _ _) HA2.out).mono ?_
  rintro e W3 (⟨h, _⟩ | ⟨_, v3, rfl, h3, hb3⟩)
  · exact absurd h HFY.out
  have B3 := Lib.hid (B2.out.trans (hb3.mono B2.out.size))
  have H3 := Lib.hid (own_below H2.out hb3)
  clear h3 hb3 HA2 B2 H2
  go_wp2_with fail
  refine (HK.out _ L2 c2 (frm X) W3 (own_len H3.out) (by omega) (own_cap H3.out) (HT.out.grew B3.out) (HasA.of_own H3.out)).mono ?_
  have htk : tk (frm X) = .ok X (frm X).length := by have := tk_frm X [] HFX.out; rwa [List.append_nil] at this
  rintro e W4 (⟨x, n, v4, h1, rfl, h4, hb4⟩ | ⟨k, v4, h1, rfl, h4, hb4⟩)
  rotate_left
  · rw [htk] at h1; cases h1
  rw [htk] at h1
  cases h1
  rw [← own_len H3.out]
  have B4 := Lib.hid (B3.out.trans (hb4.mono B3.out.size))
  obtain ⟨A4, L4, c4, rfl, hL4, -⟩ := h4
  rw [HXL.out] at hL4
  subst hL4
  clear hb4 htk B3 H3
  go_wp2_with (go_at_call 6; refine (wakes3 HP.out HK.out W4 (HT.out.grew B4.out)).mono ?_; rintro e W5 ⟨rfl, hb5⟩)
  go_ret
  exact ⟨rfl, B4.out.trans (hb5.mono B4.out.size)⟩
end Go.Proofs.YtbhncffeoolhfaaDoor
