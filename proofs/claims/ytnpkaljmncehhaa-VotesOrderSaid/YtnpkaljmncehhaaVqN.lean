/- A span is added to a tally. -/
import Derived.Test.YtnpkaljmncehhaaVqJ
import Derived.Test.YtnpkaljmncehhaaVqX
namespace Go.Proofs.Ytnpkaljmncehhaa
open Go.RowKit

set_option maxRecDepth 100000 in
set_option maxHeartbeats 4000000 in
theorem tadd_any (R : Nat) (t : TM) (vs : Nat → Value) (ls : Nat → List (Nat × Nat)) (r : Int) (a b : Nat) (w : World) (h : TlQ w R t vs ls) (hok : t.ok) (hc : t.c ≤ 90000) (ha : a < 18446744073709551616) (hb : b < 18446744073709551616) :
    Calls Try.prog 12 #[.pointer (some ⟨R, 0, none⟩), .int .i64 r, .agg #[.int .u64 (a : Int), .int .u64 (b : Int)]] w fun e W' => e = .returned (.int .i64 (t.addE r a b : Int)) ∧ TurnQ w R vs (t.addX r a b) W' := by
  obtain ⟨m, hm⟩ : ∃ m, m = t.may r a b := ⟨_, rfl⟩
  have hE : t.addE r a b = if m then 0 else 1 := by rw [hm]; rfl
  have hX : t.addX r a b = if m then t.add r.toNat a b else t := by rw [hm]; rfl
  rw [hE, hX]
  obtain ⟨W0, hW0⟩ : ∃ W0, W0 = w.alloc (.cells #[.int .u64 (a : Int), .int .u64 (b : Int)] 42) := ⟨_, rfl⟩
  have b0 : Below w.heap.size w W0 := by rw [hW0]; exact (Below.refl _ w).alloc (Nat.le_refl _) _
  have k0 : W0.heap[w.heap.size]? = some (.cells #[.int .u64 (a : Int), .int .u64 (b : Int)] 42 (0, 0)) := by rw [hW0]; exact World.alloc_heap_new w _
  obtain ⟨q, hq⟩ : ∃ q, q = w.heap.size := ⟨_, rfl⟩
  rw [← hq] at k0
  have hQ0 := h.grew b0
  have c0 : W0.cell? ⟨q, 0, none⟩ = some (.int .u64 (a : Int)) := blk_cell k0 0
  have c1 : W0.cell? ⟨q, 1, none⟩ = some (.int .u64 (b : Int)) := blk_cell k0 1
  have f1 := hQ0.c1
  have HO := Lib.hid (isOne_any R t.n r W0 hQ0.c0)
  have hRl := hQ0.lt R (.inl rfl)
  have hql := (Array.getElem?_eq_some_iff.1 k0).1
  have hRq : R ≠ q := by have := h.lt R (.inl rfl); omega
  have HM := Lib.hid hm
  have HQ := Lib.hid h
  have HQ0 := Lib.hid hQ0
  have HB0 := Lib.hid b0
  have HK := Lib.hid (And.intro hok (And.intro hc (And.intro ha hb)))
  have HW := Lib.hid hW0
  have HQQ := Lib.hid hq
  obtain ⟨F, hF⟩ : ∃ F, F = t.F := ⟨_, rfl⟩
  rw [← hF] at f1
  have HF := Lib.hid hF
  by_cases h1 : 0 ≤ r ∧ r < (t.n : Int)
  · rw [decide_eq_true h1] at HO
    obtain ⟨r', rfl⟩ := Int.eq_ofNat_of_zero_le h1.1
    have hrn : r' < t.n := by omega
    have HR := Lib.hid hrn
    by_cases hab : a ≤ b
    · obtain rfl : m = true := by rw [hm]; exact decide_eq_true ⟨h1.1, h1.2, hab⟩
      have habi : ¬ (b : Int) < (a : Int) := by omega
      by_cases hbF : b ≤ F
      · have hbi : ¬ (F : Int) < (b : Int) := by omega
        have HN := Lib.hid hbF
        clear h hok hc ha hb hE hX hm k0 b0 hQ0 hW0 hq hF h1 hrn hab hbF
        go_enter Try.func12, Try.ntmps12
        go_upto_region 1 with (fail)
        rw [← HW.out, ← HQQ.out]
        go_wp2_with fail
        refine HO.out.mono ?_
        rintro e W1 ⟨rfl, rfl⟩
        go_wp2
        go_region
        all_goals go_wp2
        all_goals go_ret
        all_goals exact ⟨rfl, vs, ls, HQ.out.addNone HR.out (by rw [← HF.out]; exact HN.out) HB0.out.drew, Only.of_grew HB0.out.drew, fun k hk => .inl hk⟩
      · have hbi : (F : Int) < (b : Int) := by omega
        obtain ⟨z, hz⟩ : ∃ z, z = max a (F + 1) := ⟨_, rfl⟩
        have hmx : max (a : Int) ((F : Int) + 1) = (z : Int) := by omega
        have hw : IntKind.u64.wrap ((F : Int) + 1) = (F : Int) + 1 := by rw [IntKind.wrap_u64]; omega
        have hr7 : r' < 7 := by have := hok.n7; omega
        have hr7i : (r' : Int) < 7 := by omega
        have HADD := Lib.hid (sadd_any R (2 + r') (vs r') (ls r') (t.set r') z b _ _ W0.drew.drew (by have := h.len r' hr7; omega) hQ0.blk (tcells_get hr7) ((hQ0.own r' hr7).same fun _ _ => rfl) (hQ0.off hr7) (hQ0.spans r' hr7) (hok.set r') (by omega) (by omega) hb)
        have HFIN : Hid (∀ W' v' l', W'.heap[R]? = some (.cells ((tcells t.n t.F vs).setIfInBounds (2 + r') v') 60 (0, 0)) → OwnR W' v' l' → SpansOf l' (fun s => t.set r' s || decide (z ≤ s ∧ s ≤ b)) → l'.length ≤ (ls r').length + 1 → (v'.ownBlock = (vs r').ownBlock ∨ ∃ x, v'.ownBlock = some x ∧ W0.drew.drew.heap.size ≤ x) → Only (fun x => x = R ∨ (vs r').ownBlock = some x) W0.drew.drew W' → TurnQ w R vs (t.add r' a b) W') := Lib.hid fun W' v' l' e1 e2 e3 e4 e5 e6 => by
          refine h.turn (t' := t.add r' a b) hr7 e1 e2 (e5.imp id fun ⟨x, h1, h2⟩ => ⟨x, h1, Nat.le_trans b0.size h2⟩) ((Only.of_grew (F := fun x => x = R ∨ (vs r').ownBlock = some x) b0.drew.drew).trans e6 fun x hx => .inl hx) rfl rfl ?_ (fun q _ hq => ?_) (Nat.le_trans e4 (Nat.succ_le_succ (h.len r' hr7))) (Nat.le_succ _)
          · have : (t.add r' a b).set r' = fun s => t.set r' s || decide (z ≤ s ∧ s ≤ b) := funext fun s => by rw [TM.add_set hrn, if_pos rfl, hz, hF]
            rw [this]
            exact e3
          · exact funext fun s => by rw [TM.add_set hrn, if_neg hq]
        clear h hok hc ha hb hE hX hm k0 b0 hQ0 hW0 hq hF h1 hrn hab hbF hz hr7
        go_enter Try.func12, Try.ntmps12
        go_upto_region 1 with (fail)
        rw [← HW.out, ← HQQ.out]
        go_wp2_with fail
        refine HO.out.mono ?_
        rintro e W1 ⟨rfl, rfl⟩
        go_wp2
        go_region
        all_goals go_wp2
        all_goals go_region_with (refine HADD.out.mono ?_; rintro e W5 ⟨rfl, v', l', e1, e2, e3, e4, e5, e6⟩; have H5 := Lib.hid (HFIN.out W5 v' l' e1 e2 e3 e4 e5 e6); clear e1 e2 e3 e4 e5 e6)
        all_goals go_wp2
        all_goals go_ret
        all_goals exact ⟨rfl, H5.out⟩
    · obtain rfl : m = false := by rw [hm]; exact decide_eq_false fun h => hab h.2.2
      have habi : (b : Int) < (a : Int) := by omega
      clear h hok hc ha hb hE hX hm k0 b0 hQ0 hW0 hq hF h1 hrn hab
      go_enter Try.func12, Try.ntmps12
      go_upto_region 1 with (fail)
      rw [← HW.out, ← HQQ.out]
      go_wp2_with fail
      refine HO.out.mono ?_
      rintro e W1 ⟨rfl, rfl⟩
      go_wp2
      go_ret
      exact ⟨rfl, vs, ls, HQ0.out, Only.of_grew HB0.out, fun k hk => .inl hk⟩
  · obtain rfl : m = false := by rw [hm]; exact decide_eq_false fun h => h1 ⟨h.1, h.2.1⟩
    rw [decide_eq_false h1] at HO
    clear h hok hc ha hb hE hX hm k0 b0 hQ0 hW0 hq hF h1
    go_enter Try.func12, Try.ntmps12
    go_upto_region 1 with (fail)
    rw [← HW.out, ← HQQ.out]
    go_wp2_with fail
    refine HO.out.mono ?_
    rintro e W1 ⟨rfl, rfl⟩
    go_wp2
    go_ret
    exact ⟨rfl, vs, ls, HQ0.out, Only.of_grew HB0.out, fun k hk => .inl hk⟩
end Go.Proofs.Ytnpkaljmncehhaa
