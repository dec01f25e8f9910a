/- A tally's slots up to one are forgotten. -/
import Derived.Test.YtnpkaljmncehhaaVqJ
import Derived.Test.YtnpkaljmncehhaaVqE
namespace Go.Proofs.Ytnpkaljmncehhaa
open Go.RowKit

/-- The first sets are released. -/
def TM.relTo (t : TM) (x r : Nat) : TM := ⟨t.n, x, fun q s => if q < r then t.S q s && decide (x < s) else t.S q s, t.c⟩
theorem TM.relTo_set {t : TM} {x r q s : Nat} : (t.relTo x r).set q s = if q < r then (t.set q s && decide (x < s)) else t.set q s := by
  unfold TM.set TM.relTo
  simp only []
  split
  · rw [Bool.and_assoc]
  · rfl
theorem TM.relTo_all {t : TM} {x q s : Nat} (hx : t.F ≤ x) : (t.relTo x t.n).set q s = (t.release x).set q s := by
  unfold TM.set TM.relTo TM.release
  simp only []
  rw [Nat.max_eq_right hx]
  by_cases h : q < t.n
  · rw [if_pos h]
  · rw [decide_eq_false h, Bool.false_and, Bool.false_and]
/-- The rounds. -/
structure RelJ (w : World) (R : Nat) (t : TM) (vs : Nat → Value) (x r : Nat) (W : World) : Prop where
  ex : ∃ vs' ls', TlQ W R (t.relTo x r) vs' ls' ∧ (∀ q, q < 7 → (vs' q).ownBlock = (vs q).ownBlock)
  only : Only (TlF R vs) w W
theorem TlQ.congr {w : World} {R : Nat} {t t' : TM} {vs : Nat → Value} {ls : Nat → List (Nat × Nat)} (h : TlQ w R t vs ls) (hn : t'.n = t.n) (hF : t'.F = t.F) (hc : t'.c = t.c) (hs : ∀ q s, t'.set q s = t.set q s) : TlQ w R t' vs ls :=
  ⟨by rw [hn, hF]; exact h.blk, h.own, fun q hq => by rw [show t'.set q = t.set q from funext (hs q)]; exact h.spans q hq, fun q hq => by rw [hc]; exact h.len q hq, h.apart⟩
set_option maxRecDepth 100000 in
set_option maxHeartbeats 4000000 in
theorem trel_any (R : Nat) (t : TM) (vs : Nat → Value) (ls : Nat → List (Nat × Nat)) (x : Nat) (w : World) (h : TlQ w R t vs ls) (hok : t.ok) (hc : t.c ≤ 90000) (hx : x < 18446744073709551616) :
    Calls Try.prog 10 #[.pointer (some ⟨R, 0, none⟩), .int .u64 (x : Int)] w fun e W' => e = .returned (.tuple #[]) ∧ TurnQ w R vs (t.release x) W' := by
  have c1 := h.c1
  have HQ := Lib.hid h
  have HK := Lib.hid (And.intro hok (And.intro hc hx))
  have hRl := h.lt R (.inl rfl)
  obtain ⟨F, hF⟩ : ∃ F, F = t.F := ⟨_, rfl⟩
  rw [← hF] at c1
  have HF := Lib.hid hF
  by_cases hxF : x ≤ F
  · have hxi : (x : Int) ≤ (F : Int) := by omega
    have HFIN : Hid (TurnQ w R vs (t.release x) w) := Lib.hid ⟨vs, ls, h.congr rfl (by show max t.F x = t.F; omega) rfl (fun q s => by
      unfold TM.set TM.release
      simp only []
      rw [Nat.max_eq_left (by omega)]
      cases hS : t.S q s with
      | false => rfl
      | true => rw [decide_eq_true (hok.S q s hS).1, Bool.and_true]), Only.refl _ _, fun k hk => .inl hk⟩
    clear h hok hc hx hF hxF
    go_enter Try.func10, Try.ntmps10
    go_wp2
    exact bodyPost_ret (results_none rfl _ _ _) rfl ⟨rfl, HFIN.out⟩
  · have hxi : ¬ (x : Int) ≤ (F : Int) := by omega
    have hf1 : w.frozen? ⟨R, 1, none⟩ = false := blk_frozen h.blk 1
    have c0 := h.c0
    have HX := Lib.hid hxF
    obtain ⟨W0, hW0⟩ : ∃ W0, W0 = w.setCell ⟨R, 1, none⟩ (.int .u64 (x : Int)) := ⟨_, rfl⟩
    have hJ0 : RelJ w R t vs x 0 W0 := by
      have hon : Only (fun y => y = R) w W0 := by rw [hW0]; exact Only.setCell (F := fun y => y = R) (p := ⟨R, 1, none⟩) (Only.refl _ w) (.inl rfl) _
      refine ⟨⟨vs, ls, ⟨?_, fun q hq => (h.own q hq).only hon fun k hk e => h.off hq (by rw [hk, e]), fun q hq => ?_, h.len, h.apart⟩, fun _ _ => rfl⟩, hon.mono fun y _ hy => .inl hy⟩
      · rw [hW0, blk_set h.blk, tcells_floor]
        rfl
      · have : (t.relTo x 0).set q = t.set q := funext fun s => by rw [TM.relTo_set, if_neg (by omega)]
        rw [this]
        exact h.spans q hq
    have HJ0 := Lib.hid hJ0
    have HW := Lib.hid hW0
    obtain ⟨N, hN⟩ : ∃ N, N = t.n := ⟨_, rfl⟩
    rw [← hN] at c0
    have HN := Lib.hid (And.intro hN hok.n7)
    have hc0 : W0.cell? ⟨R, 0, none⟩ = some (.int .i64 (N : Int)) := by
      have := (hJ0.ex.choose_spec.choose_spec.1).c0
      rw [hN]
      exact this
    clear h hok hc hx hF hxF hJ0 hW0 hN
    go_enter Try.func10, Try.ntmps10
    go_upto_region 2 with (fail)
    rw [← HW.out]
    go_wp2
    go_loopw [4, 23] (fun _ y wr => ∃ r : Nat, r ≤ N ∧ y = .int .i64 (r : Int) ∧ Hid (RelJ w R t vs x r wr)) (fun _ y _ => N - (intOf y).toNat)
    case atStart => exact ⟨0, Nat.zero_le _, rfl, HJ0⟩
    case round =>
      obtain ⟨r, hr, rfl, HJ⟩ := hrel
      by_cases hlt : r < N
      · have hri : (r : Int) < (N : Int) := by omega
        obtain ⟨vs', ls', hq, hob⟩ := HJ.out.ex
        have hr7 : r < 7 := by have := HN.out; omega
        have hr7i : (r : Int) < 7 := by omega
        have hrn : r < t.n := by have := HN.out.1; omega
        have HC := Lib.hid (srel_any R (2 + r) (vs' r) (ls' r) ((t.relTo x r).set r) x _ _ wr (by have := hq.len r hr7; have := HK.out.2.1; exact Nat.le_trans (hq.len r hr7) (by show t.c ≤ _; omega)) hq.blk (tcells_get hr7) (hq.own r hr7) (hq.off hr7) (hq.spans r hr7) (fun s hs => by
          rw [TM.relTo_set, if_neg (by omega)] at hs
          exact HK.out.1.set r s hs))
        have HNEXT : Hid (∀ W' v' l', W'.heap[R]? = some (.cells ((tcells t.n x vs').setIfInBounds (2 + r) v') 60 (0, 0)) → OwnR W' v' l' → SpansOf l' (fun s => (t.relTo x r).set r s && decide (x < s)) → l'.length ≤ (ls' r).length → v'.ownBlock = (vs' r).ownBlock → Only (fun y => y = R ∨ (vs' r).ownBlock = some y) wr W' → RelJ w R t vs x (r + 1) W') := Lib.hid fun W' v' l' e1 e2 e3 e4 e5 e6 => by
          obtain ⟨h1, h2, h3⟩ := hq.turnE (t' := t.relTo x (r + 1)) hr7 e1 e2 (.inl e5) e6 rfl rfl (by
            have : (t.relTo x (r + 1)).set r = fun s => (t.relTo x r).set r s && decide (x < s) := funext fun s => by rw [TM.relTo_set, TM.relTo_set, if_pos (Nat.lt_succ_self r), if_neg (Nat.lt_irrefl r)]
            rw [this]
            exact e3) (fun q _ hqr => funext fun s => by
            rw [TM.relTo_set, TM.relTo_set]
            by_cases h : q < r
            · rw [if_pos h, if_pos (by omega)]
            · rw [if_neg h, if_neg (by omega)]) (Nat.le_trans e4 (hq.len r hr7)) (Nat.le_refl _)
          refine ⟨⟨_, _, h1, fun q hq7 => ?_⟩, HJ.out.only.trans e6 fun y hy => .inl (hy.elim .inl fun hy => .inr ⟨r, hr7, by rw [← hob r hr7]; exact hy⟩)⟩
          by_cases e : q = r
          · subst e
            simp only [updV, if_true]
            rw [e5]
            exact hob q hq7
          · simp only [updV, if_neg e]
            exact hob q hq7
        clear hq
        go_wp2_with fail
        refine HC.out.mono ?_
        rintro e W1 ⟨rfl, v', l', e1, e2, e3, e4, e5, e6⟩
        have HJ1 := Lib.hid (HNEXT.out W1 v' l' e1 e2 e3 e4 e5 e6)
        clear e1 e2 e3 e4 e5 e6
        go_wp2
        exact ⟨⟨r + 1, by omega, rfl, HJ1⟩, by simp only [intOf]; omega⟩
      · obtain rfl : r = N := by omega
        have hri : ¬ (r : Int) < (r : Int) := by omega
        clear hlt hr
        go_wp2
        go_end0
        refine ⟨rfl, ?_⟩
        obtain ⟨vs', ls', hq, hob⟩ := HJ.out.ex
        have hFx : t.F ≤ x := by have := HX.out; have := HF.out; omega
        refine ⟨vs', ls', hq.congr (t' := t.release x) rfl (Nat.max_eq_right hFx) rfl (fun q s => ?_), HJ.out.only, fun k hk => .inl ?_⟩
        · rw [HN.out.1]
          exact (TM.relTo_all hFx).symm
        · rcases hk with rfl | ⟨q, hq7, e⟩
          · exact .inl rfl
          · exact .inr ⟨q, hq7, by rw [← hob q hq7]; exact e⟩
end Go.Proofs.Ytnpkaljmncehhaa
