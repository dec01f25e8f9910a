/- How far the same majority goes; whether a slot is chosen; up to which one. -/
import Derived.Test.YtnpkaljmncehhaaVqH
import Derived.LoopTactic
namespace Go.Proofs.Ytnpkaljmncehhaa
open Go.RowKit

/-- The rounds that ask each replica's set. -/
structure TogJ (w : World) (E : Nat) (t : TM) (s r : Nat) (W : World) : Prop where
  below : Below w.heap.size w W
  ex : ∃ (d : Array Int) (e : Nat → Nat), d.size = 7 ∧ W.heap[E]? = some (.cells (rowZ [] d []) 77 (0, 0)) ∧ (∀ q, q < r → RunS (t.set q) s (e q) ∧ e q < 18446744073709551616) ∧ ∀ q, q < r → d[q]! = (e q : Int)
theorem TogJ.done {w W : World} {E : Nat} {t : TM} {s : Nat} (h : TogJ w E t s 7 W) : ∃ (d : Array Int) (e : Nat → Nat), d.size = 7 ∧ W.heap[E]? = some (.cells (rowZ [] d []) 77 (0, 0)) ∧ (∀ q, q < 7 → RunS (t.set q) s (e q) ∧ e q < 18446744073709551616) ∧ d.toList = (List.range 7).map fun r => (e r : Int) := by
  obtain ⟨d, e, h1, h2, h3, h4⟩ := h.ex
  refine ⟨d, e, h1, h2, h3, ?_⟩
  apply List.ext_getElem
  · simp [h1]
  · intro i hi1 hi2
    have hi : i < 7 := by simpa using hi2
    rw [List.getElem_map, List.getElem_range, ← h4 i hi, getD_of (by omega)]
/-- A round more. -/
theorem TogJ.next {w W W1 : World} {E : Nat} {t : TM} {s r m : Nat} (h : TogJ w E t s r W) (hr : r < 7) (hE : w.heap.size ≤ E) (hb : Below W.heap.size W W1) (hm : RunS (t.set r) s m) (hm2 : m < 18446744073709551616) : TogJ w E t s (r + 1) (W1.setCell ⟨E, r, none⟩ (.int .u64 (m : Int))) := by
  obtain ⟨d, e, h1, h2, h3, h4⟩ := h.ex
  have hEl := (Array.getElem?_eq_some_iff.1 h2).1
  refine ⟨(h.below.trans (Below.mono hb h.below.size)).setCell (p := ⟨E, r, none⟩) hE _, d.setIfInBounds r (m : Int), fun q => if q = r then m else e q, by rw [Array.size_setIfInBounds]; exact h1, ?_, fun q hq => ?_, fun q hq => ?_⟩
  · rw [blk_set ((hb.block E hEl).trans h2)]
    have := rowZ_set (pre := []) (rest := []) (d := d) (t := r) (m : Int) (by omega)
    rw [List.length_nil, Nat.zero_add] at this
    rw [← this]
  · by_cases e1 : q = r
    · subst e1
      simp only [if_true]
      exact ⟨hm, hm2⟩
    · simp only [if_neg e1]
      exact h3 q (by omega)
  · by_cases e1 : q = r
    · subst e1
      simp [h1, hr]
    · simp only [if_neg e1]
      rw [← h4 q (by omega)]
      have hq7 : q < d.size := by omega
      rw [getElem!_pos d q hq7, getElem!_pos _ q (by rw [Array.size_setIfInBounds]; exact hq7), Array.getElem_setIfInBounds_ne _ (by omega)]
theorem TogJ.cell {w W W1 : World} {E : Nat} {t : TM} {s r : Nat} (h : TogJ w E t s r W) (hr : r < 7) (hb : Below W.heap.size W W1) : (∃ x, W1.cell? ⟨E, r, none⟩ = some (.int .u64 x)) ∧ W1.frozen? ⟨E, r, none⟩ = false ∧ E < W1.heap.size := by
  obtain ⟨d, e, h1, h2, h3, h4⟩ := h.ex
  have hEl := (Array.getElem?_eq_some_iff.1 h2).1
  have hk := (hb.block E hEl).trans h2
  refine ⟨⟨d[r]!, ?_⟩, blk_frozen hk _, (Array.getElem?_eq_some_iff.1 hk).1⟩
  rw [blk_cell hk]
  have := rowZ_get (pre := []) (rest := []) (d := d) (t := r) (by omega)
  rw [List.length_nil, Nat.zero_add] at this
  exact this
set_option maxRecDepth 100000 in
set_option maxHeartbeats 4000000 in
theorem tog_any (R : Nat) (t : TM) (vs : Nat → Value) (ls : Nat → List (Nat × Nat)) (s : Nat) (w : World) (h : TlQ w R t vs ls) (hok : t.ok) (hc : t.c ≤ 100000) (hF : t.F ≤ s) (hs : s < 18446744073709551616) :
    Calls Try.prog 27 #[.pointer (some ⟨R, 0, none⟩), .int .u64 (s : Int)] w fun e W' => ∃ m : Nat, e = .returned (.int .u64 (m : Int)) ∧ TogIs t s m ∧ Below w.heap.size w W' := by
  have HQ := Lib.hid h
  have HK := Lib.hid (And.intro hok (And.intro hc (And.intro hF hs)))
  have hRl := h.lt R (.inl rfl)
  clear h hok hc hF hs
  go_enter Try.func27, Try.ntmps27
  go_upto_region 2 with (fail)
  obtain ⟨W0, hW0⟩ : ∃ W0, W0 = w.alloc (.cells #[.int .u64 0, .int .u64 0, .int .u64 0, .int .u64 0, .int .u64 0, .int .u64 0, .int .u64 0] 77) := ⟨_, rfl⟩
  rw [← hW0]
  obtain ⟨E, hE⟩ : ∃ E, E = w.heap.size := ⟨_, rfl⟩
  have HT0 : Hid (TogJ w E t s 0 W0) := Lib.hid ⟨by rw [hW0]; exact (Below.refl _ w).alloc (Nat.le_refl _) _, #[0, 0, 0, 0, 0, 0, 0], fun _ => 0, rfl, by rw [hW0, hE]; exact World.alloc_heap_new w _, fun q h => by omega, fun q h => by omega⟩
  rw [← hE]
  have HE := Lib.hid hE
  clear hW0 hE
  go_wp2
  go_loopw [6, 7] (fun _ x wr => ∃ r : Nat, r ≤ 7 ∧ x = .int .i64 (r : Int) ∧ Hid (TogJ w E t s r wr)) (fun _ x _ => 7 - (intOf x).toNat)
  case atStart => exact ⟨0, Nat.zero_le _, rfl, HT0⟩
  case round =>
    obtain ⟨r, hr, rfl, HJ⟩ := hrel
    by_cases hlt : r < 7
    · have hri : (r : Int) < 7 := by omega
      have HC := Lib.hid (HQ.out.upto HK.out.1 HK.out.2.1 hlt s HK.out.2.2.2 wr HJ.out.below)
      go_wp2_with fail
      refine HC.out.mono ?_
      rintro e W1 ⟨m, rfl, hm, hm2, hb1⟩
      obtain ⟨⟨x, c1⟩, f1, l1⟩ := HJ.out.cell hlt hb1
      have HN := Lib.hid (HJ.out.next hlt (by have := HE.out; omega) hb1 hm hm2)
      clear hm hm2 hb1
      go_wp2
      exact ⟨⟨r + 1, by omega, rfl, HN⟩, by simp only [intOf]; omega⟩
    · obtain rfl : r = 7 := by omega
      have HD := Lib.hid HJ.out.done
      have HB := Lib.hid HJ.out.below
      clear HJ hlt hr
      obtain ⟨d, e, hd, hk, he, hdl⟩ := HD.out
      have HS := Lib.hid (sort7_any E d wr hd hk)
      have HDD := Lib.hid (And.intro hdl he)
      have hel := (Array.getElem?_eq_some_iff.1 hk).1
      have HEL := Lib.hid hel
      clear hd hk he hdl hel HD
      go_wp2_with fail
      refine HS.out.mono ?_
      rintro e1 W2 ⟨rfl, d', hs7, hk2, hg2⟩
      obtain ⟨m, hm, ht⟩ := tog_of HK.out.1 HK.out.2.2.1 HK.out.2.2.2 HDD.out.1 HDD.out.2 hs7
      have hb2 : Below w.heap.size w W2 := HB.out.grown hg2 HB.out.size (fun k hk => by cases hk; have := HE.out; omega)
      have hQ2 := HQ.out.grew hb2
      have c0 := hQ2.c0
      obtain ⟨N, hN⟩ : ∃ N, N = t.n := ⟨_, rfl⟩
      rw [← hN] at c0 hm
      have hN1 := HK.out.1.n0
      have hN7 := HK.out.1.n7
      rw [← hN] at hN1 hN7
      have hmaj := maj_any N W2 (by omega)
      obtain ⟨M, hM⟩ : ∃ M, M = N / 2 + 1 := ⟨_, rfl⟩
      rw [← hM] at hmaj hm
      obtain ⟨K, hKK⟩ : ∃ K, K = 7 - M := ⟨_, rfl⟩
      rw [← hKK] at hm
      have hKi : 7 - (M : Int) = (K : Int) := by omega
      have hK7 : (K : Int) < 7 := by omega
      have hcE : W2.cell? ⟨E, K, none⟩ = some (.int .u64 (m : Int)) := by
        rw [blk_cell hk2]
        have := rowZ_get (pre := []) (rest := []) (d := d') (t := K) (by rw [hs7.size]; omega)
        rw [List.length_nil, Nat.zero_add, hm] at this
        exact this
      have HM := Lib.hid hmaj
      have HT := Lib.hid ht
      have HB2 := Lib.hid hb2
      clear hs7 hk2 hg2 hm ht hb2 hQ2 hN hN1 hN7 hmaj hM hKK HDD HS
      go_wp2_with fail
      refine HM.out.mono ?_
      rintro e1 W3 ⟨rfl, rfl⟩
      go_wp2
      go_ret
      exact ⟨m, rfl, HT.out, HB2.out⟩
set_option maxRecDepth 100000 in
set_option maxHeartbeats 4000000 in
theorem chosen_any (R : Nat) (t : TM) (vs : Nat → Value) (ls : Nat → List (Nat × Nat)) (s : Nat) (w : World) (h : TlQ w R t vs ls) (hok : t.ok) (hc : t.c ≤ 100000) (hs : s < 18446744073709551616) :
    Calls Try.prog 15 #[.pointer (some ⟨R, 0, none⟩), .int .u64 (s : Int)] w fun e W' => e = .returned (.bool (t.chosen s)) ∧ Below w.heap.size w W' := by
  have c1 := h.c1
  obtain ⟨F, hF⟩ : ∃ F, F = t.F := ⟨_, rfl⟩
  rw [← hF] at c1
  obtain ⟨b, hb⟩ : ∃ b, b = t.chosen s := ⟨_, rfl⟩
  rw [← hb]
  by_cases hsF : s ≤ F
  · obtain rfl : b = true := by rw [hb]; exact TM.chosen_floor hok (by omega)
    have hsi : (s : Int) ≤ (F : Int) := by omega
    clear h hok hc hs hF hb
    go_enter Try.func15, Try.ntmps15
    go_wp2
    go_ret
    exact ⟨rfl, Below.refl _ _⟩
  · obtain ⟨z, rfl⟩ : ∃ z, s = z + 1 := ⟨s - 1, by omega⟩
    have HU := Lib.hid (tog_any R t vs ls z w h hok hc (by omega) (by omega))
    have HP := Lib.hid hb
    have hw : IntKind.u64.wrap (z : Int) = (z : Int) := by rw [IntKind.wrap_u64]; omega
    have HF := Lib.hid hsF
    clear h hok hc hs hF hb hsF
    go_enter Try.func15, Try.ntmps15
    have hgi : ¬ (z : Int) + 1 ≤ (F : Int) := by have := HF.out; omega
    go_wp2_with fail
    refine HU.out.mono ?_
    rintro e W2 ⟨m, rfl, hm, hb2⟩
    have HM := Lib.hid hm
    have HB := Lib.hid hb2
    clear hm hb2
    go_wp2
    go_ret
    refine ⟨?_, HB.out⟩
    refine congrArg (fun b => Ending.returned (Value.bool b)) (show decide ((z : Int) + 1 ≤ (m : Int)) = b from ?_)
    rw [HP.out]
    by_cases hzm : z + 1 ≤ m
    · rw [decide_eq_true (by omega), HM.out.all (z + 1) (by omega) hzm]
    · rw [decide_eq_false (by omega), HM.out.none (by have := HM.out.le; omega)]
/-- The rounds of Upto. -/
structure UpJ (w : World) (t : TM) (s x : Nat) (W : World) : Prop where
  le : max s t.F ≤ x
  lt : x < 18446744073709551616
  all : ∀ y, max s t.F < y → y ≤ x → t.chosen y = true
  below : Below w.heap.size w W
set_option maxRecDepth 100000 in
set_option maxHeartbeats 4000000 in
theorem tupto_any (R : Nat) (t : TM) (vs : Nat → Value) (ls : Nat → List (Nat × Nat)) (s : Nat) (w : World) (h : TlQ w R t vs ls) (hok : t.ok) (hc : t.c ≤ 100000) (hs : s < 18446744073709551616) :
    Calls Try.prog 18 #[.pointer (some ⟨R, 0, none⟩), .int .u64 (s : Int)] w fun e W' => ∃ m : Nat, UptoIs t s m ∧ e = .returned (.int .u64 (m : Int)) ∧ Below w.heap.size w W' := by
  have c1 := h.c1
  have HQ := Lib.hid h
  have HK := Lib.hid (And.intro hok (And.intro hc hs))
  obtain ⟨F, hF⟩ : ∃ F, F = t.F := ⟨_, rfl⟩
  rw [← hF] at c1
  obtain ⟨x, hx⟩ : ∃ x, x = max s t.F := ⟨_, rfl⟩
  have hmx : max (s : Int) (F : Int) = (x : Int) := by omega
  have HX : Hid (UpJ w t s x w) := Lib.hid ⟨by omega, by have := hok.F; omega, fun y h1 h2 => by omega, Below.refl _ _⟩
  clear h hok hc hs hF hx
  go_enter Try.func18, Try.ntmps18
  go_wp2
  go_loopw [5, 6] (fun l _ wr => ∃ z : Nat, l = .int .u64 (z : Int) ∧ Hid (UpJ w t s z wr)) (fun l _ _ => 18446744073709551616 - (intOf l).toNat)
  case atStart => exact ⟨x, rfl, HX⟩
  case round =>
    obtain ⟨z, rfl, HJ⟩ := hrel
    have HU := Lib.hid (tog_any R t vs ls z wr (HQ.out.grew HJ.out.below) HK.out.1 HK.out.2.1 (by have := HJ.out.le; omega) HJ.out.lt)
    go_wp2_with fail
    refine HU.out.mono ?_
    rintro e W2 ⟨m, rfl, hm, hb2⟩
    have hb := HJ.out.below.trans (Below.mono hb2 HJ.out.below.size)
    by_cases hmz : m = z
    · subst hmz
      have HB := Lib.hid hb
      have HM : Hid (UptoIs t s m) := Lib.hid (UptoIs.floor HK.out.1 ⟨HJ.out.le, HJ.out.lt, HJ.out.all, fun _ => hm.none rfl⟩)
      clear hm hb2 hb
      go_wp2
      go_ret
      exact ⟨m, HM.out, rfl, HB.out⟩
    · have hmi : ¬ (m : Int) = (z : Int) := by omega
      have hle := hm.le
      have hlt := hm.lt
      have HN : Hid (UpJ w t s m W2) := Lib.hid ⟨by have := HJ.out.le; omega, hlt, fun y h1 h2 => by
        by_cases hyz : y ≤ z
        · exact HJ.out.all y h1 hyz
        · exact hm.all y (by omega) h2, hb⟩
      have HL := Lib.hid (And.intro hle (And.intro hlt hmz))
      clear hm hb2 hb hle hlt hmz
      go_wp2
      exact ⟨⟨m, rfl, HN⟩, by simp only [intOf]; have := HL.out; omega⟩
end Go.Proofs.Ytnpkaljmncehhaa
