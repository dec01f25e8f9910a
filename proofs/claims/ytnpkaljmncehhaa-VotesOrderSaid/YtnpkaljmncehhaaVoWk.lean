/- A tally that is known: wakes returns true. -/
import Derived.Test.YtnpkaljmncehhaaVoWkR
namespace Go.Proofs.Ytnpkaljmncehhaa
open Go.RowKit

def tW1 : TM := (TM.new 3).addX 0 1 4
def tW2 : TM := tW1.addX 1 3 9
def tW3 : TM := tW2.addX 1 1 2
def tW4 : TM := tW3.release 3
theorem upto_small {t : TM} {m : Nat} (hm : m < 100) (h : ∀ x, x < m + 2 → 0 < x → t.chosen x = decide (x ≤ m)) : UptoIs t 0 m := ⟨Nat.zero_le _, by omega, fun x h0 hx => by
  rw [h x (by omega) h0]
  simpa using hx, fun _ => by
  rw [h (m + 1) (by omega) (by omega)]
  simp⟩
theorem up2 : UptoIs tW2 0 0 := upto_small (by decide) (by decide)
theorem up3 : UptoIs tW3 0 4 := upto_small (by decide) (by decide)
theorem tW3_S (s : Nat) : tW3.S 1 s = decide (1 ≤ s ∧ s ≤ 9) := by
  show (if 1 = 1 ∧ 1 ≤ s ∧ s ≤ 2 ∧ 0 < s then true else if 1 = 1 ∧ 3 ≤ s ∧ s ≤ 9 ∧ 0 < s then true else if 1 = 0 ∧ 1 ≤ s ∧ s ≤ 4 ∧ 0 < s then true else false) = _
  by_cases h1 : 1 ≤ s ∧ s ≤ 9
  · rw [decide_eq_true h1]
    by_cases h2 : s ≤ 2
    · rw [if_pos ⟨rfl, h1.1, h2, by omega⟩]
    · rw [if_neg (fun h => h2 h.2.2.1), if_pos ⟨rfl, by omega, h1.2, by omega⟩]
  · rw [decide_eq_false h1, if_neg (fun h => h1 ⟨h.2.1, by omega⟩), if_neg (fun h => h1 ⟨by omega, h.2.2.1⟩), if_neg (fun h => by cases h.1)]
theorem tW4_S (s : Nat) : tW4.S 0 s = decide (s = 4) := by
  show ((if 0 = 1 ∧ 1 ≤ s ∧ s ≤ 2 ∧ 0 < s then true else if 0 = 1 ∧ 3 ≤ s ∧ s ≤ 9 ∧ 0 < s then true else if 0 = 0 ∧ 1 ≤ s ∧ s ≤ 4 ∧ 0 < s then true else false) && decide (max 0 3 < s)) = _
  rw [if_neg (fun h => by cases h.1), if_neg (fun h => by cases h.1)]
  by_cases h : s = 4
  · subst h
    rfl
  · rw [decide_eq_false h]
    by_cases h3 : 3 < s
    · rw [if_neg (fun h' => h (by omega)), Bool.false_and]
    · rw [decide_eq_false (by omega), Bool.and_false]
theorem sp_one (a b : Nat) (h : a ≤ b) {P : Nat → Bool} (hP : ∀ s, P s = decide (a ≤ s ∧ s ≤ b)) : SpansOf [(a, b)] P := ⟨⟨h, (fun _ h => by cases h), trivial⟩, fun s => by
  rw [hP s, decide_eq_true_eq]
  constructor
  · rintro ⟨p, hp, h1, h2⟩
    simp only [List.mem_cons, List.not_mem_nil, or_false] at hp
    subst hp
    exact ⟨h1, h2⟩
  · exact fun h => ⟨(a, b), List.mem_cons_self, h.1, h.2⟩⟩
theorem sp3 : SpansOf [(1, 9)] (tW3.S 1) := sp_one 1 9 (by decide) tW3_S
theorem sp4 : SpansOf [(4, 4)] (tW4.S 0) := sp_one 4 4 (by decide) fun s => by
  rw [tW4_S s]
  by_cases h : s = 4
  · subst h; rfl
  · rw [decide_eq_false h, decide_eq_false (fun h' => h (by omega))]
theorem addL {T : World → Prop} (K : VotK T) {w W : World} {R : Nat} {t : TM} {P : Nat → Prop} (h : LiveV K w R t P W) (hT : T w) (hc : t.c ≤ 1000) (r : Nat) (a b : Nat) (hr : r < t.n) (hab : a ≤ b) (hb : b < 18446744073709551616) (r' a' b' : Int) (er : r' = (r : Int)) (ea : a' = (a : Int)) (eb : b' = (b : Int)) : Calls Try.prog 12 #[.pointer (some ⟨R, 0, none⟩), .int .i64 r', .agg #[.int .u64 a', .int .u64 b']] W fun e W' => e = .returned (.int .i64 0) ∧ LiveV K w R (t.addX r a b) P W' := by
  subst er ea eb
  refine (h.add hT hc (r : Int) a b (by omega) hb).mono fun e W' ⟨h1, h2, _⟩ => ⟨?_, h2⟩
  rw [h1, TM.addE, if_pos (by unfold TM.may; simp only [decide_eq_true_eq]; omega)]
  rfl
set_option maxRecDepth 100000 in
set_option maxHeartbeats 4000000 in
theorem wakes15_any {T : World → Prop} (K : VotK T) (w : World) (hT : T w) : Calls Try.prog 7 #[] w fun e W' => e = .returned (.bool true) ∧ Below w.heap.size w W' := by
  have HT := Lib.hid hT
  have HN := Lib.hid (LiveV.of_new K w w 3 (by decide) (by decide) hT (Below.refl _ _))
  clear hT
  go_enter Try.func7, Try.ntmps7
  go_wp2_with fail
  refine HN.out.mono ?_
  rintro e W1 ⟨R, rfl, l1, _⟩
  have L1 := Lib.hid l1
  clear l1 HN
  go_wp2_with fail
  refine (span_any 1 4 _).mono ?_
  rintro e W2 ⟨rfl, b2⟩
  have H2 := Lib.hid (addL K (L1.out.grew b2) HT.out (by decide) 0 1 4 (by decide) (by decide) (by decide) 0 1 4 rfl rfl rfl)
  clear b2 L1
  go_wp2_with fail
  refine H2.out.mono ?_
  rintro e W3 ⟨rfl, l3⟩
  have L3 := Lib.hid (show LiveV K w R tW1 _ W3 from l3)
  clear l3 H2
  go_wp2_with fail
  refine (span_any 3 9 _).mono ?_
  rintro e W4 ⟨rfl, b4⟩
  have H4 := Lib.hid (addL K (L3.out.grew b4) HT.out (by decide) 1 3 9 (by decide) (by decide) (by decide) 1 3 9 rfl rfl rfl)
  clear b4 L3
  go_wp2_with fail
  refine H4.out.mono ?_
  rintro e W5 ⟨rfl, l5⟩
  have L5 := Lib.hid (show LiveV K w R tW2 _ W5 from l5)
  have H5 := Lib.hid (show Calls Try.prog 18 #[.pointer (some ⟨R, 0, none⟩), .int .u64 0] W5 fun e W' => e = .returned (.int .u64 0) ∧ Below W5.heap.size W5 W' from L5.out.upto HT.out (by decide) 0 0 (by decide) up2)
  clear l5 H4
  go_wp2_with fail
  refine H5.out.mono ?_
  rintro e W6 ⟨rfl, b6⟩
  have L6 := Lib.hid (L5.out.grew b6)
  clear b6 L5 H5
  go_wp2_with fail
  refine (span_any 1 2 _).mono ?_
  rintro e W7 ⟨rfl, b7⟩
  have H7 := Lib.hid (addL K (L6.out.grew b7) HT.out (by decide) 1 1 2 (by decide) (by decide) (by decide) 1 1 2 rfl rfl rfl)
  clear b7 L6
  go_wp2_with fail
  refine H7.out.mono ?_
  rintro e W8 ⟨rfl, l8⟩
  have L8 := Lib.hid (show LiveV K w R tW3 _ W8 from l8)
  have H8 := Lib.hid (show Calls Try.prog 18 #[.pointer (some ⟨R, 0, none⟩), .int .u64 0] W8 fun e W' => e = .returned (.int .u64 4) ∧ Below W8.heap.size W8 W' from L8.out.upto HT.out (by decide) 0 4 (by decide) up3)
  clear l8 H7
  go_wp2_with fail
  refine H8.out.mono ?_
  rintro e W9 ⟨rfl, b9⟩
  have L9 := Lib.hid (L8.out.grew b9)
  have H9 := Lib.hid (show Calls Try.prog 17 #[.pointer (some ⟨R, 0, none⟩), .int .i64 1] W9 fun e W' => ∃ A c, e = .returned (.slice A 1 c) ∧ HasSp W' A [(1, 9)] ∧ ([(1, 9)] ≠ [] → ∀ p, A = some p → W9.heap.size ≤ p.block) ∧ Below W9.heap.size W9 W' from L9.out.spans HT.out (by decide) 1 (by decide) sp3)
  clear b9 L8 H8
  go_wp2_with fail
  refine H9.out.mono ?_
  rintro e W10 ⟨Aa, ca, rfl, hA, hn, b10⟩
  obtain ⟨ba, oa, rfl, hal, ha⟩ := hA (by simp)
  have hnew := hn (by simp) _ rfl
  have L10 := Lib.hid (L9.out.more b10 (Q := fun k => k = ba) (fun k e => by rw [show k = ba from e]; exact hnew) (fun k e => by rw [show k = ba from e]; exact hal))
  have HA := Lib.hid (And.intro (show W10.cell? ⟨ba, oa, none⟩ = some (.int .u64 1) from (ha 0 (by decide)).1) (show W10.cell? ⟨ba, oa + 1, none⟩ = some (.int .u64 9) from (ha 0 (by decide)).2))
  have H10 := Lib.hid (show Calls Try.prog 10 #[.pointer (some ⟨R, 0, none⟩), .int .u64 3] W10 fun e W' => e = .returned (.tuple #[]) ∧ LiveV K w R tW4 (fun k => k = ba ∨ False) W' ∧ ∃ F, Only F W10 W' ∧ ∀ k, F k → w.heap.size ≤ k ∧ ¬ (k = ba ∨ False) from L10.out.release HT.out (by decide) 3 (by decide))
  clear hA hn hal ha hnew b10 L9 H9
  go_wp2_with fail
  refine H10.out.mono ?_
  rintro e W11 ⟨rfl, l11, F, o11, hF⟩
  have kba : W11.heap[ba]? = W10.heap[ba]? := o11.block ba (L10.out.p ba (.inl rfl)) fun h => (hF ba h).2 (.inl rfl)
  have x0 : W11.cell? ⟨ba, oa, none⟩ = some (.int .u64 1) := (show W11.cell? ⟨ba, oa, none⟩ = W10.cell? ⟨ba, oa, none⟩ from World.cell?_of_block kba).trans HA.out.1
  have x1 : W11.cell? ⟨ba, oa + 1, none⟩ = some (.int .u64 9) := (show W11.cell? ⟨ba, oa + 1, none⟩ = W10.cell? ⟨ba, oa + 1, none⟩ from World.cell?_of_block kba).trans HA.out.2
  have L11 := Lib.hid l11
  have HX := Lib.hid (And.intro (l11.p ba (.inl rfl)) (And.intro x0 x1))
  have H11 := Lib.hid (show Calls Try.prog 17 #[.pointer (some ⟨R, 0, none⟩), .int .i64 0] W11 fun e W' => ∃ A c, e = .returned (.slice A 1 c) ∧ HasSp W' A [(4, 4)] ∧ ([(4, 4)] ≠ [] → ∀ p, A = some p → W11.heap.size ≤ p.block) ∧ Below W11.heap.size W11 W' from L11.out.spans HT.out (by decide) 0 (by decide) sp4)
  clear l11 o11 hF kba x0 x1 HA H10 L10
  go_wp2_with fail
  refine H11.out.mono ?_
  rintro e W12 ⟨Ab, cb, rfl, hB, -, b12⟩
  obtain ⟨bb, ob, rfl, hbl, hb⟩ := hB (by simp)
  have y0 : W12.cell? ⟨bb, ob, none⟩ = some (.int .u64 4) := (hb 0 (by decide)).1
  have y1 : W12.cell? ⟨bb, ob + 1, none⟩ = some (.int .u64 4) := (hb 0 (by decide)).2
  have x0 : W12.cell? ⟨ba, oa, none⟩ = some (.int .u64 1) := (b12.cell (p := ⟨ba, oa, none⟩) HX.out.1).trans HX.out.2.1
  have x1 : W12.cell? ⟨ba, oa + 1, none⟩ = some (.int .u64 9) := (b12.cell (p := ⟨ba, oa + 1, none⟩) HX.out.1).trans HX.out.2.2
  have L12 := Lib.hid (L11.out.grew b12)
  have hal : ba < W12.heap.size := L12.out.p ba (.inl rfl)
  go_upto_region 7 with (fail)
  refine wakes15_r R ba oa ca bb ob cb _ W12 _ rfl rfl rfl rfl hal hbl x0 x1 y0 y1 ?_ ?_ ?_ ?_ ?_ ?_
  · exact fun w' hg => (L12.out.grew hg).chosen HT.out (by decide) 2 (by decide)
  · exact fun w' hg => (L12.out.grew hg).has HT.out (by decide) 2 3 (by decide) (by decide)
  · exact fun w' hg => (L12.out.grew hg).has HT.out (by decide) 2 4 (by decide) (by decide)
  · exact fun w' hg => K.maj 4 w' (K.grew HT.out (L12.out.grew hg).below) (by decide) (by decide)
  · exact fun w' hg => K.maj 5 w' (K.grew HT.out (L12.out.grew hg).below) (by decide) (by decide)
  intro W13 hg
  have H13 := Lib.hid (L12.out.grew hg).below
  simp only [puts, List.foldl_cons, List.foldl_nil, Act.put, List.setIfInBounds_toArray, List.set_cons_succ, List.set_cons_zero]
  clear hg hB hb hbl y0 y1 x0 x1 L12 hal b12 L11 HX H11
  go_wp2
  go_ret
  exact ⟨rfl, H13.out⟩
end Go.Proofs.Ytnpkaljmncehhaa
