/- Where the consecutive numbers of a set behind one end; the tests of add. -/
import Derived.Test.YtnpkaljmncehhaaVqG
namespace Go.Proofs.Ytnpkaljmncehhaa
open Go.RowKit

/-- Where the consecutive numbers behind one end. -/
structure RunS (P : Nat → Bool) (n m : Nat) : Prop where
  le : n ≤ m
  all : ∀ x, n < x → x ≤ m → P x = true
  stop : P (m + 1) = false
theorem canon_mono {l : List (Nat × Nat)} (h : Canon l) {i j : Nat} (hij : i < j) (hj : j < l.length) : l[i].2 + 1 < l[j].1 := (canon_get h i (by omega)).2 j hj hij
theorem abP_mono {l : List (Nat × Nat)} (h : Canon l) {n : Nat} : ∀ i j, i ≤ j → j < l.length → abP l n i = true → abP l n j = true := fun i j hij hj hi => by
  rw [abP_at (by omega)] at hi
  rw [abP_at hj]
  rcases Nat.lt_or_ge i j with h1 | h1
  · have := canon_mono h h1 hj
    have := (canon_get h j hj).1
    have := of_decide_eq_true hi
    exact decide_eq_true (by omega)
  · obtain rfl : i = j := by omega
    exact hi
/-- Behind the last run that there is, or in a gap, there is none. -/
theorem runS_none {l : List (Nat × Nat)} {P : Nat → Bool} (h : SpansOf l P) {n i : Nat} (hi : FirstP (abP l n) l.length i) (hg : ∀ h : i < l.length, n + 1 < l[i].1) : RunS P n n :=
  ⟨Nat.le_refl _, fun x h1 h2 => by omega, by
    cases hp : P (n + 1) with
    | false => rfl
    | true =>
      obtain ⟨p, hp, h1, h2⟩ := (h.mem (n + 1)).2 hp
      obtain ⟨j, hj, rfl⟩ := List.getElem_of_mem hp
      have hj2 : abP l n j = true := by rw [abP_at hj]; exact decide_eq_true (by omega)
      have hij : i ≤ j := Nat.le_of_not_lt fun hlt => by
        rw [hi.below (abP_mono h.canon) j hlt] at hj2
        cases hj2
      have hil : i < l.length := by omega
      have := hg hil
      rcases Nat.lt_or_ge i j with h3 | h3
      · have := canon_mono h.canon h3 hj
        have := (canon_get h.canon i hil).1
        omega
      · obtain rfl : i = j := by omega
        omega⟩
theorem runS_some {l : List (Nat × Nat)} {P : Nat → Bool} (h : SpansOf l P) {n i : Nat} (hi : FirstP (abP l n) l.length i) (hl : i < l.length) (hg : l[i].1 ≤ n + 1) : RunS P n l[i].2 :=
  ⟨by have := hi.yes hl; rw [abP_at hl] at this; have := of_decide_eq_true this; omega, fun x h1 h2 => (h.mem x).1 ⟨l[i], List.getElem_mem hl, by omega, h2⟩, by
    cases hp : P (l[i].2 + 1) with
    | false => rfl
    | true =>
      obtain ⟨p, hp, h1, h2⟩ := (h.mem (l[i].2 + 1)).2 hp
      obtain ⟨j, hj, rfl⟩ := List.getElem_of_mem hp
      rcases Nat.lt_trichotomy i j with h3 | rfl | h3
      · have := canon_mono h.canon h3 hj
        omega
      · omega
      · have := canon_mono h.canon h3 hl
        have := (canon_get h.canon i hl).1
        omega⟩
set_option maxRecDepth 100000 in
set_option maxHeartbeats 4000000 in
theorem upto_any (R k : Nat) (v : Value) (l : List (Nat × Nat)) (P : Nat → Bool) (n : Nat) (w : World) (hl : l.length ≤ 1000000) (hS : SetQ w R k v l) (hP : SpansOf l P) (h1 : ∀ s, P s = true → 1 ≤ s ∧ s < 18446744073709551616) (hn : n < 18446744073709551616) :
    Calls Try.prog 30 #[.pointer (some ⟨R, k, none⟩), .int .u64 (n : Int)] w fun e W' => ∃ m : Nat, e = .returned (.int .u64 (m : Int)) ∧ RunS P n m ∧ m < 18446744073709551616 ∧ Below w.heap.size w W' := by
  have HS := Lib.hid hS
  have HP := Lib.hid hP
  have H1 := Lib.hid h1
  have HL := Lib.hid hl
  have HA := above_any R k v l n w hl hS
  have HAB := Lib.hid HA
  have HN := Lib.hid hn
  clear hS hP h1 hl HA hn
  go_enter Try.func30, Try.ntmps30
  go_wp2_with fail
  refine HAB.out.mono ?_
  rintro e W1 ⟨i, rfl, hi, h1⟩
  have hS1 := HS.out.grew h1
  obtain ⟨A, c, hv⟩ := hS1.own.form
  subst hv
  have hc := hS1.cell
  obtain ⟨L, hL⟩ : ∃ L, L = l.length := ⟨_, rfl⟩
  have HI := Lib.hid hi
  have H2 := Lib.hid h1
  have hle := hi.le
  rw [← hL] at hc hle
  have hiL : (i : Int) ≤ (L : Int) := by omega
  by_cases hil : i = L
  · have HR : Hid (RunS P n n) := Lib.hid (runS_none HP.out HI.out fun h => by omega)
    subst hil
    clear hL HAB HS hS1 hi h1
    go_wp2
    go_ret
    exact ⟨n, rfl, HR.out, HN.out, H2.out⟩
  · have hlt : i < l.length := by omega
    have hne : l ≠ [] := by rintro rfl; simp at hlt
    obtain ⟨g, c', cur, he, hnc, hg, -, -⟩ := hS1.own.at hne
    cases he
    obtain ⟨c0, c1⟩ := hS1.own.cells i hlt
    have hmem : ∀ s, l[i].1 ≤ s → s ≤ l[i].2 → P s = true := fun s ha hb => (HP.out.mem s).1 ⟨l[i], List.getElem_mem hlt, ha, hb⟩
    have hcg := (canon_get HP.out.canon i hlt).1
    have hx1 := (H1.out _ (hmem l[i].1 (Nat.le_refl _) hcg)).1
    have hy2 := (H1.out _ (hmem l[i].2 hcg (Nat.le_refl _))).2
    obtain ⟨x, hx⟩ : ∃ x, x = l[i].1 := ⟨_, rfl⟩
    obtain ⟨y, hy⟩ : ∃ y, y = l[i].2 := ⟨_, rfl⟩
    rw [← hx] at c0 hx1 hcg
    rw [← hy] at c1 hy2 hcg
    have hli : (i : Int) < (L : Int) := by omega
    have hii : ¬ (i : Int) = (L : Int) := by omega
    have hx1i : (1 : Int) ≤ (x : Int) := by omega
    have hxu : (x : Int) < 18446744073709551616 := by omega
    by_cases hgap : n + 1 < x
    · have HR : Hid (RunS P n n) := Lib.hid (runS_none HP.out HI.out fun h => by rw [← hx]; exact hgap)
      have hgi : (n : Int) < (x : Int) - 1 := by omega
      clear hL HAB HS hS1 hi h1 hne hmem hx hy hgap hil hg hlt
      go_wp2
      go_ret
      exact ⟨n, rfl, HR.out, HN.out, H2.out⟩
    · have HR : Hid (RunS P n y) := Lib.hid (by rw [hy]; exact runS_some HP.out HI.out hlt (by rw [← hx]; omega))
      obtain ⟨z, rfl⟩ : ∃ z, x = z + 1 := ⟨x - 1, by omega⟩
      have hgi : ¬ (n : Int) < (z : Int) := by omega
      rw [Int.natCast_add, Int.natCast_one] at c0 hxu hx1i
      have HY := Lib.hid hy2
      clear hL HAB HS hS1 hi h1 hne hmem hx hy hgap hil hg hlt hy2
      have hw : IntKind.u64.wrap (z : Int) = (z : Int) := by rw [IntKind.wrap_u64]; omega
      have hgn : ¬ n < z := by omega
      have hib : ((i : Int) == (L : Int)) = false := by simpa using hii
      clear hx1 hcg hxu hx1i hgi
      go_wp2
      go_ret
      exact ⟨y, rfl, HR.out, HY.out, H2.out⟩
/-- Whether a run ends at the place ahead of another one's begin, or behind. -/
theorem add1_any (q a _b x y : Nat) (w : World) (h0 : w.cell? ⟨q, 0, none⟩ = some (.int .u64 (a : Int))) (hl : q < w.heap.size) (ha : 1 ≤ a) (ha2 : a < 18446744073709551616) : Calls Try.prog 34 #[.agg #[.int .u64 (x : Int), .int .u64 (y : Int)], .pointer (some ⟨q, 0, none⟩)] w fun e W' => e = .returned (.bool (decide (a ≤ y + 1))) ∧ Below w.heap.size w W' := by
  go_enter Try.func34, Try.ntmps34
  go_upto_region 1 with (fail)
  obtain ⟨W0, hW0⟩ : ∃ W0, W0 = w.alloc (.cells #[.int .u64 (x : Int), .int .u64 (y : Int)] 64) := ⟨_, rfl⟩
  rw [← hW0]
  obtain ⟨b0, k0, s0⟩ := boxR hW0
  have c1 := blk_cell k0 1
  have cq := (b0.cell (p := ⟨q, 0, none⟩) hl).trans h0
  have HB := Lib.hid b0
  obtain ⟨p, hp⟩ : ∃ p, p = w.heap.size := ⟨_, rfl⟩
  rw [← hp] at c1 ⊢
  have hpl : p < W0.heap.size := by omega
  have ha1 : (1 : Int) ≤ (a : Int) := by omega
  have ha3 : (a : Int) < 18446744073709551616 := by omega
  clear hW0 b0 k0 s0 hp h0
  go_wp2
  go_ret
  exact ⟨congrArg (fun b => Ending.returned (Value.bool b)) (decide_eq_decide.2 (show (a : Int) - 1 ≤ (y : Int) ↔ a ≤ y + 1 by omega)), HB.out⟩
theorem add2_any (q _a b x y : Nat) (w : World) (h1 : w.cell? ⟨q, 0 + 1, none⟩ = some (.int .u64 (b : Int))) (hl : q < w.heap.size) (hx : 1 ≤ x) (hx2 : x < 18446744073709551616) : Calls Try.prog 35 #[.agg #[.int .u64 (x : Int), .int .u64 (y : Int)], .pointer (some ⟨q, 0, none⟩)] w fun e W' => e = .returned (.bool (decide (b + 1 < x))) ∧ Below w.heap.size w W' := by
  go_enter Try.func35, Try.ntmps35
  go_upto_region 1 with (fail)
  obtain ⟨W0, hW0⟩ : ∃ W0, W0 = w.alloc (.cells #[.int .u64 (x : Int), .int .u64 (y : Int)] 64) := ⟨_, rfl⟩
  rw [← hW0]
  obtain ⟨b0, k0, s0⟩ := boxR hW0
  have c1 := blk_cell k0 0
  have cq := (b0.cell (p := ⟨q, 0 + 1, none⟩) hl).trans h1
  have HB := Lib.hid b0
  obtain ⟨p, hp⟩ : ∃ p, p = w.heap.size := ⟨_, rfl⟩
  rw [← hp] at c1 ⊢
  have hpl : p < W0.heap.size := by omega
  have ha1 : (1 : Int) ≤ (x : Int) := by omega
  have ha3 : (x : Int) < 18446744073709551616 := by omega
  clear hW0 b0 k0 s0 hp h1
  go_wp2
  go_ret
  exact ⟨congrArg (fun b => Ending.returned (Value.bool b)) (decide_eq_decide.2 (show (b : Int) < (x : Int) - 1 ↔ b + 1 < x by omega)), HB.out⟩
end Go.Proofs.Ytnpkaljmncehhaa
