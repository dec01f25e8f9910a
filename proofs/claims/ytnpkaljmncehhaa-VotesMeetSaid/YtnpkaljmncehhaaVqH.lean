/- Whether a replica has a slot; how far the same majority goes. -/
import Derived.Test.YtnpkaljmncehhaaVqT
import Derived.Test.YtnpkaljmncehhaaVqQ
namespace Go.Proofs.Ytnpkaljmncehhaa
open Go.RowKit

section
variable {w : World} {R : Nat} {t : TM} {vs : Nat → Value} {ls : Nat → List (Nat × Nat)}
theorem TlQ.upto (h : TlQ w R t vs ls) (hok : t.ok) (hc : t.c ≤ 100000) {r : Nat} (hr : r < 7) (s : Nat) (hs : s < 18446744073709551616) (W : World) (hW : Below w.heap.size w W) :
    Calls Try.prog 30 #[.pointer (some ⟨R, 2 + r, none⟩), .int .u64 (s : Int)] W fun e W' => ∃ m : Nat, e = .returned (.int .u64 (m : Int)) ∧ RunS (t.set r) s m ∧ m < 18446744073709551616 ∧ Below W.heap.size W W' :=
  upto_any R (2 + r) (vs r) (ls r) (t.set r) s W (by have := h.len r hr; omega) ((h.set hr).grew hW) (h.spans r hr) (hok.set r) hs
end
theorem runS_has {P : Nat → Bool} {s m : Nat} (h : RunS P s m) : decide (s + 1 ≤ m) = P (s + 1) := by
  by_cases hm : s + 1 ≤ m
  · rw [decide_eq_true hm, h.all (s + 1) (by omega) hm]
  · have := h.le
    have e : m = s := by omega
    have := h.stop
    rw [e] at this
    rw [decide_eq_false hm, this]
set_option maxRecDepth 100000 in
set_option maxHeartbeats 4000000 in
theorem has_any (R : Nat) (t : TM) (vs : Nat → Value) (ls : Nat → List (Nat × Nat)) (r s : Nat) (w : World) (h : TlQ w R t vs ls) (hok : t.ok) (hc : t.c ≤ 100000) (hr : r < t.n) (hs : s < 18446744073709551616) :
    Calls Try.prog 19 #[.pointer (some ⟨R, 0, none⟩), .int .i64 (r : Int), .int .u64 (s : Int)] w fun e W' => e = .returned (.bool (t.has r s)) ∧ Below w.heap.size w W' := by
  have hr7 : r < 7 := by have := hok.n7; omega
  have HO := Lib.hid (isOne_any R t.n r w h.c0)
  have c1 := h.c1
  have hone : decide (0 ≤ (r : Int) ∧ (r : Int) < (t.n : Int)) = true := decide_eq_true ⟨by omega, by omega⟩
  rw [hone] at HO
  obtain ⟨F, hF⟩ : ∃ F, F = t.F := ⟨_, rfl⟩
  rw [← hF] at c1
  obtain ⟨b, hb⟩ : ∃ b, b = t.has r s := ⟨_, rfl⟩
  rw [← hb]
  by_cases hsF : s ≤ F
  · obtain rfl : b = true := by rw [hb]; unfold TM.has; rw [← hF, decide_eq_true hsF]; rfl
    have hsi : (s : Int) ≤ (F : Int) := by omega
    clear h hok hc hr hs hr7 hone hF hb
    go_enter Try.func19, Try.ntmps19
    go_wp2_with fail
    refine HO.out.mono ?_
    rintro e W1 ⟨rfl, rfl⟩
    go_wp2
    go_ret
    exact ⟨rfl, Below.refl _ _⟩
  · obtain ⟨z, rfl⟩ : ∃ z, s = z + 1 := ⟨s - 1, by omega⟩
    have hP : b = t.set r (z + 1) := by rw [hb, TM.set_of hr]; unfold TM.has; rw [← hF, decide_eq_false hsF]; rfl
    have HU := Lib.hid (h.upto hok hc hr7 z (by omega) w (Below.refl _ _))
    have HP := Lib.hid hP
    have hgi : ¬ (z : Int) + 1 ≤ (F : Int) := by omega
    have hw : IntKind.u64.wrap (z : Int) = (z : Int) := by rw [IntKind.wrap_u64]; omega
    have hr7i : (r : Int) < 7 := by omega
    clear h hok hc hr hs hr7 hone hF hb hP hsF
    go_enter Try.func19, Try.ntmps19
    go_wp2_with fail
    refine HO.out.mono ?_
    rintro e W1 ⟨rfl, rfl⟩
    go_wp2_with fail
    refine HU.out.mono ?_
    rintro e W2 ⟨m, rfl, hm, _, hb2⟩
    have HM := Lib.hid (runS_has hm)
    have HB := Lib.hid hb2
    clear hm hb2
    go_wp2
    go_ret
    refine ⟨?_, HB.out⟩
    rw [HP.out, ← HM.out]
    refine congrArg (fun b => Ending.returned (Value.bool b)) (show (decide ((z : Int) + 1 ≤ (F : Int)) || decide ((z : Int) + 1 ≤ (m : Int))) = decide (z + 1 ≤ m) from ?_)
    rw [decide_eq_false (by omega), Bool.false_or]
    exact decide_eq_decide.2 (by omega)
/-! Of seven numbers in order: how many are at least, how many above the one at a place. -/
theorem cntF_range (f : Nat → Bool) : ∀ n, (List.range n).countP f = cntF f n
  | 0 => rfl
  | n + 1 => by
    have h1 : List.countP f [n] = if f n = true then 1 else 0 := by cases hfn : f n <;> simp [hfn]
    rw [List.range_succ, List.countP_append, cntF_range f n, h1]
    rfl
theorem getD_of {d : Array Int} {i : Nat} (h : i < d.size) : d[i]! = d.toList[i]'(by simpa using h) := by
  rw [getElem!_pos d i h, Array.getElem_toList]
theorem count_ge {d d' : Array Int} (h : Sort7 d d') {k : Nat} (_hk : k < 7) : 7 - k ≤ d'.toList.countP (fun x => decide (d'[k]! ≤ x)) := by
  have hl : d'.toList.length = 7 := by rw [Array.length_toList, h.size]
  have e : (d'.toList.drop k).countP (fun x => decide (d'[k]! ≤ x)) = (d'.toList.drop k).length := by
    rw [List.countP_eq_length]
    intro x hx
    obtain ⟨j, hj, rfl⟩ := List.getElem_of_mem hx
    rw [List.length_drop] at hj
    rw [List.getElem_drop]
    have := h.le k (k + j) (by omega) (by omega)
    rw [getD_of (i := k + j) (by rw [h.size]; omega)] at this
    exact decide_eq_true this
  have e2 : d'.toList.countP (fun x => decide (d'[k]! ≤ x)) = (d'.toList.take k).countP (fun x => decide (d'[k]! ≤ x)) + (d'.toList.drop k).countP (fun x => decide (d'[k]! ≤ x)) := by
    rw [← List.countP_append, List.take_append_drop]
  rw [e2, e, List.length_drop, hl]
  omega
theorem count_gt {d d' : Array Int} (h : Sort7 d d') {k : Nat} (hk : k < 7) : d'.toList.countP (fun x => decide (d'[k]! < x)) ≤ 6 - k := by
  have hl : d'.toList.length = 7 := by rw [Array.length_toList, h.size]
  have e : (d'.toList.take (k + 1)).countP (fun x => decide (d'[k]! < x)) = 0 := by
    rw [List.countP_eq_zero]
    intro x hx
    obtain ⟨j, hj, rfl⟩ := List.getElem_of_mem hx
    rw [List.length_take] at hj
    rw [List.getElem_take]
    have := h.le j k (by omega) hk
    rw [getD_of (i := j) (by rw [h.size]; omega)] at this
    simp only [decide_eq_true_eq]
    omega
  have e2 : d'.toList.countP (fun x => decide (d'[k]! < x)) = (d'.toList.take (k + 1)).countP (fun x => decide (d'[k]! < x)) + (d'.toList.drop (k + 1)).countP (fun x => decide (d'[k]! < x)) := by
    rw [← List.countP_append, List.take_append_drop]
  have e3 : (d'.toList.drop (k + 1)).countP (fun x => decide (d'[k]! < x)) ≤ (d'.toList.drop (k + 1)).length := List.countP_le_length
  rw [List.length_drop, hl] at e3
  rw [e2, e]
  omega
/-- How far the same majority goes. -/
structure TogIs (t : TM) (s m : Nat) : Prop where
  le : s ≤ m
  lt : m < 18446744073709551616
  all : ∀ x, s < x → x ≤ m → t.chosen x = true
  none : m = s → t.chosen (s + 1) = false
theorem cntF_ext {f : Nat → Bool} {n : Nat} : ∀ {k : Nat}, (∀ r, n ≤ r → r < k → f r = false) → n ≤ k → cntF f k = cntF f n
  | 0, _, hk => by rw [show n = 0 by omega]
  | k + 1, h, hk => by
    rcases Nat.lt_or_ge k n with h1 | h1
    · rw [show n = k + 1 by omega]
    · show cntF f k + _ = _
      rw [cntF_ext (fun r hr hrk => h r hr (by omega)) h1, h k h1 (by omega)]
      rfl
theorem cntF_more {f : Nat → Bool} {n : Nat} : ∀ {k : Nat}, n ≤ k → cntF f n ≤ cntF f k
  | 0, hk => by rw [show n = 0 by omega]; exact Nat.le_refl _
  | k + 1, hk => by
    rcases Nat.lt_or_ge k n with h1 | h1
    · rw [show n = k + 1 by omega]
      exact Nat.le_refl _
    · have := cntF_more (f := f) h1
      show _ ≤ cntF f k + _
      omega
/-- Seven ends, in order: the one at the majority's place. -/
theorem tog_of {t : TM} (hok : t.ok) {s : Nat} (hs : t.F ≤ s) (_hs2 : s < 18446744073709551616) {d d' : Array Int} {e : Nat → Nat} (hd : d.toList = (List.range 7).map fun r => (e r : Int)) (he : ∀ r, r < 7 → RunS (t.set r) s (e r) ∧ e r < 18446744073709551616) (h : Sort7 d d') :
    ∃ m : Nat, d'[7 - (t.n / 2 + 1)]! = (m : Int) ∧ TogIs t s m := by
  have hn0 := hok.n0
  have hn7 := hok.n7
  have hk : 7 - (t.n / 2 + 1) < 7 := by omega
  have h1 := count_ge h hk
  have h2 := count_gt h hk
  have hmem : d'[7 - (t.n / 2 + 1)]! ∈ d.toList := by
    rw [getD_of (by rw [h.size]; exact hk)]
    exact h.perm.mem_iff.1 (List.getElem_mem _)
  rw [hd] at hmem
  obtain ⟨q, hq, hqe⟩ := List.mem_map.1 hmem
  rw [List.mem_range] at hq
  obtain ⟨m, hm⟩ : ∃ m, m = e q := ⟨_, rfl⟩
  have hqe' : (e q : Int) = d'[7 - (t.n / 2 + 1)]! := hqe
  rw [← hm] at hqe'
  rw [← hqe', h.perm.countP_eq, hd, List.countP_map] at h1 h2
  have f1 : ((fun x : Int => decide ((m : Int) ≤ x)) ∘ fun r => (e r : Int)) = fun r => decide (m ≤ e r) := funext fun r => decide_eq_decide.2 (by show (m : Int) ≤ (e r : Int) ↔ _; omega)
  have f2 : ((fun x : Int => decide ((m : Int) < x)) ∘ fun r => (e r : Int)) = fun r => decide (m < e r) := funext fun r => decide_eq_decide.2 (by show (m : Int) < (e r : Int) ↔ _; omega)
  rw [f1, cntF_range] at h1
  rw [f2, cntF_range] at h2
  have hge : ∀ r, t.n ≤ r → r < 7 → e r = s := fun r hr hr7 => by
    have h3 := (he r hr7).1
    have hle := h3.le
    refine Nat.le_antisymm (Nat.le_of_not_lt fun hlt => ?_) hle
    have := h3.all (s + 1) (by omega) (by omega)
    unfold TM.set at this
    rw [decide_eq_false (by omega), Bool.false_and] at this
    cases this
  refine ⟨m, hqe'.symm, by rw [hm]; exact (he q hq).1.le, by rw [hm]; exact (he q hq).2, fun x hx hxm => ?_, fun hms => ?_⟩
  · rw [cntF_ext (n := t.n) (fun r hr hr7 => decide_eq_false (by rw [hge r hr hr7]; omega)) hn7] at h1
    have h3 : cntF (fun r => decide (m ≤ e r)) t.n ≤ cntF (fun r => t.has r x) t.n := cntF_mono fun r hr hmr => by
      have h4 := (he r (by omega)).1.all x hx (by have := of_decide_eq_true hmr; omega)
      rw [TM.set_of hr] at h4
      unfold TM.has
      rw [h4, Bool.or_true]
    unfold TM.chosen TM.count
    exact decide_eq_true (by omega)
  · have h3 : cntF (fun r => t.has r (s + 1)) t.n ≤ cntF (fun r => decide (m < e r)) t.n := cntF_mono fun r hr hh => by
      unfold TM.has at hh
      rw [decide_eq_false (by omega), Bool.false_or, ← TM.set_of hr, ← runS_has (he r (by omega)).1] at hh
      have := of_decide_eq_true hh
      exact decide_eq_true (by omega)
    have h4 := cntF_more (f := fun r => decide (m < e r)) hn7
    unfold TM.chosen TM.count
    exact decide_eq_false (by omega)
end Go.Proofs.Ytnpkaljmncehhaa
