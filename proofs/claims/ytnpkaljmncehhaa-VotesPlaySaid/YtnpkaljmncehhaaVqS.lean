/- The library's binary search over a test that is handed in. -/
import Derived.Test.YtnpkaljmncehhaaVqA
namespace Go.Proofs.Ytnpkaljmncehhaa
open Go.RowKit

/-- A place up to which a test does not hold, and at which it does. -/
structure FirstP (p : Nat → Bool) (n k : Nat) : Prop where
  le : k ≤ n
  no : ∀ j, j + 1 = k → p j = false
  yes : k < n → p k = true
/-- Of a test that holds for all behind the first one for which it holds. -/
theorem FirstP.below {p : Nat → Bool} {n k : Nat} (h : FirstP p n k) (hm : ∀ i j, i ≤ j → j < n → p i = true → p j = true) : ∀ j, j < k → p j = false := fun j hj => by
  cases hp : p j with
  | false => rfl
  | true =>
    have h1 := h.no (k - 1) (by omega)
    rw [hm j (k - 1) (by omega) (by have := h.le; omega) hp] at h1
    cases h1
theorem FirstP.above {p : Nat → Bool} {n k : Nat} (h : FirstP p n k) (hm : ∀ i j, i ≤ j → j < n → p i = true → p j = true) : ∀ j, k ≤ j → j < n → p j = true := fun j hj hn => hm k j hj hn (h.yes (by omega))
set_option maxRecDepth 100000 in
set_option maxHeartbeats 4000000 in
theorem search_any (n : Nat) (hn : n ≤ 1000000) (p : Nat → Bool) (f : FuncId) (hen : ∀ args w, (callFunc f args).run Try.prog w = .ok (.enter f args) w) (cs : Array Value) (w : World)
    (hf : ∀ (k : Nat) (W : World), k < n → Below w.heap.size w W → Calls Try.prog f (#[.int .i64 (k : Int)] ++ cs) W fun e W' => e = .returned (.bool (p k)) ∧ Below W.heap.size W W') :
    Calls Try.prog 40 #[.int .i64 (n : Int), .func (.func f) #[] cs] w fun e W' => ∃ k : Nat, e = .returned (.int .i64 (k : Int)) ∧ FirstP p n k ∧ Below w.heap.size w W' := by
  have HF := Lib.hid hf
  clear hf
  go_enter Try.func40, Try.ntmps40
  go_wp2
  go_loopw [5, 6, 7] (fun i j _ wr => ∃ I J : Nat, i = .int .i64 (I : Int) ∧ j = .int .i64 (J : Int) ∧ Hid (I ≤ J ∧ J ≤ n ∧ (∀ k, k + 1 = I → p k = false) ∧ (J < n → p J = true) ∧ Below w.heap.size w wr)) (fun i j _ _ => (intOf j).toNat - (intOf i).toNat)
  case atStart => exact ⟨0, n, rfl, rfl, Lib.hid ⟨Nat.zero_le _, Nat.le_refl _, fun k h => by omega, fun h => by omega, Below.refl _ _⟩⟩
  case round =>
    obtain ⟨I, J, rfl, rfl, HI⟩ := hrel
    by_cases hlt : I < J
    · have hji : (I : Int) < J := by omega
      obtain ⟨H, hH⟩ : ∃ H, H = (I + J) / 2 := ⟨_, rfl⟩
      have hJn := HI.out.2.1
      have hIH : I ≤ H := by omega
      have hHJ : H < J := by omega
      have hHi : ((I : Int) + (J : Int)) / 2 = (H : Int) := by omega
      have hs : (I : Int) + (J : Int) ≤ 2000000 := by omega
      obtain ⟨b, hb⟩ : ∃ b, b = p H := ⟨_, rfl⟩
      have HH := Lib.hid (And.intro hb (And.intro hIH hHJ))
      clear hH hb
      go_wp2_with fail
      refine (HF.out H wr (by have := HH.out.2; have := HI.out.2.1; omega) HI.out.2.2.2.2).mono ?_
      rintro e W1 ⟨rfl, hb1⟩
      rw [← HH.out.1]
      have HB := Lib.hid (HI.out.2.2.2.2.trans (Below.mono hb1 HI.out.2.2.2.2.size))
      clear hb1
      cases b with
      | true =>
        have HN : Hid (I ≤ H ∧ H ≤ n ∧ (∀ k, k + 1 = I → p k = false) ∧ (H < n → p H = true) ∧ Below w.heap.size w W1) := Lib.hid ⟨HH.out.2.1, by have := HH.out.2.2; have := HI.out.2.1; omega, HI.out.2.2.1, fun _ => HH.out.1.symm, HB.out⟩
        go_wp2
        exact ⟨⟨I, H, rfl, rfl, HN⟩, by simp only [intOf]; have := HH.out.2; omega⟩
      | false =>
        have HN : Hid (H + 1 ≤ J ∧ J ≤ n ∧ (∀ k, k + 1 = H + 1 → p k = false) ∧ (J < n → p J = true) ∧ Below w.heap.size w W1) := Lib.hid ⟨HH.out.2.2, HI.out.2.1, fun k hk => by rw [show k = H by omega]; exact HH.out.1.symm, HI.out.2.2.2.1, HB.out⟩
        go_wp2
        exact ⟨⟨H + 1, J, rfl, rfl, HN⟩, by simp only [intOf]; have := HH.out.2; omega⟩
    · have hji : ¬ (I : Int) < J := by omega
      have HK : Hid (FirstP p n I) := Lib.hid ⟨by have := HI.out.1; have := HI.out.2.1; omega, fun j hj => HI.out.2.2.1 j hj, fun h => by
        have e : I = J := by have := HI.out.1; omega
        rw [e] at h ⊢
        exact HI.out.2.2.2.1 h⟩
      have HB := Lib.hid HI.out.2.2.2.2
      clear hlt
      go_wp2
      go_ret
      exact ⟨I, rfl, HK.out, HB.out⟩
end Go.Proofs.Ytnpkaljmncehhaa
