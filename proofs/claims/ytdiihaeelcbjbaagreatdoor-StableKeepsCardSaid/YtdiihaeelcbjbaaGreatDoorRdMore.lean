/- Readings one by one: what n of them come to, behind an error, and one more; a reader beside blocks of other types. -/
import Derived.Test.YtdiihaeelcbjbaaGreatDoorMRdA
import Derived.Test.YtdiihaeelcbjbaaGreatDoorMRdE
import Derived.Test.YtdiihaeelcbjbaaGreatDoorSameT
namespace Go.Proofs.YtdiihaeelcbjbaaGreatDoor
open Go.RowKit

theorem many_stop {α : Type} {f : RdS → α × RdS} : ∀ (j n : Nat) (s : RdS), j ≤ n → (manyR f j s).2.e ≠ 0 → s.e = 0 → manyR f n s = manyR f j s
  | 0, n, s, _, h, h0 => absurd h0 h
  | j + 1, 0, s, h, _, _ => absurd h (by omega)
  | j + 1, n + 1, s, hj, h, _ => by
    unfold manyR at h ⊢
    by_cases he : (f s).2.e ≠ 0
    · rw [if_pos he, if_pos he]
    · rw [if_neg he] at h ⊢
      rw [if_neg he]
      rw [many_stop j n _ (by omega) h (Decidable.not_not.1 he)]
theorem many_snoc {α : Type} {f : RdS → α × RdS} : ∀ (j : Nat) (s : RdS), (manyR f j s).2.e = 0 → manyR f (j + 1) s = if (f (manyR f j s).2).2.e ≠ 0 then ((manyR f j s).1, (f (manyR f j s).2).2) else ((manyR f j s).1 ++ [(f (manyR f j s).2).1], (f (manyR f j s).2).2)
  | 0, s, _ => rfl
  | j + 1, s, h => by
    by_cases he : (f s).2.e ≠ 0
    · unfold manyR at h
      rw [if_pos he] at h
      exact absurd h he
    · have e1 : manyR f (j + 1) s = ((f s).1 :: (manyR f j (f s).2).1, (manyR f j (f s).2).2) := by
        rw [manyR, if_neg he]
      have e2 : manyR f (j + 1 + 1) s = ((f s).1 :: (manyR f (j + 1) (f s).2).1, (manyR f (j + 1) (f s).2).2) := by
        rw [manyR, if_neg he]
      rw [e1] at h ⊢
      rw [e2, many_snoc j (f s).2 h]
      by_cases h2 : (f (manyR f j (f s).2).2).2.e ≠ 0
      · rw [if_pos h2, if_pos h2]
      · rw [if_neg h2, if_neg h2]
        rfl
theorem RdQ.lt {w : World} {R lim : Nat} {s : RdS} (h : RdQ w R lim s) : R < w.heap.size := by
  obtain ⟨bs', h1, _⟩ := h
  exact h1.lt
theorem RdQ.sameK {T : List TypeId} {w w' : World} {R lim : Nat} {s : RdS} (h : RdQ w R lim s) (hs : SameT T w w') (h1 : 146 ∉ T) (h2 : 5 ∉ T) : RdQ w' R lim s := by
  obtain ⟨bs', ⟨A, L, c, hh, hL, hc, hm, hd⟩, k2, k3⟩ := h
  exact ⟨bs', ⟨A, L, c, hs _ _ _ h1 hh, hL, hc, hm, hs.data hd h2⟩, k2, k3⟩
theorem u_zero {s : RdS} (h : s.u.2.e ≠ 0) : s.u.1 = 0 := by
  by_cases h0 : s.e = 0
  · cases hr : rdU s.bs with
    | short => rw [RdS.u_short h0 hr]
    | form r => rw [RdS.u_form h0 hr]
    | ok n r => rw [RdS.u_ok h0 hr] at h; exact absurd rfl h
  · rw [RdS.u_err h0]
theorem wrap_u64n {x : Int} (h0 : 0 ≤ x) (h1 : x < 18446744073709551616) : IntKind.u64.wrap x = x := by rw [IntKind.wrap_u64]; omega
theorem u64_succ {j N : Nat} (h : j < N) (hN : N < 18446744073709551616) : IntKind.u64.wrap ((j : Int) + 1) = ((j + 1 : Nat) : Int) := by
  rw [wrap_u64n (by omega) (by omega)]
  omega
end Go.Proofs.YtdiihaeelcbjbaaGreatDoor
