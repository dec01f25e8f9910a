/- A reader of the program, whatever it has: numbers, its error; the first error persists. -/
import Derived.Test.YtfaplmpenlbajaaDoorRdErr
import Derived.Test.YtfaplmpenlbajaaDoorRdS
namespace Go.Proofs.YtfaplmpenlbajaaDoor
open Go.RowKit
def RdQ (w : World) (R lim : Nat) (s : RdS) : Prop := ∃ bs', Rd w R (s.e : Int) (lim : Int) bs' ∧ (s.e = 0 → bs' = s.bs) ∧ (s.e ≠ 0 → s.bs = [])
section
variable {w : World} {R lim : Nat} {s : RdS}
theorem RdQ.below {w' : World} (h : RdQ w R lim s) (hb : Below w.heap.size w w') : RdQ w' R lim s := by
  obtain ⟨bs', h1, h2, h3⟩ := h
  exact ⟨bs', h1.below hb, h2, h3⟩
theorem UintR_q (h : RdQ w R lim s) : Calls Tryd.prog 36 #[.pointer (some ⟨R, 0, none⟩)] w fun x W' => x = .returned (.int .u64 (s.u.1 : Int)) ∧ RdQ W' R lim s.u.2 ∧ w.grownBy W' (some R) := by
  obtain ⟨bs', h1, h2, h3⟩ := h
  by_cases h0 : s.e = 0
  · obtain rfl := h2 h0
    rw [h0] at h1
    cases hr : rdU s.bs with
    | short =>
      rw [RdS.u_short h0 hr]
      exact (UintR_short w R lim s.bs h1 hr).mono fun _ _ ⟨a, b, c⟩ => ⟨a, ⟨[], b, fun h => absurd h (by decide), fun _ => rfl⟩, c⟩
    | form r =>
      rw [RdS.u_form h0 hr]
      exact (UintR_form w R lim s.bs r h1 hr).mono fun _ _ ⟨a, b, c⟩ => ⟨a, ⟨_, b, fun h => absurd h (by decide), fun _ => rfl⟩, c⟩
    | ok n r =>
      rw [RdS.u_ok h0 hr]
      exact (UintR_ok w R lim s.bs n r h1 hr).mono fun _ _ ⟨a, b, c⟩ => ⟨a, ⟨_, b, fun _ => rfl, fun h => absurd rfl h⟩, c⟩
  · rw [RdS.u_err h0]
    exact (UintR_err w R s.e lim (by simpa using h0) bs' h1).mono fun _ _ ⟨a, b, c⟩ => ⟨a, ⟨_, b, fun h => absurd h h0, fun _ => rfl⟩, c⟩

theorem ErrR_q (h : RdQ w R lim s) : Calls Tryd.prog 18 #[.pointer (some ⟨R, 0, none⟩)] w fun x W' => x = .returned (.int .i64 (s.e : Int)) ∧ w = W' := by
  obtain ⟨bs', h1, -, -⟩ := h
  exact Err_any R s.e lim bs' w h1

end
end Go.Proofs.YtfaplmpenlbajaaDoor
