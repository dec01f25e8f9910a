/- A reader of the program: Done. -/
import Derived.Test.YtfaplmpenlbajaaDoorRdU
import Derived.Test.YtfaplmpenlbajaaDoorVarDone
namespace Go.Proofs.YtfaplmpenlbajaaDoor
open Go.RowKit
section
variable {w : World} {R lim : Nat} {s : RdS}
theorem DoneR_q (h : RdQ w R lim s) : Calls Tryd.prog 20 #[.pointer (some ⟨R, 0, none⟩)] w fun x W' => x = .returned (.int .i64 (s.done : Int)) ∧ w.grownBy W' (some R) := by
  obtain ⟨bs', h1, h2, h3⟩ := h
  by_cases h0 : s.e = 0
  · obtain rfl := h2 h0
    rw [h0] at h1
    cases hb : s.bs with
    | nil =>
      rw [hb] at h1
      exact (Done_ok R lim w h1).mono fun _ _ ⟨a, b⟩ => by subst b; exact ⟨by rw [a, RdS.done, if_pos h0, if_pos hb]; rfl, rfl, rfl, rfl, Nat.le_refl _, fun _ _ _ => rfl⟩
    | cons c r =>
      rw [hb] at h1
      exact (Done_left R lim c r w h1).mono fun _ _ ⟨a, b⟩ => by subst b; exact ⟨by rw [a, RdS.done, if_pos h0, if_neg (by rw [hb]; simp)]; rfl, grownBy_set _ _ _ _⟩
  · exact (Done_err R s.e lim (by simpa using h0) bs' w h1).mono fun _ _ ⟨a, b⟩ => by subst b; exact ⟨by rw [a, RdS.done, if_neg h0], rfl, rfl, rfl, Nat.le_refl _, fun _ _ _ => rfl⟩
end
end Go.Proofs.YtfaplmpenlbajaaDoor
