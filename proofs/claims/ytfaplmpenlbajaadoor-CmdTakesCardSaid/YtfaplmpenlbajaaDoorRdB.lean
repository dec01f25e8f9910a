/- A reader of the program: a byte; a new one. -/
import Derived.Test.YtfaplmpenlbajaaDoorRdU
namespace Go.Proofs.YtfaplmpenlbajaaDoor
open Go.RowKit
section
variable {w : World} {R lim : Nat} {s : RdS}
theorem ByteR_q (h : RdQ w R lim s) : Calls Tryd.prog 19 #[.pointer (some ⟨R, 0, none⟩)] w fun x W' => x = .returned (.int .u8 (s.b.1 : Int)) ∧ RdQ W' R lim s.b.2 ∧ w.grownBy W' (some R) := by
  obtain ⟨bs', h1, h2, h3⟩ := h
  by_cases h0 : s.e = 0
  · obtain rfl := h2 h0
    rw [h0] at h1
    cases hb : s.bs with
    | nil =>
      rw [hb] at h1
      rw [show s.b = (0, ⟨10, []⟩) by rw [RdS.b, if_pos h0, hb]]
      exact (Byte_end R lim w h1).mono fun _ _ ⟨a, b⟩ => by subst b; exact ⟨a, ⟨_, h1.fail 10, fun h => absurd h (by decide), fun _ => rfl⟩, grownBy_set _ _ _ _⟩
    | cons c r =>
      rw [hb] at h1
      rw [show s.b = (c.toNat, ⟨0, r⟩) by rw [RdS.b, if_pos h0, hb]]
      exact (Byte_one R lim c r w h1).mono fun _ _ ⟨a, b, g⟩ => ⟨a, ⟨_, b, fun _ => rfl, fun h => absurd rfl h⟩, g⟩
  · rw [show s.b = (0, ⟨s.e, []⟩) by rw [RdS.b, if_neg h0]]
    exact (Byte_err R s.e lim (by simpa using h0) bs' w h1).mono fun _ _ ⟨a, b⟩ => by subst b; exact ⟨a, ⟨_, h1, fun h => absurd h h0, fun _ => rfl⟩, rfl, rfl, rfl, Nat.le_refl _, fun _ _ _ => rfl⟩
theorem NewR_q (A : Option Addr) (L c : Nat) (bs : List UInt8) (hL : L = bs.length) (hlen : bs.length ≤ 1000000) (hA : HasA w w.heap.size A bs) :
    Calls Tryd.prog 16 #[.slice A L c, .int .i64 (lim : Int)] w fun x W' => ∃ R, x = .returned (.pointer (some ⟨R, 0, none⟩)) ∧ RdQ W' R lim ⟨0, bs⟩ ∧ w.heap.size ≤ R ∧ Below w.heap.size w W' := by
  refine (New_any A L c lim bs hL hlen w hA).mono ?_
  rintro x W' ⟨R, a, b, g, hb⟩
  exact ⟨R, a, ⟨bs, b, fun _ => rfl, fun h => absurd rfl h⟩, g, hb⟩
end
end Go.Proofs.YtfaplmpenlbajaaDoor
