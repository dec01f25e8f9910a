/- Plain mathematics of a reader: its error, the bytes that are left. -/
import Derived.Test.YtkeaeahiokgkiaaFoldMath
namespace Go.Proofs.Ytkeaeahiokgkiaa

/-- What a reader has: its error, the bytes that are left (none where there was an error). -/
structure RdS where
  e : Nat
  bs : List UInt8
def RdS.u (s : RdS) : Nat × RdS := if s.e = 0 then (match rdU s.bs with | .short => (0, ⟨10, []⟩) | .form _ => (0, ⟨11, []⟩) | .ok n rest => (n, ⟨0, rest⟩)) else (0, ⟨s.e, []⟩)
def RdS.i (s : RdS) : Int × RdS := (unfoldN s.u.1, s.u.2)
def RdS.t (lim : Nat) (s : RdS) : List UInt8 × RdS := if s.u.2.e = 0 then (if lim < s.u.1 then ([], ⟨11, []⟩) else if s.u.2.bs.length < s.u.1 then ([], ⟨10, []⟩) else (s.u.2.bs.take s.u.1, ⟨0, s.u.2.bs.drop s.u.1⟩)) else ([], ⟨s.u.2.e, []⟩)
def RdS.done (s : RdS) : Nat := if s.e = 0 then (if s.bs = [] then 0 else 11) else s.e
theorem RdS.u_err {s : RdS} (h : s.e ≠ 0) : s.u = (0, ⟨s.e, []⟩) := by rw [RdS.u, if_neg h]
theorem RdS.u_short {s : RdS} (h : s.e = 0) (hr : rdU s.bs = .short) : s.u = (0, ⟨10, []⟩) := by rw [RdS.u, if_pos h, hr]
theorem RdS.u_form {s : RdS} {rest : List UInt8} (h : s.e = 0) (hr : rdU s.bs = .form rest) : s.u = (0, ⟨11, []⟩) := by rw [RdS.u, if_pos h, hr]
theorem RdS.u_ok {s : RdS} {n : Nat} {rest : List UInt8} (h : s.e = 0) (hr : rdU s.bs = .ok n rest) : s.u = (n, ⟨0, rest⟩) := by rw [RdS.u, if_pos h, hr]
theorem RdS.u_lt (s : RdS) : s.u.1 < 18446744073709551616 := by
  by_cases h : s.e = 0
  · cases hr : rdU s.bs with
    | short => rw [RdS.u_short h hr]; simp
    | form r => rw [RdS.u_form h hr]; simp
    | ok n r => rw [RdS.u_ok h hr]; exact (rdU_ok hr).2
  · rw [RdS.u_err h]; simp
/-- A byte. -/
def RdS.b (s : RdS) : Nat × RdS := if s.e = 0 then (match s.bs with | [] => (0, ⟨10, []⟩) | c :: r => (c.toNat, ⟨0, r⟩)) else (0, ⟨s.e, []⟩)
end Go.Proofs.Ytkeaeahiokgkiaa
