/- A reader of the program: signed numbers. -/
import Derived.Test.YtfaplmpenlbajaaDoorRdU
import Derived.Test.YtfaplmpenlbajaaDoorVarFold
namespace Go.Proofs.YtfaplmpenlbajaaDoor
open Go.RowKit
theorem IntR_ok (w : World) (R : Nat) (lim : Int) (bs : List UInt8) (m : Nat) (rest : List UInt8) (h : Rd w R 0 lim bs) (hr : rdU bs = .ok m rest) :
    Calls Tryd.prog 39 #[.pointer (some ⟨R, 0, none⟩)] w fun e W' => e = .returned (.int .i64 (unfoldN m)) ∧ Rd W' R 0 lim rest ∧ w.grownBy W' (some R) := by
  have hm := (rdU_ok hr).2
  have HR := Lib.hid hr
  clear hr
  go_enter Tryd.func39, Tryd.ntmps39
  go_wp2_with fail
  refine (UintR_ok w R lim bs m rest h HR.out).mono ?_
  rintro e W1 ⟨rfl, h1, hg⟩
  have H1 := Lib.hid h1
  have HG := Lib.hid hg
  clear h1 hg
  go_wp2_with fail
  refine (unfold_any m hm W1).mono ?_
  rintro e W2 ⟨rfl, rfl⟩
  go_wp2
  go_ret
  exact ⟨rfl, H1.out, HG.out⟩
section
variable {w : World} {R lim : Nat} {s : RdS}
set_option maxRecDepth 100000 in
set_option maxHeartbeats 2000000 in
theorem IntR_q (h : RdQ w R lim s) : Calls Tryd.prog 39 #[.pointer (some ⟨R, 0, none⟩)] w fun x W' => x = .returned (.int .i64 s.i.1) ∧ RdQ W' R lim s.i.2 ∧ w.grownBy W' (some R) := by
  have hm := s.u_lt
  obtain ⟨u, hu⟩ : ∃ u, u = s.u.1 := ⟨_, rfl⟩
  have H := Lib.hid h
  have HU := Lib.hid hu
  rw [← hu] at hm
  have HM := Lib.hid hm
  clear h hu hm
  go_enter Tryd.func39, Tryd.ntmps39
  go_wp2_with fail
  refine (UintR_q H.out).mono ?_
  rintro e W1 ⟨rfl, h1, hg⟩
  rw [← HU.out]
  have H1 := Lib.hid h1
  have HG := Lib.hid hg
  clear h1 hg
  go_wp2_with fail
  refine (unfold_any u HM.out W1).mono ?_
  rintro e W2 ⟨rfl, rfl⟩
  go_wp2
  go_ret
  exact ⟨by rw [RdS.i, HU.out]; rfl, H1.out, HG.out⟩
end
end Go.Proofs.YtfaplmpenlbajaaDoor
