/- Contracts of varint's reader: Done. -/
import Derived.Test.YtdiihaeelcbjbaaGreatDoorMVar
namespace Go.Proofs.YtdiihaeelcbjbaaGreatDoor
open Go.RowKit

theorem Done_err (R : Nat) (e lim : Int) (he : (e == 0) = false) (bs : List UInt8) (w : World) (h : Rd w R e lim bs) :
    Calls Tryz.prog 76 #[.pointer (some ⟨R, 0, none⟩)] w fun x w' => x = .returned (.int .i64 e) ∧ w = w' := by
  obtain ⟨A, L, c, hh, -⟩ := h
  have h0 := blk_cell hh 0
  have h1 := blk_cell hh 1
  simp at h0 h1
  have HH := Lib.hid hh
  clear hh
  by_cases hL : L = 0
  · subst hL
    go_enter Tryz.func76, Tryz.ntmps76
    go_wp2
    go_ret
    exact ⟨rfl, rfl⟩
  · have hLi : (0 : Int) < L := by omega
    have hLn : 0 < L := by omega
    go_enter Tryz.func76, Tryz.ntmps76
    go_wp2_with (go_at_call 92; refine (fail_not R e 11 he _ h0).mono ?_; rintro y w' ⟨⟨v, rfl⟩, rfl⟩)
    go_ret
    exact ⟨rfl, rfl⟩
theorem Done_ok (R : Nat) (lim : Int) (w : World) (h : Rd w R 0 lim []) :
    Calls Tryz.prog 76 #[.pointer (some ⟨R, 0, none⟩)] w fun x w' => x = .returned (.int .i64 0) ∧ w = w' := by
  obtain ⟨A, L, c, hh, rfl, -⟩ := h
  have h0 := blk_cell hh 0
  have h1 := blk_cell hh 1
  simp at h0 h1
  have HH := Lib.hid hh
  clear hh
  go_enter Tryz.func76, Tryz.ntmps76
  go_wp2
  go_ret
  exact ⟨rfl, rfl⟩
theorem Done_left (R : Nat) (lim : Int) (b : UInt8) (bs : List UInt8) (w : World) (h : Rd w R 0 lim (b :: bs)) :
    Calls Tryz.prog 76 #[.pointer (some ⟨R, 0, none⟩)] w fun x w' => x = .returned (.int .i64 11) ∧ w' = w.setCell ⟨R, 0, none⟩ (.int .i64 11) := by
  obtain ⟨A, L, c, hh, hL, -⟩ := h
  have h0 := blk_cell hh 0
  have h1 := blk_cell hh 1
  have hf := blk_frozen hh 0
  simp at h0 h1
  have HH := Lib.hid hh
  have hLn : 0 < L := by rw [hL]; simp
  clear hh hL
  have hLi : (0 : Int) < L := by omega
  go_enter Tryz.func76, Tryz.ntmps76
  go_wp2_with (go_at_call 92; refine (fail_ok R 11 _ h0 hf).mono ?_; rintro y w' ⟨⟨v, rfl⟩, rfl⟩)
  go_ret
  exact ⟨rfl, rfl⟩
end Go.Proofs.YtdiihaeelcbjbaaGreatDoor
