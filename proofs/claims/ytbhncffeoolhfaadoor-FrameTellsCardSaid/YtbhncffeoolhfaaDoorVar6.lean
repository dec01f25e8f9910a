/- Contracts of varint's Reader.Uint (by outcome), Int and Text. -/
import Derived.Test.YtbhncffeoolhfaaDoorVar5
namespace Go.Proofs.YtbhncffeoolhfaaDoor
open Go.RowKit

theorem UintR_ok (w : World) (R : Nat) (lim : Int) (bs : List UInt8) (m : Nat) (rest : List UInt8) (h : Rd w R 0 lim bs) (hr : rdU bs = .ok m rest) :
    Calls Tryd.prog 31 #[.pointer (some ⟨R, 0, none⟩)] w fun e W' => e = .returned (.int .u64 (m : Int)) ∧ Rd W' R 0 lim rest ∧ w.grownBy W' (some R) := by
  refine ((callsIn_wide (n := 3)).1 (UintR_in 3 (by omega) w R lim bs h)).mono ?_
  rintro e W' ⟨hg, ⟨m', rest', rfl, h1, h2⟩ | ⟨_, h1, _⟩ | ⟨_, _, h1, _⟩⟩
  · rw [hr] at h1; injection h1 with h1 h3; subst h1; subst h3
    exact ⟨rfl, h2, hg⟩
  · rw [hr] at h1; cases h1
  · rw [hr] at h1; cases h1
theorem UintR_short (w : World) (R : Nat) (lim : Int) (bs : List UInt8) (h : Rd w R 0 lim bs) (hr : rdU bs = .short) :
    Calls Tryd.prog 31 #[.pointer (some ⟨R, 0, none⟩)] w fun e W' => e = .returned (.int .u64 0) ∧ Rd W' R 10 lim [] ∧ w.grownBy W' (some R) := by
  refine ((callsIn_wide (n := 3)).1 (UintR_in 3 (by omega) w R lim bs h)).mono ?_
  rintro e W' ⟨hg, ⟨m', rest', _, h1, _⟩ | ⟨rfl, h1, h2⟩ | ⟨_, _, h1, _⟩⟩
  · rw [hr] at h1; cases h1
  · exact ⟨rfl, h2, hg⟩
  · rw [hr] at h1; cases h1
theorem UintR_form (w : World) (R : Nat) (lim : Int) (bs rest : List UInt8) (h : Rd w R 0 lim bs) (hr : rdU bs = .form rest) :
    Calls Tryd.prog 31 #[.pointer (some ⟨R, 0, none⟩)] w fun e W' => e = .returned (.int .u64 0) ∧ Rd W' R 11 lim rest ∧ w.grownBy W' (some R) := by
  refine ((callsIn_wide (n := 3)).1 (UintR_in 3 (by omega) w R lim bs h)).mono ?_
  rintro e W' ⟨hg, ⟨m', rest', _, h1, _⟩ | ⟨_, h1, _⟩ | ⟨rest', rfl, h1, h2⟩⟩
  · rw [hr] at h1; cases h1
  · rw [hr] at h1; cases h1
  · rw [hr] at h1; injection h1 with h1; subst h1
    exact ⟨rfl, h2, hg⟩

end Go.Proofs.YtbhncffeoolhfaaDoor
