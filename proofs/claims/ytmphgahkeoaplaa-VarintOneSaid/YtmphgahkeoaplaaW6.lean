/- Contracts of varint's Reader.Uint (by outcome), Int and Text. -/
import Derived.Test.YtmphgahkeoaplaaW5
namespace Go.Proofs.Ytmphgahkeoaplaa
open Go.RowKit

theorem UintR_ok (w : World) (R : Nat) (lim : Int) (bs : List UInt8) (m : Nat) (rest : List UInt8) (h : Rd w R 0 lim bs) (hr : rdU bs = .ok m rest) :
    Calls Try.prog 15 #[.pointer (some ⟨R, 0, none⟩)] w fun e W' => e = .returned (.int .u64 (m : Int)) ∧ Rd W' R 0 lim rest ∧ w.grownBy W' (some R) := by
  refine ((callsIn_wide (n := 3)).1 (UintR_in 3 (by omega) w R lim bs h)).mono ?_
  rintro e W' ⟨hg, ⟨m', rest', rfl, h1, h2⟩ | ⟨_, h1, _⟩ | ⟨_, _, h1, _⟩⟩
  · rw [hr] at h1; injection h1 with h1 h3; subst h1; subst h3
    exact ⟨rfl, h2, hg⟩
  · rw [hr] at h1; cases h1
  · rw [hr] at h1; cases h1
theorem UintR_short (w : World) (R : Nat) (lim : Int) (bs : List UInt8) (h : Rd w R 0 lim bs) (hr : rdU bs = .short) :
    Calls Try.prog 15 #[.pointer (some ⟨R, 0, none⟩)] w fun e W' => e = .returned (.int .u64 0) ∧ Rd W' R 10 lim [] ∧ w.grownBy W' (some R) := by
  refine ((callsIn_wide (n := 3)).1 (UintR_in 3 (by omega) w R lim bs h)).mono ?_
  rintro e W' ⟨hg, ⟨m', rest', _, h1, _⟩ | ⟨rfl, h1, h2⟩ | ⟨_, _, h1, _⟩⟩
  · rw [hr] at h1; cases h1
  · exact ⟨rfl, h2, hg⟩
  · rw [hr] at h1; cases h1
theorem UintR_form (w : World) (R : Nat) (lim : Int) (bs rest : List UInt8) (h : Rd w R 0 lim bs) (hr : rdU bs = .form rest) :
    Calls Try.prog 15 #[.pointer (some ⟨R, 0, none⟩)] w fun e W' => e = .returned (.int .u64 0) ∧ Rd W' R 11 lim rest ∧ w.grownBy W' (some R) := by
  refine ((callsIn_wide (n := 3)).1 (UintR_in 3 (by omega) w R lim bs h)).mono ?_
  rintro e W' ⟨hg, ⟨m', rest', _, h1, _⟩ | ⟨_, h1, _⟩ | ⟨rest', rfl, h1, h2⟩⟩
  · rw [hr] at h1; cases h1
  · rw [hr] at h1; cases h1
  · rw [hr] at h1; injection h1 with h1; subst h1
    exact ⟨rfl, h2, hg⟩

theorem IntR_ok (w : World) (R : Nat) (lim : Int) (bs : List UInt8) (m : Nat) (rest : List UInt8) (h : Rd w R 0 lim bs) (hr : rdU bs = .ok m rest) :
    Calls Try.prog 16 #[.pointer (some ⟨R, 0, none⟩)] w fun e W' => e = .returned (.int .i64 (unfoldN m)) ∧ Rd W' R 0 lim rest ∧ w.grownBy W' (some R) := by
  have hm := (rdU_ok hr).2
  have HR := Lib.hid hr
  clear hr
  go_enter Try.func16, Try.ntmps16
  go_wp2_with fail
  refine (UintR_ok w R lim bs m rest h HR.out).mono ?_
  rintro e W1 ⟨rfl, h1, hg⟩
  have H1 := Lib.hid h1
  have HG := Lib.hid hg
  clear h1 hg
  go_wp2_with fail
  refine (unfold_any m hm W1).mono ?_
  rintro e W2 ⟨rfl, rfl⟩
  go_wp2
  go_ret
  exact ⟨rfl, H1.out, HG.out⟩

theorem TextR_short (w : World) (R : Nat) (lim : Int) (bs : List UInt8) (h : Rd w R 0 lim bs) (hr : rdU bs = .short) :
    Calls Try.prog 17 #[.pointer (some ⟨R, 0, none⟩)] w fun e W' => e = .returned (.string (str [])) ∧ Rd W' R 10 lim [] ∧ w.grownBy W' (some R) := by
  have HR := Lib.hid hr
  clear hr
  go_enter Try.func17, Try.ntmps17
  go_wp2_with fail
  refine (UintR_short w R lim bs h HR.out).mono ?_
  rintro e W1 ⟨rfl, h1, hg⟩
  have hc0 : W1.cell? ⟨R, 0, none⟩ = some (.int .i64 10) := by
    obtain ⟨A, L, c, hh, -⟩ := h1
    simpa using blk_cell hh 0
  have H1 := Lib.hid h1
  have HG := Lib.hid hg
  clear h1 hg
  go_wp2_with (go_at_call 23; refine (failed_any R 10 _ hc0).mono ?_; rintro e w' ⟨rfl, rfl⟩)
  go_ret
  exact ⟨rfl, H1.out, HG.out⟩

theorem TextR_cut (w : World) (R : Nat) (lim : Nat) (bs : List UInt8) (m : Nat) (rest : List UInt8) (h : Rd w R 0 lim bs) (hr : rdU bs = .ok m rest) (hlim : lim ≤ 1000000) (hml : m ≤ lim) (hlen : rest.length < m) :
    Calls Try.prog 17 #[.pointer (some ⟨R, 0, none⟩)] w fun e W' => e = .returned (.string (str [])) ∧ Rd W' R 10 lim rest ∧ w.grownBy W' (some R) := by
  have HR := Lib.hid hr
  clear hr
  go_enter Try.func17, Try.ntmps17
  go_wp2_with fail
  refine (UintR_ok w R lim bs m rest h HR.out).mono ?_
  rintro e W1 ⟨rfl, h1, hg⟩
  have H1 := Lib.hid h1
  have HG := Lib.hid hg
  obtain ⟨A, L, c, hh, hL, -⟩ := h1
  have hc0 : W1.cell? ⟨R, 0, none⟩ = some (.int .i64 0) := by simpa using blk_cell hh 0
  have hc1 : W1.cell? ⟨R, 1, none⟩ = some (.slice A L c) := by simpa using blk_cell hh 1
  have hc2 : W1.cell? ⟨R, 2, none⟩ = some (.int .i64 (lim : Int)) := by simpa using blk_cell hh 2
  have hf0 := blk_frozen hh 0
  have hLm : (L : Int) < m := by omega
  have hmi : (m : Int) ≤ lim := by omega
  have hli : (lim : Int) ≤ 1000000 := by omega
  clear hg hh hL
  go_wp2_with (first | (go_at_call 23; refine (failed_any R 0 _ hc0).mono ?_; rintro e w' ⟨rfl, rfl⟩) | (go_at_call 24; refine (fail_ok R 10 _ hc0 hf0).mono ?_; rintro e w' ⟨⟨v, rfl⟩, rfl⟩))
  go_ret
  exact ⟨rfl, H1.out.fail 10, grownBy_trans HG.out (grownBy_set _ _ _ _)⟩

theorem TextR_ok (w : World) (R : Nat) (lim : Nat) (bs : List UInt8) (m : Nat) (rest : List UInt8) (h : Rd w R 0 lim bs) (hr : rdU bs = .ok m rest) (hlim : lim ≤ 1000000) (hml : m ≤ lim) (hlen : m ≤ rest.length) :
    Calls Try.prog 17 #[.pointer (some ⟨R, 0, none⟩)] w fun e W' => e = .returned (.string (str (rest.take m))) ∧ Rd W' R 0 lim (rest.drop m) ∧ w.grownBy W' (some R) := by
  have HR := Lib.hid hr
  clear hr
  go_enter Try.func17, Try.ntmps17
  go_wp2_with fail
  refine (UintR_ok w R lim bs m rest h HR.out).mono ?_
  rintro e W1 ⟨rfl, h1, hg⟩
  have H1 := Lib.hid h1
  have HG := Lib.hid hg
  obtain ⟨A, L, c, hh, hL, hLc, hmx, hd⟩ := h1
  have hc0 : W1.cell? ⟨R, 0, none⟩ = some (.int .i64 0) := by simpa using blk_cell hh 0
  have hc1 : W1.cell? ⟨R, 1, none⟩ = some (.slice A L c) := by simpa using blk_cell hh 1
  have hc2 : W1.cell? ⟨R, 2, none⟩ = some (.int .i64 (lim : Int)) := by simpa using blk_cell hh 2
  have hf1 := blk_frozen hh 1
  have hLm : (m : Int) ≤ L := by omega
  have hmL : m ≤ L := by omega
  have hmi : (m : Int) ≤ lim := by omega
  have hli : (lim : Int) ≤ 1000000 := by omega
  have hci : (L : Int) ≤ c := by omega
  have hLi : (L : Int) ≤ 140737488355328 := by omega
  have hcv := run_conv (P := Try.prog) (w := W1) (hd.has.take m) c Try.underlying22 Try.underlying5 Try.underlying9 (n := m) (by simp; omega)
  have HH := Lib.hid hh
  have HL := Lib.hid hL
  clear hg hh hL
  go_wp2_with (first | (go_at_call 23; refine (failed_any R 0 _ hc0).mono ?_; rintro e w' ⟨rfl, rfl⟩))
  · have hg1 := grownBy_set W1 R 1 (Value.slice A (L - m) 0)
    have hLm' : L = m := by omega
    go_ret
    have hnil : rest.drop m = [] := List.drop_eq_nil_of_le (by have := HL.out; omega)
    refine ⟨rfl, ⟨A, L - m, 0, by rw [blk_set HH.out]; rfl, by rw [hnil]; simp; omega, by omega, by omega, by rw [hnil]; exact Data.nil _ _⟩, grownBy_trans HG.out hg1⟩
  · have hg1 := grownBy_set W1 R 1 (Value.slice (Option.map (fun x => x.add m) A) (L - m) (c - m))
    go_ret
    refine ⟨rfl, ⟨_, L - m, c - m, by rw [blk_set HH.out]; rfl, by rw [List.length_drop, HL.out], by omega, by omega, ?_⟩, grownBy_trans HG.out hg1⟩
    intro hne
    have hne' : rest ≠ [] := by rintro rfl; simp at hne
    obtain ⟨b, o, cur, rfl, hb, hcur⟩ := id hd hne'
    have := (hd.cut m).grown HH.out hg1 hne
    simpa [addr_add] using this
end Go.Proofs.Ytmphgahkeoaplaa
