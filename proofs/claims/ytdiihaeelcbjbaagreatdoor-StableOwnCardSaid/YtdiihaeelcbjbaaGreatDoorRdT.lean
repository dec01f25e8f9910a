/- A reader of the program: texts. -/
import Derived.Test.YtdiihaeelcbjbaaGreatDoorMRdE
namespace Go.Proofs.YtdiihaeelcbjbaaGreatDoor
open Go.RowKit
set_option maxRecDepth 100000 in
theorem TextR_short (w : World) (R : Nat) (lim : Int) (bs : List UInt8) (h : Rd w R 0 lim bs) (hr : rdU bs = .short) :
    Calls Tryz.prog 74 #[.pointer (some ⟨R, 0, none⟩)] w fun e W' => e = .returned (.string (str [])) ∧ Rd W' R 10 lim [] ∧ w.grownBy W' (some R) := by
  have HR := Lib.hid hr
  clear hr
  go_enter Tryz.func74, Tryz.ntmps74
  go_wp2_with fail
  refine (UintR_short w R lim bs h HR.out).mono ?_
  rintro e W1 ⟨rfl, h1, hg⟩
  have hc0 : W1.cell? ⟨R, 0, none⟩ = some (.int .i64 10) := by
    obtain ⟨A, L, c, hh, -⟩ := h1
    simpa using blk_cell hh 0
  have H1 := Lib.hid h1
  have HG := Lib.hid hg
  clear h1 hg
  go_wp2_with (go_at_call 93; refine (failed_any R 10 _ hc0).mono ?_; rintro e w' ⟨rfl, rfl⟩)
  go_ret
  exact ⟨rfl, H1.out, HG.out⟩

set_option maxRecDepth 100000 in
theorem TextR_cut (w : World) (R : Nat) (lim : Nat) (bs : List UInt8) (m : Nat) (rest : List UInt8) (h : Rd w R 0 lim bs) (hr : rdU bs = .ok m rest) (hlim : lim ≤ 9223372036854775807) (hml : m ≤ lim) (hlen : rest.length < m) :
    Calls Tryz.prog 74 #[.pointer (some ⟨R, 0, none⟩)] w fun e W' => e = .returned (.string (str [])) ∧ Rd W' R 10 lim rest ∧ w.grownBy W' (some R) := by
  have HR := Lib.hid hr
  clear hr
  go_enter Tryz.func74, Tryz.ntmps74
  go_wp2_with fail
  refine (UintR_ok w R lim bs m rest h HR.out).mono ?_
  rintro e W1 ⟨rfl, h1, hg⟩
  have H1 := Lib.hid h1
  have HG := Lib.hid hg
  obtain ⟨A, L, c, hh, hL, -⟩ := h1
  have hc0 : W1.cell? ⟨R, 0, none⟩ = some (.int .i64 0) := by simpa using blk_cell hh 0
  have hc1 : W1.cell? ⟨R, 1, none⟩ = some (.slice A L c) := by simpa using blk_cell hh 1
  have hc2 : W1.cell? ⟨R, 2, none⟩ = some (.int .i64 (lim : Int)) := by simpa using blk_cell hh 2
  have hf0 := blk_frozen hh 0
  have hLm : (L : Int) < m := by omega
  have hmi : (m : Int) ≤ lim := by omega
  have hli : (lim : Int) ≤ 9223372036854775807 := by omega
  clear hg hh hL
  go_wp2_with (first | (go_at_call 93; refine (failed_any R 0 _ hc0).mono ?_; rintro e w' ⟨rfl, rfl⟩) | (go_at_call 92; refine (fail_ok R 10 _ hc0 hf0).mono ?_; rintro e w' ⟨⟨v, rfl⟩, rfl⟩))
  go_ret
  exact ⟨rfl, H1.out.fail 10, grownBy_trans HG.out (grownBy_set _ _ _ _)⟩

set_option maxRecDepth 100000 in
theorem TextR_ok (w : World) (R : Nat) (lim : Nat) (bs : List UInt8) (m : Nat) (rest : List UInt8) (h : Rd w R 0 lim bs) (hr : rdU bs = .ok m rest) (hlim : lim ≤ 9223372036854775807) (hml : m ≤ lim) (hlen : m ≤ rest.length) :
    Calls Tryz.prog 74 #[.pointer (some ⟨R, 0, none⟩)] w fun e W' => e = .returned (.string (str (rest.take m))) ∧ Rd W' R 0 lim (rest.drop m) ∧ w.grownBy W' (some R) := by
  have HR := Lib.hid hr
  clear hr
  go_enter Tryz.func74, Tryz.ntmps74
  go_wp2_with fail
  refine (UintR_ok w R lim bs m rest h HR.out).mono ?_
  rintro e W1 ⟨rfl, h1, hg⟩
  have H1 := Lib.hid h1
  have HG := Lib.hid hg
  obtain ⟨A, L, c, hh, hL, hLc, hmx, hd⟩ := h1
  have hc0 : W1.cell? ⟨R, 0, none⟩ = some (.int .i64 0) := by simpa using blk_cell hh 0
  have hc1 : W1.cell? ⟨R, 1, none⟩ = some (.slice A L c) := by simpa using blk_cell hh 1
  have hc2 : W1.cell? ⟨R, 2, none⟩ = some (.int .i64 (lim : Int)) := by simpa using blk_cell hh 2
  have hf1 := blk_frozen hh 1
  have hLm : (m : Int) ≤ L := by omega
  have hmL : m ≤ L := by omega
  have hmi : (m : Int) ≤ lim := by omega
  have hli : (lim : Int) ≤ 9223372036854775807 := by omega
  have hci : (L : Int) ≤ c := by omega
  have hLi : (L : Int) ≤ 140737488355328 := by omega
  have hcv := run_conv (P := Tryz.prog) (w := W1) (hd.has.take m) c Tryz.underlying39 Tryz.underlying5 Tryz.underlying9 (n := m) (by simp; omega)
  have HH := Lib.hid hh
  have HL := Lib.hid hL
  clear hg hh hL
  go_wp2_with (first | (go_at_call 93; refine (failed_any R 0 _ hc0).mono ?_; rintro e w' ⟨rfl, rfl⟩))
  · have hg1 := grownBy_set W1 R 1 (Value.slice A (L - m) 0)
    have hLm' : L = m := by omega
    go_ret
    have hnil : rest.drop m = [] := List.drop_eq_nil_of_le (by have := HL.out; omega)
    refine ⟨rfl, ⟨A, L - m, 0, by rw [blk_set HH.out]; rfl, by rw [hnil]; simp; omega, by omega, by omega, by rw [hnil]; exact Data.nil _ _⟩, grownBy_trans HG.out hg1⟩
  · have hg1 := grownBy_set W1 R 1 (Value.slice (Option.map (fun x => x.add m) A) (L - m) (c - m))
    go_ret
    refine ⟨rfl, ⟨_, L - m, c - m, by rw [blk_set HH.out]; rfl, by rw [List.length_drop, HL.out], by omega, by omega, ?_⟩, grownBy_trans HG.out hg1⟩
    intro hne
    have hne' : rest ≠ [] := by rintro rfl; simp at hne
    obtain ⟨b, o, cur, rfl, hb, hcur⟩ := id hd hne'
    have := (hd.cut m).grown HH.out hg1 hne
    simpa [addr_add] using this
section
variable {w : World} {R lim : Nat} {s : RdS}
set_option maxRecDepth 100000 in
set_option maxHeartbeats 2000000 in
/-- A text where its length can't be read. -/
theorem TextR_bad (h : RdQ w R lim s) (hu : s.u.2.e ≠ 0) : Calls Tryz.prog 74 #[.pointer (some ⟨R, 0, none⟩)] w fun x W' => x = .returned (.string (str [])) ∧ RdQ W' R lim ⟨s.u.2.e, []⟩ ∧ w.grownBy W' (some R) := by
  have H := Lib.hid h
  obtain ⟨u, hun⟩ : ∃ u, u = s.u.1 := ⟨_, rfl⟩
  obtain ⟨e, hue⟩ : ∃ e, e = s.u.2.e := ⟨_, rfl⟩
  have HN := Lib.hid hun
  have HE := Lib.hid hue
  rw [← hue] at hu
  have he : (((e : Nat) : Int) != 0) = true := by simpa using hu
  clear h hun hue
  go_enter Tryz.func74, Tryz.ntmps74
  go_wp2_with fail
  refine (UintR_q H.out).mono ?_
  rintro x W1 ⟨rfl, h1, hg⟩
  rw [← HN.out]
  obtain ⟨bs', hr, -, -⟩ := h1
  rw [← HE.out] at hr
  have hc0 : W1.cell? ⟨R, 0, none⟩ = some (.int .i64 (e : Int)) := by
    obtain ⟨A, L, c, hh, -⟩ := hr
    simpa using blk_cell hh 0
  have H1 := Lib.hid hr
  have HG := Lib.hid hg
  clear hr hg
  go_wp2_with (go_at_call 93; refine (failed_any R e _ hc0).mono ?_; rintro x w' ⟨rfl, rfl⟩)
  go_ret
  rw [← HE.out]
  exact ⟨rfl, ⟨bs', H1.out, fun h => absurd h hu, fun _ => rfl⟩, HG.out⟩

set_option maxRecDepth 100000 in
set_option maxHeartbeats 2000000 in
/-- A text that is too long for the reader. -/
theorem TextR_long (bs : List UInt8) (m : Nat) (rest : List UInt8) (h : Rd w R 0 lim bs) (hr : rdU bs = .ok m rest) (hlim : lim ≤ 9223372036854775807) (hml : lim < m) :
    Calls Tryz.prog 74 #[.pointer (some ⟨R, 0, none⟩)] w fun e W' => e = .returned (.string (str [])) ∧ Rd W' R 11 lim rest ∧ w.grownBy W' (some R) := by
  have HR := Lib.hid hr
  have hm64 := (rdU_ok hr).2
  clear hr
  go_enter Tryz.func74, Tryz.ntmps74
  go_wp2_with fail
  refine (UintR_ok w R lim bs m rest h HR.out).mono ?_
  rintro e W1 ⟨rfl, h1, hg⟩
  have H1 := Lib.hid h1
  have HG := Lib.hid hg
  obtain ⟨A, L, c, hh, hL, -⟩ := h1
  have hc0 : W1.cell? ⟨R, 0, none⟩ = some (.int .i64 0) := by simpa using blk_cell hh 0
  have hc2 : W1.cell? ⟨R, 2, none⟩ = some (.int .i64 (lim : Int)) := by simpa using blk_cell hh 2
  have hf0 := blk_frozen hh 0
  have hmi : (lim : Int) < m := by omega
  have hli : (lim : Int) ≤ 9223372036854775807 := by omega
  clear hg hh hL
  go_wp2_with (first | (go_at_call 93; refine (failed_any R 0 _ hc0).mono ?_; rintro e w' ⟨rfl, rfl⟩) | (go_at_call 92; refine (fail_ok R 11 _ hc0 hf0).mono ?_; rintro e w' ⟨⟨v, rfl⟩, rfl⟩))
  go_ret
  exact ⟨rfl, H1.out.fail 11, grownBy_trans HG.out (grownBy_set _ _ _ _)⟩

theorem TextR_q (h : RdQ w R lim s) (hlim : lim ≤ 9223372036854775807) : Calls Tryz.prog 74 #[.pointer (some ⟨R, 0, none⟩)] w fun x W' => x = .returned (.string (str (s.t lim).1)) ∧ RdQ W' R lim (s.t lim).2 ∧ w.grownBy W' (some R) := by
  by_cases hu : s.u.2.e = 0
  · by_cases h0 : s.e = 0
    · obtain ⟨bs', h1, h2, h3⟩ := h
      obtain rfl := h2 h0
      rw [h0] at h1
      cases hr : rdU s.bs with
      | short => rw [RdS.u_short h0 hr] at hu; cases hu
      | form r => rw [RdS.u_form h0 hr] at hu; cases hu
      | ok n r =>
        have eu := RdS.u_ok h0 hr
        by_cases hn : lim < n
        · rw [show s.t lim = ([], ⟨11, []⟩) by rw [RdS.t, eu]; simp [hn]]
          exact (TextR_long s.bs n r h1 hr hlim hn).mono fun _ _ ⟨a, b, c⟩ => ⟨a, ⟨_, b, fun h => absurd h (by decide), fun _ => rfl⟩, c⟩
        · by_cases hl : r.length < n
          · rw [show s.t lim = ([], ⟨10, []⟩) by rw [RdS.t, eu]; simp [hn, hl]]
            exact (TextR_cut w R lim s.bs n r h1 hr hlim (by omega) hl).mono fun _ _ ⟨a, b, c⟩ => ⟨a, ⟨_, b, fun h => absurd h (by decide), fun _ => rfl⟩, c⟩
          · rw [show s.t lim = (r.take n, ⟨0, r.drop n⟩) by rw [RdS.t, eu]; simp [hn, hl]]
            exact (TextR_ok w R lim s.bs n r h1 hr hlim (by omega) (by omega)).mono fun _ _ ⟨a, b, c⟩ => ⟨a, ⟨_, b, fun _ => rfl, fun h => absurd rfl h⟩, c⟩
    · rw [RdS.u_err h0] at hu; exact absurd hu h0
  · rw [show s.t lim = ([], ⟨s.u.2.e, []⟩) by rw [RdS.t, if_neg hu]]
    exact TextR_bad h hu

end
end Go.Proofs.YtdiihaeelcbjbaaGreatDoor
