/- An application as it lies (a block with a state, a table and a count): New, all, Count. Of: the application with given bytes. An application's bytes: the last statement, whatever its order of evaluation. An application's bytes. Do of an application: the statements that call the table and the state, whatever their order of evaluation. Do: a command on an application. Do: a command on an application, the walk. The landed package app keeps what the law's walk wants of it. -/
import Derived.Test.YthmmbopibpdpiaaGreatDoorAqK
import Derived.Test.YthmmbopibpdpiaaGreatDoorMAx
import Derived.Deep.QuietTactic
import Derived.Handy
import Derived.Test.YthmmbopibpdpiaaGreatDoorMStep
-- AqA
namespace Go.Proofs.YthmmbopibpdpiaaGreatDoor
open Go.RowKit Go.Maps

structure AppQ (F : Nat → Prop) (w : World) (R : Nat) (a : AM) : Prop where
  ex : ∃ Rk Rs Fb, w.heap[R]? = some (.cells #[.pointer (some ⟨Rk, 0, none⟩), .pointer (some ⟨Rs, 0, none⟩), .int .u64 (a.n : Int)] 53 (0, 0)) ∧ BothA Fb w Rk a.ps Rs a.ss ∧ ¬ Fb R ∧ ∀ k, F k ↔ (Fb k ∨ k = R)
  n : a.n < 18446744073709551616
section
variable {F G : Nat → Prop} {w w' : World} {R : Nat} {a : AM}
theorem AppQ.keep (h : AppQ F w R a) (ho : Only G w w') (hd : ∀ k, F k → ¬ G k) : AppQ F w' R a := by
  obtain ⟨Rk, Rs, Fb, h1, h2, h3, h4⟩ := h.ex
  exact ⟨⟨Rk, Rs, Fb, (ho.block R (Array.getElem?_eq_some_iff.1 h1).1 (hd R ((h4 R).2 (.inr rfl)))).trans h1, h2.keep ho (fun k hk => hd k ((h4 k).2 (.inl hk))), h3, h4⟩, h.n⟩
theorem AppQ.lt (h : AppQ F w R a) : ∀ k, F k → k < w.heap.size := by
  obtain ⟨Rk, Rs, Fb, h1, h2, h3, h4⟩ := h.ex
  intro k hk
  rcases (h4 k).1 hk with e | rfl
  · exact h2.lt k e
  · exact (Array.getElem?_eq_some_iff.1 h1).1
/-- A block made behind a state and a table. -/
theorem AppQ.made {W : World} {Fb : Nat → Prop} {Rk Rs n : Nat} {ps : List PV} {ss : List SE} (h : BothA Fb W Rk ps Rs ss) (hn : n < 18446744073709551616) : AppQ (fun k => Fb k ∨ k = W.heap.size) (W.alloc (.cells #[.pointer (some ⟨Rk, 0, none⟩), .pointer (some ⟨Rs, 0, none⟩), .int .u64 (n : Int)] 53)) W.heap.size ⟨ps, ss, n⟩ :=
  ⟨⟨Rk, Rs, Fb, World.alloc_heap_new W _, h.below ((Below.refl _ W).alloc (Nat.le_refl _) _), fun hf => Nat.lt_irrefl _ (h.lt _ hf), fun _ => Iff.rfl⟩, hn⟩
end
set_option maxHeartbeats 4000000 in
theorem anew_any (w : World) : Calls Tryz.prog 7 #[] w fun e W' => ∃ F R, e = .returned (.pointer (some ⟨R, 0, none⟩)) ∧ AppQ F W' R ⟨[], [], 0⟩ ∧ (∀ k, F k → w.heap.size ≤ k) ∧ Below w.heap.size w W' := by
  have HK := Lib.hid (plK_new w)
  go_enter Tryz.func7, Tryz.ntmps7
  go_wp2_with fail
  refine HK.out.mono ?_
  rintro e W1 ⟨Fk, Rk, rfl, hk, hkn, hb1⟩
  have HS := Lib.hid (plS_new W1)
  have H1 := Lib.hid (And.intro hk (And.intro hkn hb1))
  clear hk hkn hb1 HK
  go_wp2_with fail
  refine HS.out.mono ?_
  rintro e W2 ⟨Fs, Rs, rfl, hs, hsn, hb2⟩
  have H2 := Lib.hid (And.intro hs (And.intro hsn hb2))
  clear hs hsn hb2 HS
  go_wp2
  go_ret
  have hBo := BothA.of H1.out.1 H2.out.2.2 H2.out.1 H2.out.2.1
  have hz := H1.out.2.2.size
  have hz2 := H2.out.2.2.size
  refine ⟨_, _, rfl, AppQ.made hBo (n := 0) (by decide), fun k hk => ?_, (H1.out.2.2.trans (Below.mono H2.out.2.2 hz)).alloc (by omega) _⟩
  rcases hk with (e | e) | e
  · exact H1.out.2.1 k e
  · have := H2.out.2.1 k e; omega
  · omega
set_option maxRecDepth 100000 in
set_option maxHeartbeats 4000000 in
/-- What all tells of an application. -/
theorem aall_any {w : World} {R Rk Rs n : Nat} (h1 : w.heap[R]? = some (.cells #[.pointer (some ⟨Rk, 0, none⟩), .pointer (some ⟨Rs, 0, none⟩), .int .u64 (n : Int)] 53 (0, 0))) : Calls Tryz.prog 15 #[.pointer (some ⟨R, 0, none⟩)] w fun e W' => e = .returned (.agg #[.pointer (some ⟨Rk, 0, none⟩), .pointer (some ⟨Rs, 0, none⟩), .int .u64 (n : Int)]) ∧ Below w.heap.size w W' := by
  obtain ⟨W0, hW0⟩ : ∃ W0, W0 = w.alloc (Obj.cells #[.pointer none, .pointer none, .int .u64 0] 51) := ⟨_, rfl⟩
  obtain ⟨hb0, k0, s0⟩ := box_new hW0
  have h2 := (hb0.block R (Array.getElem?_eq_some_iff.1 h1).1).trans h1
  have c0 : W0.cell? ⟨R, 0, none⟩ = some (.pointer (some ⟨Rk, 0, none⟩)) := by simpa using blk_cell h2 0
  have c1 : W0.cell? ⟨R, 1, none⟩ = some (.pointer (some ⟨Rs, 0, none⟩)) := by simpa using blk_cell h2 1
  have c2 : W0.cell? ⟨R, 2, none⟩ = some (.int .u64 (n : Int)) := by simpa using blk_cell h2 2
  obtain ⟨g, hg⟩ : ∃ g, g = w.heap.size := ⟨_, rfl⟩
  rw [← hg] at k0
  have y0 : W0.cell? ⟨g, 0, none⟩ = some (.pointer none) := by simpa using blk_cell k0 0
  have y1 : W0.cell? ⟨g, 1, none⟩ = some (.pointer none) := by simpa using blk_cell k0 1
  have y2 : W0.cell? ⟨g, 2, none⟩ = some (.int .u64 0) := by simpa using blk_cell k0 2
  have u0 := blk_frozen k0 0
  have u1 := blk_frozen k0 1
  have u2 := blk_frozen k0 2
  have HB := Lib.hid (And.intro hb0 (And.intro k0 hg))
  clear h1 h2 hb0 k0 s0
  go_enter Tryz.func15, Tryz.ntmps15
  go_upto_region 1 with (fail)
  rw [← hW0, ← hg]
  clear hW0 hg
  go_wp2
  obtain ⟨W3, hW3⟩ : ∃ W3, W3 = ((W0.setCell ⟨g, 0, none⟩ (.pointer (some ⟨Rk, 0, none⟩))).setCell ⟨g, 1, none⟩ (.pointer (some ⟨Rs, 0, none⟩))).setCell ⟨g, 2, none⟩ (.int .u64 (n : Int)) := ⟨_, rfl⟩
  rw [← hW3]
  have k3 : W3.heap[g]? = some (.cells #[.pointer (some ⟨Rk, 0, none⟩), .pointer (some ⟨Rs, 0, none⟩), .int .u64 (n : Int)] 51 (0, 0)) := by rw [hW3]; exact blk_set (blk_set (blk_set HB.out.2.1 0 _) 1 _) 2 _
  have f0 : W3.cell? ⟨g, 0, none⟩ = some (.pointer (some ⟨Rk, 0, none⟩)) := by simpa using blk_cell k3 0
  have f1 : W3.cell? ⟨g, 1, none⟩ = some (.pointer (some ⟨Rs, 0, none⟩)) := by simpa using blk_cell k3 1
  have f2 : W3.cell? ⟨g, 2, none⟩ = some (.int .u64 (n : Int)) := by simpa using blk_cell k3 2
  have hgs : w.heap.size ≤ g := by rw [HB.out.2.2]; exact Nat.le_refl _
  have fb : Below w.heap.size w W3 := by rw [hW3]; exact ((HB.out.1.setCell (p := ⟨g, 0, none⟩) hgs _).setCell (p := ⟨g, 1, none⟩) hgs _).setCell (p := ⟨g, 2, none⟩) hgs _
  exact bodyPost_ret (v := .agg #[.pointer (some ⟨Rk, 0, none⟩), .pointer (some ⟨Rs, 0, none⟩), .int .u64 (n : Int)]) (by simp [results, Tryz.results15, go_sem, f0, f1, f2]) rfl ⟨rfl, fb⟩
theorem run_fdN (w : World) (u v x : Value) : (Instr.field 51 (.agg #[u, v, x]) 2).run Tryz.prog w = .ok x w := by
  first
    | (simp [go_sem, Instr.field]; done)
    | (simp [Instr.field, go_sem]; rfl)
set_option maxRecDepth 100000 in
set_option maxHeartbeats 4000000 in
theorem acount_any {F : Nat → Prop} {w : World} {R : Nat} {a : AM} (h : AppQ F w R a) : Calls Tryz.prog 9 #[.pointer (some ⟨R, 0, none⟩)] w fun e W' => e = .returned (.int .u64 (a.n : Int)) ∧ Below w.heap.size w W' := by
  obtain ⟨Rk, Rs, Fb, h1, h2, h3, h4⟩ := h.ex
  have HA := Lib.hid (aall_any h1)
  clear h1 h2 h3 h4 h
  go_enter Tryz.func9, Tryz.ntmps9
  go_wp2_with fail
  refine HA.out.mono ?_
  rintro e W1 ⟨rfl, b1⟩
  have H1 := Lib.hid b1
  have hf := run_fdN W1 (.pointer (some ⟨Rk, 0, none⟩)) (.pointer (some ⟨Rs, 0, none⟩)) (.int .u64 (a.n : Int))
  clear b1
  go_wp2
  go_ret
  exact ⟨rfl, H1.out⟩
end Go.Proofs.YthmmbopibpdpiaaGreatDoor

-- AqB
namespace Go.Proofs.YthmmbopibpdpiaaGreatDoor
open Go.RowKit Go.Maps

theorem u_len (s : RdS) : s.u.2.bs.length ≤ s.bs.length := by
  by_cases h0 : s.e = 0
  · cases hr : rdU s.bs with
    | short => rw [RdS.u_short h0 hr]; simp
    | form r => rw [RdS.u_form h0 hr]; simp
    | ok n r =>
      rw [RdS.u_ok h0 hr, (rdU_ok hr).1]
      simp
  · rw [RdS.u_err h0]; simp
theorem u_nil {s : RdS} (h : s.u.2.e ≠ 0) : s.u.2.bs = [] := by
  by_cases h0 : s.e = 0
  · cases hr : rdU s.bs with
    | short => rw [RdS.u_short h0 hr]
    | form r => rw [RdS.u_form h0 hr]
    | ok n r => rw [RdS.u_ok h0 hr] at h; exact absurd rfl h
  · rw [RdS.u_err h0]
theorem of_ok {bs rest : List UInt8} {n : Nat} {s1 : RdS} {ps : List PV} {ss : List SE} (hn : n = (RdS.u ⟨0, bs⟩).1) (hs : s1 = (RdS.u ⟨0, bs⟩).2) (h1 : s1.bs = bytesP ps ++ rest) (h2 : rest = bytesSS ss ++ []) : bs = bytesA ⟨ps, ss, n⟩ := by
  have hne : s1.e = 0 := Decidable.byContradiction fun h => by
    have h3 : s1.bs = [] := by rw [hs]; exact u_nil (by rw [← hs]; exact h)
    rw [h3] at h1
    have h4 : 0 < (vb ps.length).length := List.length_pos_iff.2 (vb_ne _)
    have h5 := congrArg List.length h1
    simp only [bytesP, List.length_append, List.length_nil] at h5
    omega
  have hp := (Puts.u ⟨0, bs⟩ (show (uR ⟨0, bs⟩).2.e = 0 by rw [show (uR ⟨0, bs⟩).2 = s1 from hs.symm]; exact hne)).2
  rw [show (uR ⟨0, bs⟩).1 = n from hn.symm, show (uR ⟨0, bs⟩).2 = s1 from hs.symm, h1, h2, List.append_nil] at hp
  unfold bytesA
  rw [List.append_assoc]
  exact hp
set_option maxRecDepth 100000 in
set_option maxHeartbeats 8000000 in
theorem aof_any (A : Option Addr) (L c : Nat) (bs : List UInt8) (w : World) (hL : L = bs.length) (hL3 : L ≤ 3000) (hA : HasA w w.heap.size A bs) : Calls Tryz.prog 5 #[.slice A L c] w fun e W' => ∃ (n : Nat) (a : AM), OfR bs a n ∧ Below w.heap.size w W' ∧
    ((n = 0 ∧ ∃ F S, e = .returned (.tuple #[.pointer (some ⟨S, 0, none⟩), .int .i64 0]) ∧ AppQ F W' S a ∧ ∀ k, F k → w.heap.size ≤ k) ∨ (n ≠ 0 ∧ e = .returned (.tuple #[.pointer none, .int .i64 (n : Int)]))) := by
  obtain ⟨lim, hlim⟩ : ∃ lim : Nat, lim = 9223372036854775807 := ⟨_, rfl⟩
  have HN0 := NewR_q (lim := lim) A L c bs hL (by omega) hA
  rw [show (lim : Int) = 9223372036854775807 by rw [hlim]; rfl] at HN0
  have HN := Lib.hid HN0
  have HLM := Lib.hid (show lim ≤ 9223372036854775807 by omega)
  clear HN0 hlim
  have HL := Lib.hid (And.intro hL hL3)
  clear hL hL3 hA
  go_enter Tryz.func5, Tryz.ntmps5
  go_wp2_with fail
  refine HN.out.mono ?_
  rintro e W1 ⟨R, rfl, r1, hRw, b1⟩
  have HU := Lib.hid (UintR_q r1)
  have hR1 := r1.lt
  have H1 := Lib.hid (And.intro b1 (And.intro hRw hR1))
  obtain ⟨n0, hn0⟩ : ∃ n, n = (RdS.u ⟨0, bs⟩).1 := ⟨_, rfl⟩
  obtain ⟨s1, hs1⟩ : ∃ s, s = (RdS.u ⟨0, bs⟩).2 := ⟨_, rfl⟩
  have hn64 : n0 < 18446744073709551616 := by rw [hn0]; exact RdS.u_lt _
  have hs1l : s1.bs.length ≤ 3000 := by rw [hs1]; have := u_len ⟨0, bs⟩; have := HL.out; have e : (⟨0, bs⟩ : RdS).bs.length = bs.length := rfl; omega
  have hs1e : s1.e = 0 ∨ s1.e = 10 ∨ s1.e = 11 := by rw [hs1]; exact Errs.u ⟨0, bs⟩ (.inl rfl)
  rw [← hn0, ← hs1] at HU
  have HS1 := Lib.hid (And.intro hn0 (And.intro hs1 (And.intro hn64 (And.intro hs1l hs1e))))
  clear r1 hRw b1 hR1 hn0 hs1 hn64 hs1l hs1e HN
  go_wp2_with fail
  refine HU.out.mono ?_
  rintro e W2 ⟨rfl, r2, g2⟩
  have HK := Lib.hid (plK_take lim HLM.out R s1 HS1.out.2.2.2.2 W2 (by have := HS1.out.2.2.2.1; omega) r2)
  have H2 := Lib.hid (And.intro (H1.out.1.grown g2 H1.out.1.size (fun k e => by cases e; exact H1.out.2.1)) (Nat.lt_of_lt_of_le H1.out.2.2 g2.size))
  clear r2 g2 HU
  go_wp2_with fail
  refine HK.out.mono ?_
  rintro e W3 ⟨n, ps, rest, tk, g3, hcase⟩
  have hB3 := H2.out.1.grown g3 H2.out.1.size (fun k e => by cases e; exact H1.out.2.1)
  have TK := Lib.hid tk
  have H3 := Lib.hid (And.intro hB3 (And.intro g3 (Nat.lt_of_lt_of_le H2.out.2 g3.size)))
  clear tk g3 hB3 HK
  rcases hcase with ⟨hn, Fk, S1, rfl, pk, fk, r3⟩ | ⟨hn, rfl⟩
  · subst hn
    have PK := Lib.hid (And.intro pk fk)
    obtain ⟨_, hlp, hb1⟩ := TK.out.ok rfl
    have hrl : rest.length ≤ 3000 := by have := congrArg List.length hb1; rw [List.length_append] at this; have := HS1.out.2.2.2.1; omega
    have HSs := Lib.hid (plS_take lim HLM.out R ⟨0, rest⟩ (.inl rfl) W3 (by show rest.length ≤ 20000; omega) r3)
    have HP1 := Lib.hid (And.intro (hlp (by have := HS1.out.2.2.2.1; omega)) hb1)
    clear pk fk r3 hlp hb1 hrl TK
    go_wp2_with fail
    refine HSs.out.mono ?_
    rintro e W4 ⟨n, ss, rest2, ts, g4, hcase⟩
    have TS := Lib.hid ts
    have H4 := Lib.hid (And.intro (H3.out.1.grown g4 H3.out.1.size (fun k e => by cases e; exact H1.out.2.1)) (And.intro g4 (Nat.lt_of_lt_of_le H3.out.2.2 g4.size)))
    clear ts g4 HSs
    rcases hcase with ⟨hn, Fs, S2, rfl, psq, fs, r4⟩ | ⟨hn, rfl⟩
    · subst hn
      have PS := Lib.hid (And.intro psq fs)
      have HD := Lib.hid (DoneR_q r4)
      obtain ⟨hlb, hb2⟩ := TS.out.ok rfl
      have HP2 := Lib.hid (And.intro hlb hb2)
      clear psq fs r4 hlb hb2 TS
      obtain ⟨dn, hdn⟩ : ∃ d, d = (RdS.done ⟨0, rest2⟩) := ⟨_, rfl⟩
      rw [← hdn] at HD
      have HDN := Lib.hid hdn
      clear hdn
      go_wp2_with fail
      refine HD.out.mono ?_
      rintro e W5 ⟨rfl, g5⟩
      have hB5 := H4.out.1.grown g5 H4.out.1.size (fun k e => by cases e; exact H1.out.2.1)
      by_cases hr : rest2 = []
      · subst hr
        obtain rfl : dn = 0 := by rw [HDN.out]; rfl
        have hkR : ∀ k, Fk k → ¬ k = R := fun k hk e => by have := PK.out.2 k hk; have := H2.out.2; omega
        have hsR : ∀ k, Fs k → ¬ k = R := fun k hk e => by have := PS.out.2 k hk; have := H3.out.2.2; omega
        have k4 := plK_keep PK.out.1 (Only.of_grown (F := fun k => k = R) H4.out.2.1 (fun k e => by cases e; rfl)) hkR
        have k5 := plK_keep k4 (Only.of_grown (F := fun k => k = R) g5 (fun k e => by cases e; rfl)) hkR
        have s5 := plS_keep PS.out.1 (Only.of_grown (F := fun k => k = R) g5 (fun k e => by cases e; rfl)) hsR
        have hbo := BothA.mk2 k5 s5 (fun k hk hf => by have := plK_lt PK.out.1 k hk; have := PS.out.2 k hf; omega)
        have hma := AppQ.made hbo HS1.out.2.2.1
        have HF := Lib.hid (And.intro hma (And.intro hB5 hB5.size))
        clear hkR hsR k4 k5 s5 hbo hma hB5 g5
        go_wp2
        go_ret2
        refine ⟨0, _, ⟨fun _ => ⟨of_ok HS1.out.1 HS1.out.2.1 HP1.out.2 HP2.out.2, HP1.out.1, HP2.out.1⟩, fun h => absurd rfl h⟩, HF.out.2.1.alloc HF.out.2.2 _, .inl ⟨rfl, _, _, rfl, HF.out.1, fun k hk => ?_⟩⟩
        rcases hk with (e | e) | e
        · have := PK.out.2 k e; have := H2.out.1.size; omega
        · have := PS.out.2 k e; have := H3.out.1.size; omega
        · have := HF.out.2.2; omega
      · obtain rfl : dn = 11 := by rw [HDN.out]; simp [RdS.done, hr]
        have HF := Lib.hid hB5
        clear hB5 g5 hr
        go_wp2
        go_ret2
        exact ⟨11, ⟨[], [], 0⟩, ⟨fun h => absurd h (by decide), fun _ => .inr rfl⟩, HF.out, .inr ⟨by decide, rfl⟩⟩
    · have hno := TS.out.no hn
      clear TS
      have hne : ¬ (n : Int) = 0 := by omega
      have hneb : ((n : Int) == 0) = false := by simpa using hne
      have hnb : ((n : Int) != 0) = true := by simp; omega
      have HO := Lib.hid (And.intro hn hno)
      clear hn hno
      go_wp2
      go_ret2
      exact ⟨n, ⟨[], [], 0⟩, ⟨fun h => absurd h HO.out.1, fun _ => HO.out.2⟩, H4.out.1, .inr ⟨HO.out.1, rfl⟩⟩
  · have hno := TK.out.no hn
    clear TK
    have hne : ¬ (n : Int) = 0 := by omega
    have hneb : ((n : Int) == 0) = false := by simpa using hne
    have hnb : ((n : Int) != 0) = true := by simp; omega
    have HO := Lib.hid (And.intro hn hno)
    clear hn hno
    go_wp2
    go_ret2
    exact ⟨n, ⟨[], [], 0⟩, ⟨fun h => absurd h HO.out.1, fun _ => HO.out.2⟩, H3.out.1, .inr ⟨HO.out.1, rfl⟩⟩
end Go.Proofs.YthmmbopibpdpiaaGreatDoor

-- AqCr
namespace Go.Proofs.YthmmbopibpdpiaaGreatDoor
open Go.RowKit

theorem run_ldK1 (w : World) (p : Addr) (v : Value) (h : w.cell? p = some v) : (Instr.loadAt 43 (.pointer (some p))).run Tryz.prog w = .ok v w := by
  simp [go_sem, h]
theorem run_ldS1 (w : World) (p : Addr) (v : Value) (h : w.cell? p = some v) : (Instr.loadAt 46 (.pointer (some p))).run Tryz.prog w = .ok v w := by
  simp [go_sem, h]
theorem run_fdC0 (w : World) (g : Nat) : (Instr.fieldAt 51 (.pointer (some ⟨g, 0, none⟩)) 0).run Tryz.prog w = .ok (.pointer (some ⟨g, 0, none⟩)) w := by
  first
    | kernel_rfl
    | (simp [go_sem, Instr.fieldAt]; done)
theorem run_fdC1 (w : World) (g : Nat) : (Instr.fieldAt 51 (.pointer (some ⟨g, 0, none⟩)) 1).run Tryz.prog w = .ok (.pointer (some ⟨g, 1, none⟩)) w := by
  first
    | kernel_rfl
    | (simp [go_sem, Instr.fieldAt]; done)
/-- A row of bytes that came behind B. -/
def OwnB (B : Nat) (w : World) (v : Value) (X : List UInt8) : Prop := ∃ n, w.ownsRow B 5 1 v n (X.map enc)
theorem OwnB.grew {B : Nat} {w w' : World} {v : Value} {X : List UInt8} (h : OwnB B w v X) (hg : Grew w w') : OwnB B w' v X := by
  obtain ⟨n, h⟩ := h
  exact ⟨n, own_below h hg⟩
def oAqY0 (p : String) : Oper := { dst := some 10, op := Op.fieldAddr 51 (Operand.tmp 3) 1, type := 0, pos := p, after := #[], guard := none }
def oAqY1 (p : String) : Oper := { dst := some 11, op := Op.load 46 (Operand.tmp 10), type := 46, pos := p, after := #[{ on := 0, ground := Ground.data }], guard := none }
def oAqY2 (p : String) : Oper := { dst := some 12, op := Op.fieldAddr 51 (Operand.tmp 3) 0, type := 0, pos := p, after := #[], guard := none }
def oAqY3 (p : String) : Oper := { dst := some 13, op := Op.load 43 (Operand.tmp 12), type := 43, pos := p, after := #[{ on := 2, ground := Ground.data }], guard := none }
def oAqY4 (p : String) : Oper := { dst := some 14, op := Op.move (Operand.tmp 4), type := 22, pos := p, after := #[], guard := none }
def oAqY5 (p : String) : Oper := { dst := some 15, op := Op.call { callee := Callee.value (Operand.func 18), args := #[Operand.tmp 13, Operand.tmp 14], argTypes := #[43, 22] }, type := 22, pos := p, after := #[{ on := 3, ground := Ground.data }, { on := 4, ground := Ground.data }], guard := none }
def oAqY6 (p : String) : Oper := { dst := some 16, op := Op.call { callee := Callee.value (Operand.func 17), args := #[Operand.tmp 11, Operand.tmp 15], argTypes := #[46, 22] }, type := 22, pos := p, after := #[{ on := 1, ground := Ground.data }, { on := 5, ground := Ground.data }, { on := 5, ground := Ground.chain }], guard := none }
def oAqY7 (p : String) : Oper := { dst := some 2, op := Op.assign (Operand.tmp 16), type := 22, pos := p, after := #[{ on := 6, ground := Ground.data }, { on := 6, ground := Ground.chain }, { on := 0, ground := Ground.phase }, { on := 1, ground := Ground.phase }, { on := 2, ground := Ground.phase }, { on := 3, ground := Ground.phase }, { on := 4, ground := Ground.phase }, { on := 5, ground := Ground.phase }, { on := 6, ground := Ground.phase }], guard := none }
def opsAqY (p : String) : List Oper := [oAqY0 p, oAqY1 p, oAqY2 p, oAqY3 p, oAqY4 p, oAqY5 p, oAqY6 p, oAqY7 p]
theorem opsAqY_back (p : String) : backwards (opsAqY p) = true := by kernel_rfl
theorem opsAqY_slots (p : String) : slotsOk 17 (opsAqY p) = true := by kernel_rfl
/-- What each slot comes to. -/
def psiAqY (B g Rk Rs : Nat) (A : Option Addr) (L c : Nat) (Y Z : List UInt8) : Nat → Value → World → Prop
  | 0, v, _ => v = .pointer (some ⟨g, 1, none⟩)
  | 1, v, _ => v = .pointer (some ⟨Rs, 0, none⟩)
  | 2, v, _ => v = .pointer (some ⟨g, 0, none⟩)
  | 3, v, _ => v = .pointer (some ⟨Rk, 0, none⟩)
  | 4, v, _ => v = .slice A L c
  | 5, v, w => OwnB B w v Y
  | 6, v, w => OwnB B w v Z
  | 7, v, w => OwnB B w v Z
  | _, _, _ => True
theorem psiAqY_grew (B g Rk Rs : Nat) (A : Option Addr) (L c : Nat) (Y Z : List UInt8) : ∀ i v w w', psiAqY B g Rk Rs A L c Y Z i v w → Grew w w' → psiAqY B g Rk Rs A L c Y Z i v w' := by
  intro i v w w' h hg
  rcases i with _ | _ | _ | _ | _ | _ | _ | _ | i
  · exact h
  · exact h
  · exact h
  · exact h
  · exact h
  · exact h.grew hg
  · exact h.grew hg
  · exact h.grew hg
  · trivial
set_option maxRecDepth 100000 in
set_option maxHeartbeats 4000000 in
theorem abytes_last {p : String} (B g Rk Rs : Nat) (A : Option Addr) (L c : Nat) (Y Z : List UInt8)  (a : Act) (w : World) (Q : Exit → Act → World → Prop) (hN : a.tmps.size = 17) (h3 : a.tmps.getD 3 undef = .pointer (some ⟨g, 0, none⟩)) (h4 : a.tmps.getD 4 undef = .slice A L c) (hB : B ≤ w.heap.size) (hg : g < w.heap.size) (c0 : w.cell? ⟨g, 0, none⟩ = some (.pointer (some ⟨Rk, 0, none⟩))) (c1 : w.cell? ⟨g, 1, none⟩ = some (.pointer (some ⟨Rs, 0, none⟩))) (hK : ∀ w', Grew w w' → Calls Tryz.prog 18 #[.pointer (some ⟨Rk, 0, none⟩), .slice A L c] w' fun e W' => ∃ v m, e = .returned v ∧ W'.ownsRow w'.heap.size 5 1 v m (Y.map enc) ∧ Below w'.heap.size w' W') (hS : ∀ w', Grew w w' → ∀ A' L' c', L' = Y.length → HasA w' w'.heap.size A' Y → Calls Tryz.prog 17 #[.pointer (some ⟨Rs, 0, none⟩), .slice A' L' c'] w' fun e W' => ∃ v m, e = .returned v ∧ W'.ownsRow w'.heap.size 5 1 v m (Z.map enc) ∧ Below w'.heap.size w' W') (hQ : ∀ (v15 : Value), ∀ (v16 : Value), ∀ (v2 : Value), ∀ (w' : World), (fun v w => OwnB B w v Y) v15 w' → (fun v w => OwnB B w v Z) v16 w' → (fun v w => OwnB B w v Z) v2 w' → Grew w w' → Q .normal (puts [(10, .pointer (some ⟨g, 1, none⟩)), (11, .pointer (some ⟨Rs, 0, none⟩)), (12, .pointer (some ⟨g, 0, none⟩)), (13, .pointer (some ⟨Rk, 0, none⟩)), (14, .slice A L c), (15, v15), (16, v16), (2, v2)] a) w')
    : (Code.region 3 (opsAqY p).toArray true).wp Tryz.prog Q a w := by
  refine (wpIn_wide (n := 1)).1 (wpIn_region_vals 17 hN follows (opsAqY_back p) (opsAqY_slots p) Grew Grew.refl Grew.trans (psiAqY B g Rk Rs A L c Y Z) (psiAqY_grew B g Rk Rs A L c Y Z) ?_ ?_)
  · intro i o d ho hd a' w' hF hR hp
    rcases i with _ | _ | _ | _ | _ | _ | _ | _ | i
    · obtain rfl : oAqY0 p = o := Option.some.inj ho
      obtain rfl : 10 = d := Option.some.inj hd
      exact step_fieldF rfl rfl rfl (hF.at 3 rfl h3) (run_fdC1 _ _) ⟨_, rfl, rfl, Grew.refl _⟩
    · obtain rfl : oAqY1 p = o := Option.some.inj ho
      obtain rfl : 11 = d := Option.some.inj hd
      have q0 : a'.tmps.getD 10 undef = .pointer (some ⟨g, 1, none⟩) := hp 0 (oAqY0 p) 10 rfl rfl rfl
      exact step_load rfl rfl rfl q0 (run_ldS1 _ _ _ ((Below.cell (p := ⟨g, 1, none⟩) hR.undraw hg).trans c1)) ⟨_, rfl, rfl, Grew.refl _⟩
    · obtain rfl : oAqY2 p = o := Option.some.inj ho
      obtain rfl : 12 = d := Option.some.inj hd
      exact step_fieldF rfl rfl rfl (hF.at 3 rfl h3) (run_fdC0 _ _) ⟨_, rfl, rfl, Grew.refl _⟩
    · obtain rfl : oAqY3 p = o := Option.some.inj ho
      obtain rfl : 13 = d := Option.some.inj hd
      have q2 : a'.tmps.getD 12 undef = .pointer (some ⟨g, 0, none⟩) := hp 2 (oAqY2 p) 12 rfl rfl rfl
      exact step_load rfl rfl rfl q2 (run_ldK1 _ _ _ ((Below.cell (p := ⟨g, 0, none⟩) hR.undraw hg).trans c0)) ⟨_, rfl, rfl, Grew.refl _⟩
    · obtain rfl : oAqY4 p = o := Option.some.inj ho
      obtain rfl : 14 = d := Option.some.inj hd
      exact step_move rfl rfl rfl (hF.at 4 rfl h4) ⟨_, rfl, rfl, Grew.refl _⟩
    · obtain rfl : oAqY5 p = o := Option.some.inj ho
      obtain rfl : 15 = d := Option.some.inj hd
      have q3 : a'.tmps.getD 13 undef = .pointer (some ⟨Rk, 0, none⟩) := hp 3 (oAqY3 p) 13 rfl rfl rfl
      have q4 : a'.tmps.getD 14 undef = .slice A L c := hp 4 (oAqY4 p) 14 rfl rfl rfl
      refine step_callD rfl rfl rfl (enters_of Tryz.func18 (by kernel_rfl) rfl) (show Array.map a'.eval #[.tmp 13, .tmp 14] = _ from by simp only [List.map_toArray, List.map_cons, List.map_nil, Act.eval, q3, q4]) ((hK w' hR.undraw).mono ?_)
      rintro e w'' ⟨x, m, rfl, ho', hb⟩
      exact ⟨_, rfl, _, rfl, ⟨m, own_base ho' (Nat.le_trans hB hR.undraw.size)⟩, hb⟩
    · obtain rfl : oAqY6 p = o := Option.some.inj ho
      obtain rfl : 16 = d := Option.some.inj hd
      have q1 : a'.tmps.getD 11 undef = .pointer (some ⟨Rs, 0, none⟩) := hp 1 (oAqY1 p) 11 rfl rfl rfl
      have q5 : (fun v w => OwnB B w v Y) (a'.tmps.getD 15 undef) w' := hp 5 (oAqY5 p) 15 rfl rfl rfl
      obtain ⟨m, hm⟩ := q5
      obtain ⟨A2, x2, e2⟩ := own_form hm
      refine step_callD rfl rfl rfl (enters_of Tryz.func17 (by kernel_rfl) rfl) (show Array.map a'.eval #[.tmp 11, .tmp 15] = _ from by simp only [List.map_toArray, List.map_cons, List.map_nil, Act.eval, q1, e2]) ((hS w' (hR.undraw) A2 m x2 (own_len hm) (HasA.of_own (e2 ▸ hm))).mono ?_)
      rintro e w'' ⟨x, k, rfl, ho', hb⟩
      exact ⟨_, rfl, _, rfl, ⟨k, own_base ho' (Nat.le_trans hB hR.undraw.size)⟩, hb⟩
    · obtain rfl : oAqY7 p = o := Option.some.inj ho
      obtain rfl : 2 = d := Option.some.inj hd
      have q6 : (fun v w => OwnB B w v Z) (a'.tmps.getD 16 undef) w' := hp 6 (oAqY6 p) 16 rfl rfl rfl
      exact step_assign rfl rfl rfl rfl ⟨_, rfl, q6, Grew.refl _⟩
    · exact absurd ((Array.getElem?_eq_some_iff.1 ho).1) (by simp [opsAqY])
  · intro a' w' hF hR hp
    have e0 : psiAqY B g Rk Rs A L c Y Z 0 (a'.tmps.getD 10 undef) w' := hp 0 (oAqY0 p) 10 rfl rfl
    have e1 : psiAqY B g Rk Rs A L c Y Z 1 (a'.tmps.getD 11 undef) w' := hp 1 (oAqY1 p) 11 rfl rfl
    have e2 : psiAqY B g Rk Rs A L c Y Z 2 (a'.tmps.getD 12 undef) w' := hp 2 (oAqY2 p) 12 rfl rfl
    have e3 : psiAqY B g Rk Rs A L c Y Z 3 (a'.tmps.getD 13 undef) w' := hp 3 (oAqY3 p) 13 rfl rfl
    have e4 : psiAqY B g Rk Rs A L c Y Z 4 (a'.tmps.getD 14 undef) w' := hp 4 (oAqY4 p) 14 rfl rfl
    have e5 : psiAqY B g Rk Rs A L c Y Z 5 (a'.tmps.getD 15 undef) w' := hp 5 (oAqY5 p) 15 rfl rfl
    have e6 : psiAqY B g Rk Rs A L c Y Z 6 (a'.tmps.getD 16 undef) w' := hp 6 (oAqY6 p) 16 rfl rfl
    have e7 : psiAqY B g Rk Rs A L c Y Z 7 (a'.tmps.getD 2 undef) w' := hp 7 (oAqY7 p) 2 rfl rfl
    rw [hF.puts [(10, .pointer (some ⟨g, 1, none⟩)), (11, .pointer (some ⟨Rs, 0, none⟩)), (12, .pointer (some ⟨g, 0, none⟩)), (13, .pointer (some ⟨Rk, 0, none⟩)), (14, .slice A L c), (15, a'.tmps.getD 15 undef), (16, a'.tmps.getD 16 undef), (2, a'.tmps.getD 2 undef)] ?_ rfl (by rw [hN]; rfl)]
    · exact hQ _ _ _ w' e5 e6 e7 hR.undraw
    · intro x hx
      simp only [List.mem_cons, List.not_mem_nil, or_false] at hx
      rcases hx with rfl | rfl | rfl | rfl | rfl | rfl | rfl | rfl
      · exact e0
      · exact e1
      · exact e2
      · exact e3
      · exact e4
      · exact rfl
      · exact rfl
      · exact rfl
end Go.Proofs.YthmmbopibpdpiaaGreatDoor

-- AqC
namespace Go.Proofs.YthmmbopibpdpiaaGreatDoor
open Go.RowKit Go.Maps

set_option maxRecDepth 100000 in
set_option maxHeartbeats 4000000 in
theorem abytes_any {F : Nat → Prop} {w : World} {R : Nat} {a : AM} (h : AppQ F w R a) (hl : (bytesA a).length ≤ 3000) (hlp : LimP a.ps) (hls : LimB 100000 a.ss) : Calls Tryz.prog 6 #[.pointer (some ⟨R, 0, none⟩)] w fun e W' => ∃ v n, e = .returned v ∧ W'.ownsRow w.heap.size 5 1 v n ((bytesA a).map enc) ∧ Below w.heap.size w W' := by
  obtain ⟨Rk, Rs, Fb, h1, h2, h3, h4⟩ := h.ex
  obtain ⟨ps, ss, n⟩ := a
  simp only at h1 h2 hlp hls
  have hn := h.n
  simp only at hn
  have hl3 : (vb n).length ≤ 3000 ∧ (bytesP ps).length ≤ 3000 ∧ (bytesSS ss).length ≤ 3000 := by
    unfold bytesA at hl
    simp only [List.length_append] at hl
    omega
  have HA := Lib.hid (aall_any h1)
  have HB := Lib.hid (And.intro h1 (And.intro h2 (And.intro hlp (And.intro hls (And.intro hl3 hn)))))
  clear h1 h2 h3 h4 h hlp hls hl3 hl hn
  go_enter Tryz.func6, Tryz.ntmps6
  go_upto_region 2 with (refine HA.out.mono ?_; rintro e W1 ⟨rfl, b1⟩)
  obtain ⟨W2, hW2⟩ : ∃ W2, W2 = W1.alloc (Obj.cells #[.pointer (some ⟨Rk, 0, none⟩), .pointer (some ⟨Rs, 0, none⟩), .int .u64 (n : Int)] 51) := ⟨_, rfl⟩
  rw [← hW2]
  obtain ⟨hb0, k0, s0⟩ := box_new hW2
  obtain ⟨g, hg⟩ : ∃ g, g = W1.heap.size := ⟨_, rfl⟩
  rw [← hg] at k0 ⊢
  have b2 := b1.trans (Below.mono hb0 b1.size)
  have c2 : W2.cell? ⟨g, 2, none⟩ = some (.int .u64 (n : Int)) := by simpa using blk_cell k0 2
  have HU := Lib.hid (Uint_any none [] 0 0 n rfl HB.out.2.2.2.2.2 (by simp) W2 (HasA.nil _ _ _))
  have H2 := Lib.hid (And.intro b2 k0)
  clear b1 hb0 k0 s0 b2 hW2 hg HA
  go_wp2_with fail
  refine HU.out.mono ?_
  rintro e W3 ⟨g1, L1, x1, rfl, o1, b3⟩
  rw [List.nil_append] at o1
  have k3 := (b3.block g (Array.getElem?_eq_some_iff.1 H2.out.2).1).trans H2.out.2
  have b03 := H2.out.1.trans (Below.mono b3 H2.out.1.size)
  have d0 : W3.cell? ⟨g, 0, none⟩ = some (.pointer (some ⟨Rk, 0, none⟩)) := by simpa using blk_cell k3 0
  have d1 : W3.cell? ⟨g, 1, none⟩ = some (.pointer (some ⟨Rs, 0, none⟩)) := by simpa using blk_cell k3 1
  have hL1 := own_len o1
  have hgl : g < W3.heap.size := (Array.getElem?_eq_some_iff.1 k3).1
  have hv : HasA W3 W3.heap.size (some ⟨g1, 0, none⟩) (vb n) := HasA.of_own o1
  have HK := Lib.hid (fun w' (h : Grew W3 w') => ((HB.out.2.1.below (b03.trans (Below.mono h b03.size))).putK (some ⟨g1, 0, none⟩) L1 x1 (vb n) HB.out.2.2.1 (by have := HB.out.2.2.2.2.1; omega) hL1 (by have := HB.out.2.2.2.2.1; omega) (hv.below' h)))
  have HS := Lib.hid (fun w' (h : Grew W3 w') A' L' c' (hL : L' = (vb n ++ bytesP ps).length) hA => ((HB.out.2.1.below (b03.trans (Below.mono h b03.size))).putS A' L' c' (vb n ++ bytesP ps) HB.out.2.2.2.1 (Nat.le_refl _) (by have := HB.out.2.2.2.2.1; omega) hL (by rw [hL, List.length_append]; have := HB.out.2.2.2.2.1; omega) hA))
  have H3 := Lib.hid (And.intro b03 hgl)
  clear o1 b3 b03 k3 hL1 hv hgl HU c2
  go_upto_region 3 with (fail)
  refine abytes_last w.heap.size g Rk Rs (some ⟨g1, 0, none⟩) L1 x1 (vb n ++ bytesP ps) (vb n ++ bytesP ps ++ bytesSS ss) _ W3 _ rfl rfl rfl H3.out.1.size H3.out.2 d0 d1 HK.out HS.out ?_
  intro v15 v16 v2 W4 _ hv16 hv2 hg
  have H4 := Lib.hid (And.intro hv2 (H3.out.1.trans (Below.mono hg H3.out.1.size)))
  clear hv16 hg
  obtain ⟨m, hm⟩ := hv2
  obtain ⟨A2, x2, rfl⟩ := own_form hm
  have HM := Lib.hid hm
  clear hm
  simp only [puts, List.foldl_cons, List.foldl_nil, Act.put, List.setIfInBounds_toArray, List.set_cons_succ, List.set_cons_zero]
  go_wp2
  go_ret
  exact ⟨_, m, rfl, HM.out, H4.out.2⟩
end Go.Proofs.YthmmbopibpdpiaaGreatDoor

-- AqDr
namespace Go.Proofs.YthmmbopibpdpiaaGreatDoor
open Go.RowKit

theorem run_ld32 (w : World) (p : Addr) (v : Value) (h : w.cell? p = some v) : (Instr.loadAt 31 (.pointer (some p))).run Tryz.prog w = .ok v w := by
  simp [go_sem, h]
theorem run_fdA (w : World) (g : Nat) : (Instr.fieldAt 53 (.pointer (some ⟨g, 0, none⟩)) 0).run Tryz.prog w = .ok (.pointer (some ⟨g, 0, none⟩)) w := by
  first
    | kernel_rfl
    | (simp [go_sem, Instr.fieldAt]; done)
theorem run_fdM0 (w : World) (g : Nat) : (Instr.fieldAt 34 (.pointer (some ⟨g, 0, none⟩)) 0).run Tryz.prog w = .ok (.pointer (some ⟨g, 0, none⟩)) w := by
  first
    | kernel_rfl
    | (simp [go_sem, Instr.fieldAt]; done)
theorem run_fdM1 (w : World) (g : Nat) : (Instr.fieldAt 34 (.pointer (some ⟨g, 0, none⟩)) 1).run Tryz.prog w = .ok (.pointer (some ⟨g, 1, none⟩)) w := by
  first
    | kernel_rfl
    | (simp [go_sem, Instr.fieldAt]; done)
theorem run_ldCmd (w : World) (b : Nat) (x : CmdV) (h : ∀ i u, x.cells[i]? = some u → w.cell? ⟨b, i, none⟩ = some u) : (Instr.loadAt 34 (.pointer (some ⟨b, 0, none⟩))).run Tryz.prog w = .ok x.val w := by
  have h0 := h 0 _ rfl
  have h1 := h 1 _ rfl
  have h2 := h 2 _ rfl
  have h3 := h 3 _ rfl
  have h4 := h 4 _ rfl
  have h5 := h 5 _ rfl
  have h6 := h 6 _ rfl
  simp [go_sem, h0, h1, h2, h3, h4, h5, h6, CmdV.val, CmdV.cells]
/-- A reply's block. -/
def RepB (W : World) (q c : Nat) (t : ByteArray) : Prop := W.heap[q]? = some (.cells #[.int .u8 (c : Int), .string t] 36 (0, 0))
theorem RepB.lt {W : World} {q c : Nat} {t : ByteArray} (h : RepB W q c t) : q < W.heap.size := (Array.getElem?_eq_some_iff.1 h).1
theorem RepB.set {W : World} {q c : Nat} {t : ByteArray} (h : RepB W q c t) (d : Nat) (u : ByteArray) : RepB ((W.setCell ⟨q, 0, none⟩ (.int .u8 (d : Int))).setCell ⟨q, 1, none⟩ (.string u)) q d u := blk_set (blk_set h 0 _) 1 _
theorem run_alRep (w : World) : (Instr.alloc 36 true (.tuple #[])).run Tryz.prog w = .ok (.pointer (some ⟨w.heap.size, 0, none⟩)) (w.alloc (.cells #[.int .u8 0, .string ⟨#[]⟩] 36)) := by
  simp [go_sem]
theorem run_ldRep (w : World) (q c : Nat) (t : ByteArray) (h : RepB w q c t) : (Instr.loadAt 36 (.pointer (some ⟨q, 0, none⟩))).run Tryz.prog w = .ok (.agg #[.int .u8 (c : Int), .string t]) w := by
  have c0 : w.cell? ⟨q, 0, none⟩ = some (.int .u8 (c : Int)) := by rw [blk_cell h 0]; rfl
  have c1 : w.cell? ⟨q, 1, none⟩ = some (.string t) := by rw [blk_cell h 1]; rfl
  simp [go_sem, c0, c1]
theorem run_stRep (w : World) (q c : Nat) (t : ByteArray) (h : RepB w q c t) (d : Nat) (u : ByteArray) :
    (Instr.storeAt 36 (.pointer (some ⟨q, 0, none⟩)) (.agg #[.int .u8 (d : Int), .string u])).run Tryz.prog w = .ok () ((w.setCell ⟨q, 0, none⟩ (.int .u8 (d : Int))).setCell ⟨q, 1, none⟩ (.string u)) := by
  have c0 : w.cell? ⟨q, 0, none⟩ = some (.int .u8 (c : Int)) := by rw [blk_cell h 0]; rfl
  have c1 : w.cell? ⟨q, 1, none⟩ = some (.string t) := by rw [blk_cell h 1]; rfl
  have z0 := blk_frozen h 0
  have z1 := blk_frozen h 1
  simp [go_sem, c0, c1, z0, z1]
def oAqU0 (pp : String) : Oper := { dst := some 17, op := Op.move (Operand.tmp 0), type := 24, pos := pp, after := #[], guard := none }
def oAqU1 (pp : String) : Oper := { dst := some 18, op := Op.nilCheck (Operand.tmp 17), type := 0, pos := pp, after := #[{ on := 0, ground := Ground.data }], guard := none }
def oAqU2 (pp : String) : Oper := { dst := some 19, op := Op.fieldAddr 53 (Operand.tmp 18) 0, type := 0, pos := pp, after := #[{ on := 1, ground := Ground.data }], guard := none }
def oAqU3 (pp : String) : Oper := { dst := some 20, op := Op.fieldAddr 51 (Operand.tmp 19) 1, type := 0, pos := pp, after := #[{ on := 2, ground := Ground.data }], guard := none }
def oAqU4 (pp : String) : Oper := { dst := some 21, op := Op.load 46 (Operand.tmp 20), type := 46, pos := pp, after := #[{ on := 3, ground := Ground.data }], guard := none }
def oAqU5 (pp : String) : Oper := { dst := some 22, op := Op.fieldAddr 34 (Operand.tmp 3) 0, type := 0, pos := pp, after := #[], guard := none }
def oAqU6 (pp : String) : Oper := { dst := some 23, op := Op.load 31 (Operand.tmp 22), type := 31, pos := pp, after := #[{ on := 5, ground := Ground.data }], guard := none }
def oAqU7 (pp : String) : Oper := { dst := some 24, op := Op.fieldAddr 34 (Operand.tmp 3) 1, type := 0, pos := pp, after := #[], guard := none }
def oAqU8 (pp : String) : Oper := { dst := some 25, op := Op.load 31 (Operand.tmp 24), type := 31, pos := pp, after := #[{ on := 7, ground := Ground.data }], guard := none }
def oAqU9 (pp : String) : Oper := { dst := some 26, op := Op.call { callee := Callee.value (Operand.func 21), args := #[Operand.tmp 21, Operand.tmp 23, Operand.tmp 25], argTypes := #[46, 31, 31] }, type := 59, pos := pp, after := #[{ on := 4, ground := Ground.data }, { on := 6, ground := Ground.data }, { on := 8, ground := Ground.data }], guard := none }
def oAqU10 (pp : String) : Oper := { dst := some 16, op := Op.move (Operand.tmp 26), type := 59, pos := pp, after := #[{ on := 9, ground := Ground.data }], guard := none }
def oAqU11 (pp : String) : Oper := { dst := some 27, op := Op.extract (Operand.tmp 16) 0, type := 36, pos := pp, after := #[{ on := 10, ground := Ground.data }], guard := none }
def oAqU12 (pp : String) : Oper := { dst := some 28, op := Op.extract (Operand.tmp 16) 1, type := 5, pos := pp, after := #[{ on := 10, ground := Ground.data }, { on := 14, ground := Ground.gcOnly Departure.lateStores }], guard := none }
def oAqU13 (pp : String) : Oper := { dst := some 6, op := Op.alloc 36, type := 0, pos := pp, after := #[], guard := none }
def oAqU14 (pp : String) : Oper := { dst := none, op := Op.store 36 (Operand.tmp 6) (Operand.tmp 27), type := 0, pos := pp, after := #[{ on := 13, ground := Ground.data }, { on := 11, ground := Ground.data }, { on := 9, ground := Ground.chain }, { on := 0, ground := Ground.phase }, { on := 1, ground := Ground.phase }, { on := 2, ground := Ground.phase }, { on := 3, ground := Ground.phase }, { on := 4, ground := Ground.phase }, { on := 5, ground := Ground.phase }, { on := 6, ground := Ground.phase }, { on := 7, ground := Ground.phase }, { on := 8, ground := Ground.phase }, { on := 9, ground := Ground.phase }, { on := 10, ground := Ground.phase }, { on := 11, ground := Ground.phase }, { on := 12, ground := Ground.textOnly Departure.lateStores }, { on := 13, ground := Ground.phase }], guard := none }
def oAqU15 (pp : String) : Oper := { dst := some 7, op := Op.assign (Operand.tmp 28), type := 5, pos := pp, after := #[{ on := 12, ground := Ground.data }, { on := 14, ground := Ground.chain }, { on := 0, ground := Ground.phase }, { on := 1, ground := Ground.phase }, { on := 2, ground := Ground.phase }, { on := 3, ground := Ground.phase }, { on := 4, ground := Ground.phase }, { on := 5, ground := Ground.phase }, { on := 6, ground := Ground.phase }, { on := 7, ground := Ground.phase }, { on := 8, ground := Ground.phase }, { on := 9, ground := Ground.phase }, { on := 10, ground := Ground.phase }, { on := 11, ground := Ground.phase }, { on := 12, ground := Ground.phase }, { on := 13, ground := Ground.phase }, { on := 14, ground := Ground.phase }], guard := none }
def opsAqU (pp : String) : List Oper := [oAqU0 pp, oAqU1 pp, oAqU2 pp, oAqU3 pp, oAqU4 pp, oAqU5 pp, oAqU6 pp, oAqU7 pp, oAqU8 pp, oAqU9 pp, oAqU10 pp, oAqU11 pp, oAqU12 pp, oAqU13 pp, oAqU14 pp, oAqU15 pp]
theorem opsAqU_back (pp : String) : backwards (opsAqU pp) = true := by kernel_rfl
def wsAqU (_R _p _Rs _cl _sq cd _k : Nat) (tx : ByteArray) (W0 : World) (L : Nat → Bool) (u : Value) (w : World) : Prop := Below W0.heap.size W0 w ∧ (L 13 = true → ∃ x, u = .pointer (some ⟨x, 0, none⟩) ∧ W0.heap.size ≤ x ∧ RepB w x (if L 14 = true then cd else 0) (if L 14 = true then tx else ⟨#[]⟩))
theorem wsAqU_same (R p Rs cl sq cd k : Nat) (tx : ByteArray) {W0 : World} {L : Nat → Bool} {i : Nat} {u : Value} {w : World} (k13 : ((13 : Nat) == i) = false) (k14 : ((14 : Nat) == i) = false) (h : wsAqU R p Rs cl sq cd k tx W0 L u w) : wsAqU R p Rs cl sq cd k tx W0 (fun j => L j || j == i) u w := by
  unfold wsAqU at h ⊢
  simp only [beq_noF k13, beq_noF k14]
  exact h
/-- How far it is. -/
structure InvAqU (R p Rs cl sq cd k : Nat) (tx : ByteArray) (W0 : World) (a : Act) (pp : String) (L : Nat → Bool) (a' : Act) (w' : World) : Prop where
  frm : Frm (opsAqU pp) a a'
  f0 : L 0 = true → a'.tmps.getD 17 undef = .pointer (some ⟨R, 0, none⟩)
  f1 : L 1 = true → a'.tmps.getD 18 undef = .pointer (some ⟨R, 0, none⟩)
  f2 : L 2 = true → a'.tmps.getD 19 undef = .pointer (some ⟨R, 0, none⟩)
  f3 : L 3 = true → a'.tmps.getD 20 undef = .pointer (some ⟨R, 1, none⟩)
  f4 : L 4 = true → a'.tmps.getD 21 undef = .pointer (some ⟨Rs, 0, none⟩)
  f5 : L 5 = true → a'.tmps.getD 22 undef = .pointer (some ⟨p, 0, none⟩)
  f6 : L 6 = true → a'.tmps.getD 23 undef = .int .u32 (cl : Int)
  f7 : L 7 = true → a'.tmps.getD 24 undef = .pointer (some ⟨p, 1, none⟩)
  f8 : L 8 = true → a'.tmps.getD 25 undef = .int .u32 (sq : Int)
  f9 : L 9 = true → a'.tmps.getD 26 undef = .tuple #[.agg #[.int .u8 (cd : Int), .string tx], .int .u8 (k : Int)]
  f10 : L 10 = true → a'.tmps.getD 16 undef = .tuple #[.agg #[.int .u8 (cd : Int), .string tx], .int .u8 (k : Int)]
  f11 : L 11 = true → a'.tmps.getD 27 undef = .agg #[.int .u8 (cd : Int), .string tx]
  f12 : L 12 = true → a'.tmps.getD 28 undef = .int .u8 (k : Int)
  f15 : L 15 = true → a'.tmps.getD 7 undef = .int .u8 (k : Int)
  ex : ∃ u : Value, (L 13 = true → a'.tmps.getD 6 undef = u) ∧ wsAqU R p Rs cl sq cd k tx W0 L u w'
set_option maxRecDepth 100000 in
set_option maxHeartbeats 4000000 in
theorem ado_look {pp : String} (R p Rs cl sq cd k : Nat) (tx : ByteArray) (a : Act) (w : World) (Q : Exit → Act → World → Prop) (hN : a.tmps.size = 60) (h0 : a.tmps.getD 0 undef = .pointer (some ⟨R, 0, none⟩)) (h3 : a.tmps.getD 3 undef = .pointer (some ⟨p, 0, none⟩)) (hRl : R < w.heap.size) (hpl : p < w.heap.size) (cR1 : w.cell? ⟨R, 1, none⟩ = some (.pointer (some ⟨Rs, 0, none⟩))) (cp0 : w.cell? ⟨p, 0, none⟩ = some (.int .u32 (cl : Int))) (cp1 : w.cell? ⟨p, 1, none⟩ = some (.int .u32 (sq : Int))) (hC : ∀ w', Grew w w' → Calls Tryz.prog 21 #[.pointer (some ⟨Rs, 0, none⟩), .int .u32 (cl : Int), .int .u32 (sq : Int)] w' fun e W' => e = .returned (.tuple #[.agg #[.int .u8 (cd : Int), .string tx], .int .u8 (k : Int)]) ∧ Below w'.heap.size w' W') (hW0 : wsAqU R p Rs cl sq cd k tx w.drew (fun _ => false) undef w.drew) (hQ : ∀ (u : Value) w', wsAqU R p Rs cl sq cd k tx w.drew (fun _ => true) u w' → Q .normal (puts [(17, .pointer (some ⟨R, 0, none⟩)), (18, .pointer (some ⟨R, 0, none⟩)), (19, .pointer (some ⟨R, 0, none⟩)), (20, .pointer (some ⟨R, 1, none⟩)), (21, .pointer (some ⟨Rs, 0, none⟩)), (22, .pointer (some ⟨p, 0, none⟩)), (23, .int .u32 (cl : Int)), (24, .pointer (some ⟨p, 1, none⟩)), (25, .int .u32 (sq : Int)), (26, .tuple #[.agg #[.int .u8 (cd : Int), .string tx], .int .u8 (k : Int)]), (16, .tuple #[.agg #[.int .u8 (cd : Int), .string tx], .int .u8 (k : Int)]), (27, .agg #[.int .u8 (cd : Int), .string tx]), (28, .int .u8 (k : Int)), (6, u), (7, .int .u8 (k : Int))] a) w')
    : (Code.region 3 (opsAqU pp).toArray true).wp Tryz.prog Q a w := by
  refine (wpIn_wide (n := 1)).1 (wpIn_region_by follows (opsAqU_back pp) (InvAqU R p Rs cl sq cd k tx w.drew a pp) ?_ ?_ ?_)
  · exact ⟨⟨rfl, rfl, fun _ _ => rfl⟩, fun h => (by cases h), fun h => (by cases h), fun h => (by cases h), fun h => (by cases h), fun h => (by cases h), fun h => (by cases h), fun h => (by cases h), fun h => (by cases h), fun h => (by cases h), fun h => (by cases h), fun h => (by cases h), fun h => (by cases h), fun h => (by cases h), fun h => (by cases h), undef, fun h => (by cases h), hW0⟩
  · intro L a' w' i o hv ho hLi hpre hcl
    obtain ⟨hF, f0, f1, f2, f3, f4, f5, f6, f7, f8, f9, f10, f11, f12, f15, u, fu, hW⟩ := hv
    have hsz : a'.tmps.size = 60 := hF.size.trans hN
    have frm' : ∀ (d : Nat) (v : Value), o.dst = some d → Frm (opsAqU pp) a (a'.put (some d) v) := fun d v hd => ⟨size_put.trans hF.size, defers_put.trans hF.defers, fun s hs => by
      have hm : o ∈ opsAqU pp := by simpa using List.mem_of_getElem? (by simpa using ho)
      rw [getD_put_ne (fun e => hs o hm (by rw [hd, e]))]
      exact hF.old s hs⟩
    rcases i with _ | _ | _ | _ | _ | _ | _ | _ | _ | _ | _ | _ | _ | _ | _ | _ | i
    · obtain rfl : oAqU0 pp = o := Option.some.inj ho
      exact step_move rfl rfl rfl (hF.at 0 rfl h0) ⟨frm' 17 _ rfl, fun _ => getD_put_same (by rw [hsz]; omega), fun h => (getD_put_ne (by decide)).trans (f1 (by simpa using h)), fun h => (getD_put_ne (by decide)).trans (f2 (by simpa using h)), fun h => (getD_put_ne (by decide)).trans (f3 (by simpa using h)), fun h => (getD_put_ne (by decide)).trans (f4 (by simpa using h)), fun h => (getD_put_ne (by decide)).trans (f5 (by simpa using h)), fun h => (getD_put_ne (by decide)).trans (f6 (by simpa using h)), fun h => (getD_put_ne (by decide)).trans (f7 (by simpa using h)), fun h => (getD_put_ne (by decide)).trans (f8 (by simpa using h)), fun h => (getD_put_ne (by decide)).trans (f9 (by simpa using h)), fun h => (getD_put_ne (by decide)).trans (f10 (by simpa using h)), fun h => (getD_put_ne (by decide)).trans (f11 (by simpa using h)), fun h => (getD_put_ne (by decide)).trans (f12 (by simpa using h)), fun h => (getD_put_ne (by decide)).trans (f15 (by simpa using h)), u, fun h => (getD_put_ne (by decide)).trans (fu (by simpa using h)), (wsAqU_same _ _ _ _ _ _ _ _  rfl rfl hW)⟩
    · obtain rfl : oAqU1 pp = o := Option.some.inj ho
      have q0 : a'.tmps.getD 17 undef = .pointer (some ⟨R, 0, none⟩) := f0 (edge_ofF (o := oAqU1 pp) hpre 0 rfl)
      exact step_nilCheckF rfl rfl rfl q0 (trivial) ⟨frm' 18 _ rfl, fun h => (getD_put_ne (by decide)).trans (f0 (by simpa using h)), fun _ => getD_put_same (by rw [hsz]; omega), fun h => (getD_put_ne (by decide)).trans (f2 (by simpa using h)), fun h => (getD_put_ne (by decide)).trans (f3 (by simpa using h)), fun h => (getD_put_ne (by decide)).trans (f4 (by simpa using h)), fun h => (getD_put_ne (by decide)).trans (f5 (by simpa using h)), fun h => (getD_put_ne (by decide)).trans (f6 (by simpa using h)), fun h => (getD_put_ne (by decide)).trans (f7 (by simpa using h)), fun h => (getD_put_ne (by decide)).trans (f8 (by simpa using h)), fun h => (getD_put_ne (by decide)).trans (f9 (by simpa using h)), fun h => (getD_put_ne (by decide)).trans (f10 (by simpa using h)), fun h => (getD_put_ne (by decide)).trans (f11 (by simpa using h)), fun h => (getD_put_ne (by decide)).trans (f12 (by simpa using h)), fun h => (getD_put_ne (by decide)).trans (f15 (by simpa using h)), u, fun h => (getD_put_ne (by decide)).trans (fu (by simpa using h)), (wsAqU_same _ _ _ _ _ _ _ _  rfl rfl hW)⟩
    · obtain rfl : oAqU2 pp = o := Option.some.inj ho
      have q1 : a'.tmps.getD 18 undef = .pointer (some ⟨R, 0, none⟩) := f1 (edge_ofF (o := oAqU2 pp) hpre 1 rfl)
      exact step_fieldF rfl rfl rfl q1 (run_fdA _ _) ⟨frm' 19 _ rfl, fun h => (getD_put_ne (by decide)).trans (f0 (by simpa using h)), fun h => (getD_put_ne (by decide)).trans (f1 (by simpa using h)), fun _ => getD_put_same (by rw [hsz]; omega), fun h => (getD_put_ne (by decide)).trans (f3 (by simpa using h)), fun h => (getD_put_ne (by decide)).trans (f4 (by simpa using h)), fun h => (getD_put_ne (by decide)).trans (f5 (by simpa using h)), fun h => (getD_put_ne (by decide)).trans (f6 (by simpa using h)), fun h => (getD_put_ne (by decide)).trans (f7 (by simpa using h)), fun h => (getD_put_ne (by decide)).trans (f8 (by simpa using h)), fun h => (getD_put_ne (by decide)).trans (f9 (by simpa using h)), fun h => (getD_put_ne (by decide)).trans (f10 (by simpa using h)), fun h => (getD_put_ne (by decide)).trans (f11 (by simpa using h)), fun h => (getD_put_ne (by decide)).trans (f12 (by simpa using h)), fun h => (getD_put_ne (by decide)).trans (f15 (by simpa using h)), u, fun h => (getD_put_ne (by decide)).trans (fu (by simpa using h)), (wsAqU_same _ _ _ _ _ _ _ _  rfl rfl hW)⟩
    · obtain rfl : oAqU3 pp = o := Option.some.inj ho
      have q2 : a'.tmps.getD 19 undef = .pointer (some ⟨R, 0, none⟩) := f2 (edge_ofF (o := oAqU3 pp) hpre 2 rfl)
      exact step_fieldF rfl rfl rfl q2 (run_fdC1 _ _) ⟨frm' 20 _ rfl, fun h => (getD_put_ne (by decide)).trans (f0 (by simpa using h)), fun h => (getD_put_ne (by decide)).trans (f1 (by simpa using h)), fun h => (getD_put_ne (by decide)).trans (f2 (by simpa using h)), fun _ => getD_put_same (by rw [hsz]; omega), fun h => (getD_put_ne (by decide)).trans (f4 (by simpa using h)), fun h => (getD_put_ne (by decide)).trans (f5 (by simpa using h)), fun h => (getD_put_ne (by decide)).trans (f6 (by simpa using h)), fun h => (getD_put_ne (by decide)).trans (f7 (by simpa using h)), fun h => (getD_put_ne (by decide)).trans (f8 (by simpa using h)), fun h => (getD_put_ne (by decide)).trans (f9 (by simpa using h)), fun h => (getD_put_ne (by decide)).trans (f10 (by simpa using h)), fun h => (getD_put_ne (by decide)).trans (f11 (by simpa using h)), fun h => (getD_put_ne (by decide)).trans (f12 (by simpa using h)), fun h => (getD_put_ne (by decide)).trans (f15 (by simpa using h)), u, fun h => (getD_put_ne (by decide)).trans (fu (by simpa using h)), (wsAqU_same _ _ _ _ _ _ _ _  rfl rfl hW)⟩
    · obtain rfl : oAqU4 pp = o := Option.some.inj ho
      have q3 : a'.tmps.getD 20 undef = .pointer (some ⟨R, 1, none⟩) := f3 (edge_ofF (o := oAqU4 pp) hpre 3 rfl)
      exact step_load rfl rfl rfl q3 (run_ldS1 _ _ _ ((Below.cell (p := ⟨R, 1, none⟩) hW.1 hRl).trans cR1)) ⟨frm' 21 _ rfl, fun h => (getD_put_ne (by decide)).trans (f0 (by simpa using h)), fun h => (getD_put_ne (by decide)).trans (f1 (by simpa using h)), fun h => (getD_put_ne (by decide)).trans (f2 (by simpa using h)), fun h => (getD_put_ne (by decide)).trans (f3 (by simpa using h)), fun _ => getD_put_same (by rw [hsz]; omega), fun h => (getD_put_ne (by decide)).trans (f5 (by simpa using h)), fun h => (getD_put_ne (by decide)).trans (f6 (by simpa using h)), fun h => (getD_put_ne (by decide)).trans (f7 (by simpa using h)), fun h => (getD_put_ne (by decide)).trans (f8 (by simpa using h)), fun h => (getD_put_ne (by decide)).trans (f9 (by simpa using h)), fun h => (getD_put_ne (by decide)).trans (f10 (by simpa using h)), fun h => (getD_put_ne (by decide)).trans (f11 (by simpa using h)), fun h => (getD_put_ne (by decide)).trans (f12 (by simpa using h)), fun h => (getD_put_ne (by decide)).trans (f15 (by simpa using h)), u, fun h => (getD_put_ne (by decide)).trans (fu (by simpa using h)), (wsAqU_same _ _ _ _ _ _ _ _  rfl rfl hW)⟩
    · obtain rfl : oAqU5 pp = o := Option.some.inj ho
      exact step_fieldF rfl rfl rfl (hF.at 3 rfl h3) (run_fdM0 _ _) ⟨frm' 22 _ rfl, fun h => (getD_put_ne (by decide)).trans (f0 (by simpa using h)), fun h => (getD_put_ne (by decide)).trans (f1 (by simpa using h)), fun h => (getD_put_ne (by decide)).trans (f2 (by simpa using h)), fun h => (getD_put_ne (by decide)).trans (f3 (by simpa using h)), fun h => (getD_put_ne (by decide)).trans (f4 (by simpa using h)), fun _ => getD_put_same (by rw [hsz]; omega), fun h => (getD_put_ne (by decide)).trans (f6 (by simpa using h)), fun h => (getD_put_ne (by decide)).trans (f7 (by simpa using h)), fun h => (getD_put_ne (by decide)).trans (f8 (by simpa using h)), fun h => (getD_put_ne (by decide)).trans (f9 (by simpa using h)), fun h => (getD_put_ne (by decide)).trans (f10 (by simpa using h)), fun h => (getD_put_ne (by decide)).trans (f11 (by simpa using h)), fun h => (getD_put_ne (by decide)).trans (f12 (by simpa using h)), fun h => (getD_put_ne (by decide)).trans (f15 (by simpa using h)), u, fun h => (getD_put_ne (by decide)).trans (fu (by simpa using h)), (wsAqU_same _ _ _ _ _ _ _ _  rfl rfl hW)⟩
    · obtain rfl : oAqU6 pp = o := Option.some.inj ho
      have q5 : a'.tmps.getD 22 undef = .pointer (some ⟨p, 0, none⟩) := f5 (edge_ofF (o := oAqU6 pp) hpre 5 rfl)
      exact step_load rfl rfl rfl q5 (run_ld32 _ _ _ ((Below.cell (p := ⟨p, 0, none⟩) hW.1 hpl).trans cp0)) ⟨frm' 23 _ rfl, fun h => (getD_put_ne (by decide)).trans (f0 (by simpa using h)), fun h => (getD_put_ne (by decide)).trans (f1 (by simpa using h)), fun h => (getD_put_ne (by decide)).trans (f2 (by simpa using h)), fun h => (getD_put_ne (by decide)).trans (f3 (by simpa using h)), fun h => (getD_put_ne (by decide)).trans (f4 (by simpa using h)), fun h => (getD_put_ne (by decide)).trans (f5 (by simpa using h)), fun _ => getD_put_same (by rw [hsz]; omega), fun h => (getD_put_ne (by decide)).trans (f7 (by simpa using h)), fun h => (getD_put_ne (by decide)).trans (f8 (by simpa using h)), fun h => (getD_put_ne (by decide)).trans (f9 (by simpa using h)), fun h => (getD_put_ne (by decide)).trans (f10 (by simpa using h)), fun h => (getD_put_ne (by decide)).trans (f11 (by simpa using h)), fun h => (getD_put_ne (by decide)).trans (f12 (by simpa using h)), fun h => (getD_put_ne (by decide)).trans (f15 (by simpa using h)), u, fun h => (getD_put_ne (by decide)).trans (fu (by simpa using h)), (wsAqU_same _ _ _ _ _ _ _ _  rfl rfl hW)⟩
    · obtain rfl : oAqU7 pp = o := Option.some.inj ho
      exact step_fieldF rfl rfl rfl (hF.at 3 rfl h3) (run_fdM1 _ _) ⟨frm' 24 _ rfl, fun h => (getD_put_ne (by decide)).trans (f0 (by simpa using h)), fun h => (getD_put_ne (by decide)).trans (f1 (by simpa using h)), fun h => (getD_put_ne (by decide)).trans (f2 (by simpa using h)), fun h => (getD_put_ne (by decide)).trans (f3 (by simpa using h)), fun h => (getD_put_ne (by decide)).trans (f4 (by simpa using h)), fun h => (getD_put_ne (by decide)).trans (f5 (by simpa using h)), fun h => (getD_put_ne (by decide)).trans (f6 (by simpa using h)), fun _ => getD_put_same (by rw [hsz]; omega), fun h => (getD_put_ne (by decide)).trans (f8 (by simpa using h)), fun h => (getD_put_ne (by decide)).trans (f9 (by simpa using h)), fun h => (getD_put_ne (by decide)).trans (f10 (by simpa using h)), fun h => (getD_put_ne (by decide)).trans (f11 (by simpa using h)), fun h => (getD_put_ne (by decide)).trans (f12 (by simpa using h)), fun h => (getD_put_ne (by decide)).trans (f15 (by simpa using h)), u, fun h => (getD_put_ne (by decide)).trans (fu (by simpa using h)), (wsAqU_same _ _ _ _ _ _ _ _  rfl rfl hW)⟩
    · obtain rfl : oAqU8 pp = o := Option.some.inj ho
      have q7 : a'.tmps.getD 24 undef = .pointer (some ⟨p, 1, none⟩) := f7 (edge_ofF (o := oAqU8 pp) hpre 7 rfl)
      exact step_load rfl rfl rfl q7 (run_ld32 _ _ _ ((Below.cell (p := ⟨p, 1, none⟩) hW.1 hpl).trans cp1)) ⟨frm' 25 _ rfl, fun h => (getD_put_ne (by decide)).trans (f0 (by simpa using h)), fun h => (getD_put_ne (by decide)).trans (f1 (by simpa using h)), fun h => (getD_put_ne (by decide)).trans (f2 (by simpa using h)), fun h => (getD_put_ne (by decide)).trans (f3 (by simpa using h)), fun h => (getD_put_ne (by decide)).trans (f4 (by simpa using h)), fun h => (getD_put_ne (by decide)).trans (f5 (by simpa using h)), fun h => (getD_put_ne (by decide)).trans (f6 (by simpa using h)), fun h => (getD_put_ne (by decide)).trans (f7 (by simpa using h)), fun _ => getD_put_same (by rw [hsz]; omega), fun h => (getD_put_ne (by decide)).trans (f9 (by simpa using h)), fun h => (getD_put_ne (by decide)).trans (f10 (by simpa using h)), fun h => (getD_put_ne (by decide)).trans (f11 (by simpa using h)), fun h => (getD_put_ne (by decide)).trans (f12 (by simpa using h)), fun h => (getD_put_ne (by decide)).trans (f15 (by simpa using h)), u, fun h => (getD_put_ne (by decide)).trans (fu (by simpa using h)), (wsAqU_same _ _ _ _ _ _ _ _  rfl rfl hW)⟩
    · obtain rfl : oAqU9 pp = o := Option.some.inj ho
      have q4 : a'.tmps.getD 21 undef = .pointer (some ⟨Rs, 0, none⟩) := f4 (edge_ofF (o := oAqU9 pp) hpre 4 rfl)
      have q6 : a'.tmps.getD 23 undef = .int .u32 (cl : Int) := f6 (edge_ofF (o := oAqU9 pp) hpre 6 rfl)
      have q8 : a'.tmps.getD 25 undef = .int .u32 (sq : Int) := f8 (edge_ofF (o := oAqU9 pp) hpre 8 rfl)
      refine step_callD rfl rfl rfl (enters_of Tryz.func21 (by kernel_rfl) rfl) (show Array.map a'.eval #[.tmp 21, .tmp 23, .tmp 25] = _ from by simp only [List.map_toArray, List.map_cons, List.map_nil, Act.eval, q4, q6, q8]) ((hC w' (Grew.undraw hW.1)).mono ?_)
      rintro e w'' ⟨rfl, hb⟩
      have hW2 : wsAqU R p Rs cl sq cd k tx w.drew (fun j => L j || j == 9) u w'' := by
        obtain ⟨b1, hx⟩ := hW
        refine ⟨b1.trans (Below.mono hb b1.size), fun h => ?_⟩
        obtain ⟨x, e, h1, h2⟩ := hx (by simpa using h)
        have h3 : RepB w'' x _ _ := (hb.block x h2.lt).trans h2
        exact ⟨x, e, h1, by simpa using h3⟩
      exact ⟨_, rfl, ⟨frm' 26 _ rfl, fun h => (getD_put_ne (by decide)).trans (f0 (by simpa using h)), fun h => (getD_put_ne (by decide)).trans (f1 (by simpa using h)), fun h => (getD_put_ne (by decide)).trans (f2 (by simpa using h)), fun h => (getD_put_ne (by decide)).trans (f3 (by simpa using h)), fun h => (getD_put_ne (by decide)).trans (f4 (by simpa using h)), fun h => (getD_put_ne (by decide)).trans (f5 (by simpa using h)), fun h => (getD_put_ne (by decide)).trans (f6 (by simpa using h)), fun h => (getD_put_ne (by decide)).trans (f7 (by simpa using h)), fun h => (getD_put_ne (by decide)).trans (f8 (by simpa using h)), fun _ => getD_put_same (by rw [hsz]; omega), fun h => (getD_put_ne (by decide)).trans (f10 (by simpa using h)), fun h => (getD_put_ne (by decide)).trans (f11 (by simpa using h)), fun h => (getD_put_ne (by decide)).trans (f12 (by simpa using h)), fun h => (getD_put_ne (by decide)).trans (f15 (by simpa using h)), u, fun h => (getD_put_ne (by decide)).trans (fu (by simpa using h)), hW2⟩⟩
    · obtain rfl : oAqU10 pp = o := Option.some.inj ho
      have q9 : a'.tmps.getD 26 undef = .tuple #[.agg #[.int .u8 (cd : Int), .string tx], .int .u8 (k : Int)] := f9 (edge_ofF (o := oAqU10 pp) hpre 9 rfl)
      exact step_move rfl rfl rfl q9 ⟨frm' 16 _ rfl, fun h => (getD_put_ne (by decide)).trans (f0 (by simpa using h)), fun h => (getD_put_ne (by decide)).trans (f1 (by simpa using h)), fun h => (getD_put_ne (by decide)).trans (f2 (by simpa using h)), fun h => (getD_put_ne (by decide)).trans (f3 (by simpa using h)), fun h => (getD_put_ne (by decide)).trans (f4 (by simpa using h)), fun h => (getD_put_ne (by decide)).trans (f5 (by simpa using h)), fun h => (getD_put_ne (by decide)).trans (f6 (by simpa using h)), fun h => (getD_put_ne (by decide)).trans (f7 (by simpa using h)), fun h => (getD_put_ne (by decide)).trans (f8 (by simpa using h)), fun h => (getD_put_ne (by decide)).trans (f9 (by simpa using h)), fun _ => getD_put_same (by rw [hsz]; omega), fun h => (getD_put_ne (by decide)).trans (f11 (by simpa using h)), fun h => (getD_put_ne (by decide)).trans (f12 (by simpa using h)), fun h => (getD_put_ne (by decide)).trans (f15 (by simpa using h)), u, fun h => (getD_put_ne (by decide)).trans (fu (by simpa using h)), (wsAqU_same _ _ _ _ _ _ _ _  rfl rfl hW)⟩
    · obtain rfl : oAqU11 pp = o := Option.some.inj ho
      have q10 : a'.tmps.getD 16 undef = .tuple #[.agg #[.int .u8 (cd : Int), .string tx], .int .u8 (k : Int)] := f10 (edge_ofF (o := oAqU11 pp) hpre 10 rfl)
      exact step_extractF rfl rfl rfl q10 rfl ⟨frm' 27 _ rfl, fun h => (getD_put_ne (by decide)).trans (f0 (by simpa using h)), fun h => (getD_put_ne (by decide)).trans (f1 (by simpa using h)), fun h => (getD_put_ne (by decide)).trans (f2 (by simpa using h)), fun h => (getD_put_ne (by decide)).trans (f3 (by simpa using h)), fun h => (getD_put_ne (by decide)).trans (f4 (by simpa using h)), fun h => (getD_put_ne (by decide)).trans (f5 (by simpa using h)), fun h => (getD_put_ne (by decide)).trans (f6 (by simpa using h)), fun h => (getD_put_ne (by decide)).trans (f7 (by simpa using h)), fun h => (getD_put_ne (by decide)).trans (f8 (by simpa using h)), fun h => (getD_put_ne (by decide)).trans (f9 (by simpa using h)), fun h => (getD_put_ne (by decide)).trans (f10 (by simpa using h)), fun _ => getD_put_same (by rw [hsz]; omega), fun h => (getD_put_ne (by decide)).trans (f12 (by simpa using h)), fun h => (getD_put_ne (by decide)).trans (f15 (by simpa using h)), u, fun h => (getD_put_ne (by decide)).trans (fu (by simpa using h)), (wsAqU_same _ _ _ _ _ _ _ _  rfl rfl hW)⟩
    · obtain rfl : oAqU12 pp = o := Option.some.inj ho
      have q10 : a'.tmps.getD 16 undef = .tuple #[.agg #[.int .u8 (cd : Int), .string tx], .int .u8 (k : Int)] := f10 (edge_ofF (o := oAqU12 pp) hpre 10 rfl)
      exact step_extractF rfl rfl rfl q10 rfl ⟨frm' 28 _ rfl, fun h => (getD_put_ne (by decide)).trans (f0 (by simpa using h)), fun h => (getD_put_ne (by decide)).trans (f1 (by simpa using h)), fun h => (getD_put_ne (by decide)).trans (f2 (by simpa using h)), fun h => (getD_put_ne (by decide)).trans (f3 (by simpa using h)), fun h => (getD_put_ne (by decide)).trans (f4 (by simpa using h)), fun h => (getD_put_ne (by decide)).trans (f5 (by simpa using h)), fun h => (getD_put_ne (by decide)).trans (f6 (by simpa using h)), fun h => (getD_put_ne (by decide)).trans (f7 (by simpa using h)), fun h => (getD_put_ne (by decide)).trans (f8 (by simpa using h)), fun h => (getD_put_ne (by decide)).trans (f9 (by simpa using h)), fun h => (getD_put_ne (by decide)).trans (f10 (by simpa using h)), fun h => (getD_put_ne (by decide)).trans (f11 (by simpa using h)), fun _ => getD_put_same (by rw [hsz]; omega), fun h => (getD_put_ne (by decide)).trans (f15 (by simpa using h)), u, fun h => (getD_put_ne (by decide)).trans (fu (by simpa using h)), (wsAqU_same _ _ _ _ _ _ _ _  rfl rfl hW)⟩
    · obtain rfl : oAqU13 pp = o := Option.some.inj ho
      have hal : (execOp a'.eval (oAqU13 pp)).run Tryz.prog w' = .ok (.value (.pointer (some ⟨w'.heap.size, 0, none⟩))) (w'.alloc (.cells #[.int .u8 0, .string ⟨#[]⟩] 36)) := by simp [execOp, oAqU13, run_alRep]
      refine step_run (o := oAqU13 pp) rfl rfl (by intro c h; cases h) (by simp [Oper.about, oAqU13]) hal ?_
      have hW2 : wsAqU R p Rs cl sq cd k tx w.drew (fun j => L j || j == 13) (.pointer (some ⟨w'.heap.size, 0, none⟩)) (w'.alloc (.cells #[.int .u8 0, .string ⟨#[]⟩] 36)) := by
        have n14 : L 14 = false := not_yetF hcl 30 (show reachB (opsAqU pp) 30 14 13 = true by kernel_rfl) hLi
        obtain ⟨b1, _⟩ := hW
        refine ⟨b1.alloc b1.size _, fun _ => ⟨_, rfl, b1.size, ?_⟩⟩
        have e : (L 14 || (14 : Nat) == 13) = false := by simp [n14]
        simp only [e]
        exact World.alloc_heap_new w' _
      exact ⟨frm' 6 _ rfl, fun h => (getD_put_ne (by decide)).trans (f0 (by simpa using h)), fun h => (getD_put_ne (by decide)).trans (f1 (by simpa using h)), fun h => (getD_put_ne (by decide)).trans (f2 (by simpa using h)), fun h => (getD_put_ne (by decide)).trans (f3 (by simpa using h)), fun h => (getD_put_ne (by decide)).trans (f4 (by simpa using h)), fun h => (getD_put_ne (by decide)).trans (f5 (by simpa using h)), fun h => (getD_put_ne (by decide)).trans (f6 (by simpa using h)), fun h => (getD_put_ne (by decide)).trans (f7 (by simpa using h)), fun h => (getD_put_ne (by decide)).trans (f8 (by simpa using h)), fun h => (getD_put_ne (by decide)).trans (f9 (by simpa using h)), fun h => (getD_put_ne (by decide)).trans (f10 (by simpa using h)), fun h => (getD_put_ne (by decide)).trans (f11 (by simpa using h)), fun h => (getD_put_ne (by decide)).trans (f12 (by simpa using h)), fun h => (getD_put_ne (by decide)).trans (f15 (by simpa using h)), .pointer (some ⟨w'.heap.size, 0, none⟩), fun _ => getD_put_same (by rw [hsz]; omega), hW2⟩
    · obtain rfl : oAqU14 pp = o := Option.some.inj ho
      have q13 : a'.tmps.getD 6 undef = u := fu (edge_ofF (o := oAqU14 pp) hpre 13 rfl)
      have q11 : a'.tmps.getD 27 undef = .agg #[.int .u8 (cd : Int), .string tx] := f11 (edge_ofF (o := oAqU14 pp) hpre 11 rfl)
      obtain ⟨b1, hx⟩ := hW
      obtain ⟨x, e, h1, h2⟩ := hx (edge_ofF (o := oAqU14 pp) hpre 13 rfl)
      have hx1 : a'.eval (.tmp 6) = .pointer (some ⟨x, 0, none⟩) := (fu (edge_ofF (o := oAqU14 pp) hpre 13 rfl)).trans e
      have hx2 : a'.eval (.tmp 27) = .agg #[.int .u8 (cd : Int), .string tx] := q11
      have hst := run_stRep w' x _ _ h2 cd tx
      refine step_skip (o := oAqU14 pp) rfl rfl (by intro c h; cases h) (by simp [Oper.about, oAqU14]) (w' := (w'.setCell ⟨x, 0, none⟩ (.int .u8 (cd : Int))).setCell ⟨x, 1, none⟩ (.string tx)) (by
        unfold execOp
        simp only [oAqU14, hx1, hx2, Sem.run_bind, hst, Result.andThen_ok]
        rfl) ?_
      have hW2 : wsAqU R p Rs cl sq cd k tx w.drew (fun j => L j || j == 14) u ((w'.setCell ⟨x, 0, none⟩ (.int .u8 (cd : Int))).setCell ⟨x, 1, none⟩ (.string tx)) := by
        refine ⟨(b1.setCell (p := ⟨x, 0, none⟩) h1 _).setCell (p := ⟨x, 1, none⟩) h1 _, fun _ => ⟨x, e, h1, ?_⟩⟩
        simp only [beq_self_eq_true, Bool.or_true, if_true]
        exact h2.set cd tx
      exact ⟨hF, fun h => f0 (by simpa using h), fun h => f1 (by simpa using h), fun h => f2 (by simpa using h), fun h => f3 (by simpa using h), fun h => f4 (by simpa using h), fun h => f5 (by simpa using h), fun h => f6 (by simpa using h), fun h => f7 (by simpa using h), fun h => f8 (by simpa using h), fun h => f9 (by simpa using h), fun h => f10 (by simpa using h), fun h => f11 (by simpa using h), fun h => f12 (by simpa using h), fun h => f15 (by simpa using h), u, fun h => fu (by simpa using h), hW2⟩
    · obtain rfl : oAqU15 pp = o := Option.some.inj ho
      have q12 : a'.tmps.getD 28 undef = .int .u8 (k : Int) := f12 (edge_ofF (o := oAqU15 pp) hpre 12 rfl)
      exact step_assign rfl rfl rfl q12 ⟨frm' 7 _ rfl, fun h => (getD_put_ne (by decide)).trans (f0 (by simpa using h)), fun h => (getD_put_ne (by decide)).trans (f1 (by simpa using h)), fun h => (getD_put_ne (by decide)).trans (f2 (by simpa using h)), fun h => (getD_put_ne (by decide)).trans (f3 (by simpa using h)), fun h => (getD_put_ne (by decide)).trans (f4 (by simpa using h)), fun h => (getD_put_ne (by decide)).trans (f5 (by simpa using h)), fun h => (getD_put_ne (by decide)).trans (f6 (by simpa using h)), fun h => (getD_put_ne (by decide)).trans (f7 (by simpa using h)), fun h => (getD_put_ne (by decide)).trans (f8 (by simpa using h)), fun h => (getD_put_ne (by decide)).trans (f9 (by simpa using h)), fun h => (getD_put_ne (by decide)).trans (f10 (by simpa using h)), fun h => (getD_put_ne (by decide)).trans (f11 (by simpa using h)), fun h => (getD_put_ne (by decide)).trans (f12 (by simpa using h)), fun _ => getD_put_same (by rw [hsz]; omega), u, fun h => (getD_put_ne (by decide)).trans (fu (by simpa using h)), (wsAqU_same _ _ _ _ _ _ _ _  rfl rfl hW)⟩
    · exact absurd ((Array.getElem?_eq_some_iff.1 ho).1) (by simp [opsAqU])
  · intro L a' w' hv hall
    have hL : ∀ j, j < 16 → L j = true := fun j hj => hall j (by simpa [opsAqU] using hj)
    obtain ⟨hF, f0, f1, f2, f3, f4, f5, f6, f7, f8, f9, f10, f11, f12, f15, u, fu, hW⟩ := hv
    have hW2 : wsAqU R p Rs cl sq cd k tx w.drew (fun _ => true) u w' := by
      unfold wsAqU at hW ⊢
      simp only [hL 13 (by omega), hL 14 (by omega)] at hW ⊢
      exact hW
    have hput : a' = puts [(17, .pointer (some ⟨R, 0, none⟩)), (18, .pointer (some ⟨R, 0, none⟩)), (19, .pointer (some ⟨R, 0, none⟩)), (20, .pointer (some ⟨R, 1, none⟩)), (21, .pointer (some ⟨Rs, 0, none⟩)), (22, .pointer (some ⟨p, 0, none⟩)), (23, .int .u32 (cl : Int)), (24, .pointer (some ⟨p, 1, none⟩)), (25, .int .u32 (sq : Int)), (26, .tuple #[.agg #[.int .u8 (cd : Int), .string tx], .int .u8 (k : Int)]), (16, .tuple #[.agg #[.int .u8 (cd : Int), .string tx], .int .u8 (k : Int)]), (27, .agg #[.int .u8 (cd : Int), .string tx]), (28, .int .u8 (k : Int)), (6, u), (7, .int .u8 (k : Int))] a := hF.puts _ (by
      intro z hz
      simp only [List.mem_cons, List.not_mem_nil, or_false] at hz
      rcases hz with rfl | rfl | rfl | rfl | rfl | rfl | rfl | rfl | rfl | rfl | rfl | rfl | rfl | rfl | rfl
      · exact f0 (hL 0 (by omega))
      · exact f1 (hL 1 (by omega))
      · exact f2 (hL 2 (by omega))
      · exact f3 (hL 3 (by omega))
      · exact f4 (hL 4 (by omega))
      · exact f5 (hL 5 (by omega))
      · exact f6 (hL 6 (by omega))
      · exact f7 (hL 7 (by omega))
      · exact f8 (hL 8 (by omega))
      · exact f9 (hL 9 (by omega))
      · exact f10 (hL 10 (by omega))
      · exact f11 (hL 11 (by omega))
      · exact f12 (hL 12 (by omega))
      · exact fu (hL 13 (by omega))
      · exact f15 (hL 15 (by omega))) rfl (by rw [hN]; rfl)
    rw [hput]
    exact hQ u w' hW2
def oAqV0 (pp : String) : Oper := { dst := some 32, op := Op.move (Operand.tmp 0), type := 24, pos := pp, after := #[], guard := none }
def oAqV1 (pp : String) : Oper := { dst := some 33, op := Op.nilCheck (Operand.tmp 32), type := 0, pos := pp, after := #[{ on := 0, ground := Ground.data }], guard := none }
def oAqV2 (pp : String) : Oper := { dst := some 34, op := Op.fieldAddr 53 (Operand.tmp 33) 0, type := 0, pos := pp, after := #[{ on := 1, ground := Ground.data }], guard := none }
def oAqV3 (pp : String) : Oper := { dst := some 35, op := Op.fieldAddr 51 (Operand.tmp 34) 0, type := 0, pos := pp, after := #[{ on := 2, ground := Ground.data }], guard := none }
def oAqV4 (pp : String) : Oper := { dst := some 36, op := Op.load 43 (Operand.tmp 35), type := 43, pos := pp, after := #[{ on := 3, ground := Ground.data }], guard := none }
def oAqV5 (pp : String) : Oper := { dst := some 37, op := Op.load 34 (Operand.tmp 3), type := 34, pos := pp, after := #[], guard := none }
def oAqV6 (pp : String) : Oper := { dst := some 38, op := Op.call { callee := Callee.value (Operand.func 22), args := #[Operand.tmp 36, Operand.tmp 37], argTypes := #[43, 34] }, type := 36, pos := pp, after := #[{ on := 4, ground := Ground.data }, { on := 5, ground := Ground.data }], guard := none }
def oAqV7 (pp : String) : Oper := { dst := none, op := Op.store 36 (Operand.tmp 6) (Operand.tmp 38), type := 0, pos := pp, after := #[{ on := 6, ground := Ground.data }, { on := 6, ground := Ground.chain }, { on := 0, ground := Ground.phase }, { on := 1, ground := Ground.phase }, { on := 2, ground := Ground.phase }, { on := 3, ground := Ground.phase }, { on := 4, ground := Ground.phase }, { on := 5, ground := Ground.phase }, { on := 6, ground := Ground.phase }], guard := none }
def opsAqV (pp : String) : List Oper := [oAqV0 pp, oAqV1 pp, oAqV2 pp, oAqV3 pp, oAqV4 pp, oAqV5 pp, oAqV6 pp, oAqV7 pp]
theorem opsAqV_back (pp : String) : backwards (opsAqV pp) = true := by kernel_rfl
def wsAqV (I : World → Prop) (_R _p x _Rk cd _c0 : Nat) (tx _t0 : ByteArray) (_v : CmdV) (W0 : World) (L : Nat → Bool) (_u : Value) (w : World) : Prop := (L 6 = false → w = W0) ∧ (L 6 = true → ∃ W1, I W1 ∧ w = if L 7 = true then (W1.setCell ⟨x, 0, none⟩ (.int .u8 (cd : Int))).setCell ⟨x, 1, none⟩ (.string tx) else W1)
theorem wsAqV_same (I : World → Prop) (R p x Rk cd c0 : Nat) (tx t0 : ByteArray) (v : CmdV) {W0 : World} {L : Nat → Bool} {i : Nat} {u : Value} {w : World} (k6 : ((6 : Nat) == i) = false) (k7 : ((7 : Nat) == i) = false) (h : wsAqV I R p x Rk cd c0 tx t0 v W0 L u w) : wsAqV I R p x Rk cd c0 tx t0 v W0 (fun j => L j || j == i) u w := by
  unfold wsAqV at h ⊢
  simp only [beq_noF k6, beq_noF k7]
  exact h
/-- How far it is. -/
structure InvAqV (I : World → Prop) (R p x Rk cd c0 : Nat) (tx t0 : ByteArray) (v : CmdV) (W0 : World) (a : Act) (pp : String) (L : Nat → Bool) (a' : Act) (w' : World) : Prop where
  frm : Frm (opsAqV pp) a a'
  f0 : L 0 = true → a'.tmps.getD 32 undef = .pointer (some ⟨R, 0, none⟩)
  f1 : L 1 = true → a'.tmps.getD 33 undef = .pointer (some ⟨R, 0, none⟩)
  f2 : L 2 = true → a'.tmps.getD 34 undef = .pointer (some ⟨R, 0, none⟩)
  f3 : L 3 = true → a'.tmps.getD 35 undef = .pointer (some ⟨R, 0, none⟩)
  f4 : L 4 = true → a'.tmps.getD 36 undef = .pointer (some ⟨Rk, 0, none⟩)
  f5 : L 5 = true → a'.tmps.getD 37 undef = v.val
  f6 : L 6 = true → a'.tmps.getD 38 undef = .agg #[.int .u8 (cd : Int), .string tx]
  ex : ∃ u : Value, wsAqV I R p x Rk cd c0 tx t0 v W0 L u w'
set_option maxRecDepth 100000 in
set_option maxHeartbeats 4000000 in
theorem ado_do {pp : String} (I : World → Prop) (R p x Rk cd c0 : Nat) (tx t0 : ByteArray) (v : CmdV) (a : Act) (w : World) (Q : Exit → Act → World → Prop) (hN : a.tmps.size = 60) (h0 : a.tmps.getD 0 undef = .pointer (some ⟨R, 0, none⟩)) (h3 : a.tmps.getD 3 undef = .pointer (some ⟨p, 0, none⟩)) (h6 : a.tmps.getD 6 undef = .pointer (some ⟨x, 0, none⟩)) (cR0 : w.cell? ⟨R, 0, none⟩ = some (.pointer (some ⟨Rk, 0, none⟩))) (hv : ∀ i u, v.cells[i]? = some u → w.cell? ⟨p, i, none⟩ = some u) (hC : Calls Tryz.prog 22 #[.pointer (some ⟨Rk, 0, none⟩), v.val] w.drew fun e W' => e = .returned (.agg #[.int .u8 (cd : Int), .string tx]) ∧ I W') (hI : ∀ W', I W' → RepB W' x c0 t0) (hW0 : wsAqV I R p x Rk cd c0 tx t0 v w.drew (fun _ => false) undef w.drew) (hQ : ∀ (u : Value) w', wsAqV I R p x Rk cd c0 tx t0 v w.drew (fun _ => true) u w' → Q .normal (puts [(32, .pointer (some ⟨R, 0, none⟩)), (33, .pointer (some ⟨R, 0, none⟩)), (34, .pointer (some ⟨R, 0, none⟩)), (35, .pointer (some ⟨R, 0, none⟩)), (36, .pointer (some ⟨Rk, 0, none⟩)), (37, v.val), (38, .agg #[.int .u8 (cd : Int), .string tx])] a) w')
    : (Code.region 6 (opsAqV pp).toArray true).wp Tryz.prog Q a w := by
  refine (wpIn_wide (n := 1)).1 (wpIn_region_by follows (opsAqV_back pp) (InvAqV I R p x Rk cd c0 tx t0 v w.drew a pp) ?_ ?_ ?_)
  · exact ⟨⟨rfl, rfl, fun _ _ => rfl⟩, fun h => (by cases h), fun h => (by cases h), fun h => (by cases h), fun h => (by cases h), fun h => (by cases h), fun h => (by cases h), fun h => (by cases h), undef, hW0⟩
  · intro L a' w' i o hv ho hLi hpre hcl
    obtain ⟨hF, f0, f1, f2, f3, f4, f5, f6, u, hW⟩ := hv
    have hsz : a'.tmps.size = 60 := hF.size.trans hN
    have frm' : ∀ (d : Nat) (v : Value), o.dst = some d → Frm (opsAqV pp) a (a'.put (some d) v) := fun d v hd => ⟨size_put.trans hF.size, defers_put.trans hF.defers, fun s hs => by
      have hm : o ∈ opsAqV pp := by simpa using List.mem_of_getElem? (by simpa using ho)
      rw [getD_put_ne (fun e => hs o hm (by rw [hd, e]))]
      exact hF.old s hs⟩
    rcases i with _ | _ | _ | _ | _ | _ | _ | _ | i
    · obtain rfl : oAqV0 pp = o := Option.some.inj ho
      exact step_move rfl rfl rfl (hF.at 0 rfl h0) ⟨frm' 32 _ rfl, fun _ => getD_put_same (by rw [hsz]; omega), fun h => (getD_put_ne (by decide)).trans (f1 (by simpa using h)), fun h => (getD_put_ne (by decide)).trans (f2 (by simpa using h)), fun h => (getD_put_ne (by decide)).trans (f3 (by simpa using h)), fun h => (getD_put_ne (by decide)).trans (f4 (by simpa using h)), fun h => (getD_put_ne (by decide)).trans (f5 (by simpa using h)), fun h => (getD_put_ne (by decide)).trans (f6 (by simpa using h)), u, (wsAqV_same _ _ _ _ _ _ _ _ _ _  rfl rfl hW)⟩
    · obtain rfl : oAqV1 pp = o := Option.some.inj ho
      have q0 : a'.tmps.getD 32 undef = .pointer (some ⟨R, 0, none⟩) := f0 (edge_ofF (o := oAqV1 pp) hpre 0 rfl)
      have nL : L 6 = false := not_yetF hcl 30 (show reachB (opsAqV pp) 30 6 1 = true by kernel_rfl) hLi
      exact step_nilCheckF rfl rfl rfl q0 (trivial) ⟨frm' 33 _ rfl, fun h => (getD_put_ne (by decide)).trans (f0 (by simpa using h)), fun _ => getD_put_same (by rw [hsz]; omega), fun h => (getD_put_ne (by decide)).trans (f2 (by simpa using h)), fun h => (getD_put_ne (by decide)).trans (f3 (by simpa using h)), fun h => (getD_put_ne (by decide)).trans (f4 (by simpa using h)), fun h => (getD_put_ne (by decide)).trans (f5 (by simpa using h)), fun h => (getD_put_ne (by decide)).trans (f6 (by simpa using h)), u, (wsAqV_same _ _ _ _ _ _ _ _ _ _  rfl rfl hW)⟩
    · obtain rfl : oAqV2 pp = o := Option.some.inj ho
      have q1 : a'.tmps.getD 33 undef = .pointer (some ⟨R, 0, none⟩) := f1 (edge_ofF (o := oAqV2 pp) hpre 1 rfl)
      have nL : L 6 = false := not_yetF hcl 30 (show reachB (opsAqV pp) 30 6 2 = true by kernel_rfl) hLi
      exact step_fieldF rfl rfl rfl q1 (run_fdA _ _) ⟨frm' 34 _ rfl, fun h => (getD_put_ne (by decide)).trans (f0 (by simpa using h)), fun h => (getD_put_ne (by decide)).trans (f1 (by simpa using h)), fun _ => getD_put_same (by rw [hsz]; omega), fun h => (getD_put_ne (by decide)).trans (f3 (by simpa using h)), fun h => (getD_put_ne (by decide)).trans (f4 (by simpa using h)), fun h => (getD_put_ne (by decide)).trans (f5 (by simpa using h)), fun h => (getD_put_ne (by decide)).trans (f6 (by simpa using h)), u, (wsAqV_same _ _ _ _ _ _ _ _ _ _  rfl rfl hW)⟩
    · obtain rfl : oAqV3 pp = o := Option.some.inj ho
      have q2 : a'.tmps.getD 34 undef = .pointer (some ⟨R, 0, none⟩) := f2 (edge_ofF (o := oAqV3 pp) hpre 2 rfl)
      have nL : L 6 = false := not_yetF hcl 30 (show reachB (opsAqV pp) 30 6 3 = true by kernel_rfl) hLi
      exact step_fieldF rfl rfl rfl q2 (run_fdC0 _ _) ⟨frm' 35 _ rfl, fun h => (getD_put_ne (by decide)).trans (f0 (by simpa using h)), fun h => (getD_put_ne (by decide)).trans (f1 (by simpa using h)), fun h => (getD_put_ne (by decide)).trans (f2 (by simpa using h)), fun _ => getD_put_same (by rw [hsz]; omega), fun h => (getD_put_ne (by decide)).trans (f4 (by simpa using h)), fun h => (getD_put_ne (by decide)).trans (f5 (by simpa using h)), fun h => (getD_put_ne (by decide)).trans (f6 (by simpa using h)), u, (wsAqV_same _ _ _ _ _ _ _ _ _ _  rfl rfl hW)⟩
    · obtain rfl : oAqV4 pp = o := Option.some.inj ho
      have q3 : a'.tmps.getD 35 undef = .pointer (some ⟨R, 0, none⟩) := f3 (edge_ofF (o := oAqV4 pp) hpre 3 rfl)
      have nL : L 6 = false := not_yetF hcl 30 (show reachB (opsAqV pp) 30 6 4 = true by kernel_rfl) hLi
      exact step_load rfl rfl rfl q3 (by rw [hW.1 nL]; exact run_ldK1 _ _ _ cR0) ⟨frm' 36 _ rfl, fun h => (getD_put_ne (by decide)).trans (f0 (by simpa using h)), fun h => (getD_put_ne (by decide)).trans (f1 (by simpa using h)), fun h => (getD_put_ne (by decide)).trans (f2 (by simpa using h)), fun h => (getD_put_ne (by decide)).trans (f3 (by simpa using h)), fun _ => getD_put_same (by rw [hsz]; omega), fun h => (getD_put_ne (by decide)).trans (f5 (by simpa using h)), fun h => (getD_put_ne (by decide)).trans (f6 (by simpa using h)), u, (wsAqV_same _ _ _ _ _ _ _ _ _ _  rfl rfl hW)⟩
    · obtain rfl : oAqV5 pp = o := Option.some.inj ho
      have nL : L 6 = false := not_yetF hcl 30 (show reachB (opsAqV pp) 30 6 5 = true by kernel_rfl) hLi
      exact step_load rfl rfl rfl (hF.at 3 rfl h3) (by rw [hW.1 nL]; exact run_ldCmd _ _ _ hv) ⟨frm' 37 _ rfl, fun h => (getD_put_ne (by decide)).trans (f0 (by simpa using h)), fun h => (getD_put_ne (by decide)).trans (f1 (by simpa using h)), fun h => (getD_put_ne (by decide)).trans (f2 (by simpa using h)), fun h => (getD_put_ne (by decide)).trans (f3 (by simpa using h)), fun h => (getD_put_ne (by decide)).trans (f4 (by simpa using h)), fun _ => getD_put_same (by rw [hsz]; omega), fun h => (getD_put_ne (by decide)).trans (f6 (by simpa using h)), u, (wsAqV_same _ _ _ _ _ _ _ _ _ _  rfl rfl hW)⟩
    · obtain rfl : oAqV6 pp = o := Option.some.inj ho
      have q4 : a'.tmps.getD 36 undef = .pointer (some ⟨Rk, 0, none⟩) := f4 (edge_ofF (o := oAqV6 pp) hpre 4 rfl)
      have q5 : a'.tmps.getD 37 undef = v.val := f5 (edge_ofF (o := oAqV6 pp) hpre 5 rfl)
      refine step_callD rfl rfl rfl (enters_of Tryz.func22 (by kernel_rfl) rfl) (show Array.map a'.eval #[.tmp 36, .tmp 37] = _ from by simp only [List.map_toArray, List.map_cons, List.map_nil, Act.eval, q4, q5]) ((hW.1 hLi ▸ hC).mono ?_)
      rintro e w'' ⟨rfl, hI1⟩
      have hW2 : wsAqV I R p x Rk cd c0 tx t0 v w.drew (fun j => L j || j == 6) u w'' := by
        have n7 : L 7 = false := not_yetF hcl 30 (show reachB (opsAqV pp) 30 7 6 = true by kernel_rfl) hLi
        refine ⟨fun h => ?_, fun _ => ⟨_, hI1, ?_⟩⟩
        · simp at h
        · have e : (L 7 || (7 : Nat) == 6) = false := by simp [n7]
          simp only [e]
          rfl
      exact ⟨_, rfl, ⟨frm' 38 _ rfl, fun h => (getD_put_ne (by decide)).trans (f0 (by simpa using h)), fun h => (getD_put_ne (by decide)).trans (f1 (by simpa using h)), fun h => (getD_put_ne (by decide)).trans (f2 (by simpa using h)), fun h => (getD_put_ne (by decide)).trans (f3 (by simpa using h)), fun h => (getD_put_ne (by decide)).trans (f4 (by simpa using h)), fun h => (getD_put_ne (by decide)).trans (f5 (by simpa using h)), fun _ => getD_put_same (by rw [hsz]; omega), u, hW2⟩⟩
    · obtain rfl : oAqV7 pp = o := Option.some.inj ho
      have q6 : a'.tmps.getD 38 undef = .agg #[.int .u8 (cd : Int), .string tx] := f6 (edge_ofF (o := oAqV7 pp) hpre 6 rfl)
      have e6 := edge_ofF (o := oAqV7 pp) hpre 6 rfl
      obtain ⟨_, hx⟩ := hW
      obtain ⟨W1, h1, h2⟩ := hx e6
      rw [if_neg (by rw [hLi]; exact Bool.false_ne_true)] at h2
      have hx1 : a'.eval (.tmp 6) = .pointer (some ⟨x, 0, none⟩) := (hF.at 6 rfl h6)
      have hx2 : a'.eval (.tmp 38) = .agg #[.int .u8 (cd : Int), .string tx] := q6
      have hst := run_stRep W1 x _ _ (hI _ h1) cd tx
      rw [← h2] at hst
      refine step_skip (o := oAqV7 pp) rfl rfl (by intro c h; cases h) (by simp [Oper.about, oAqV7]) (w' := (w'.setCell ⟨x, 0, none⟩ (.int .u8 (cd : Int))).setCell ⟨x, 1, none⟩ (.string tx)) (by
        unfold execOp
        simp only [oAqV7, hx1, hx2, Sem.run_bind, hst, Result.andThen_ok]
        rfl) ?_
      have hW2 : wsAqV I R p x Rk cd c0 tx t0 v w.drew (fun j => L j || j == 7) u ((w'.setCell ⟨x, 0, none⟩ (.int .u8 (cd : Int))).setCell ⟨x, 1, none⟩ (.string tx)) := by
        refine ⟨fun h => ?_, fun _ => ⟨W1, h1, ?_⟩⟩
        · simp [e6] at h
        · simp only [beq_self_eq_true, Bool.or_true, if_true]
          rw [h2]
      exact ⟨hF, fun h => f0 (by simpa using h), fun h => f1 (by simpa using h), fun h => f2 (by simpa using h), fun h => f3 (by simpa using h), fun h => f4 (by simpa using h), fun h => f5 (by simpa using h), fun h => f6 (by simpa using h), u, hW2⟩
    · exact absurd ((Array.getElem?_eq_some_iff.1 ho).1) (by simp [opsAqV])
  · intro L a' w' hv hall
    have hL : ∀ j, j < 8 → L j = true := fun j hj => hall j (by simpa [opsAqV] using hj)
    obtain ⟨hF, f0, f1, f2, f3, f4, f5, f6, u, hW⟩ := hv
    have hW2 : wsAqV I R p x Rk cd c0 tx t0 v w.drew (fun _ => true) u w' := by
      unfold wsAqV at hW ⊢
      simp only [hL 6 (by omega), hL 7 (by omega)] at hW ⊢
      exact hW
    have hput : a' = puts [(32, .pointer (some ⟨R, 0, none⟩)), (33, .pointer (some ⟨R, 0, none⟩)), (34, .pointer (some ⟨R, 0, none⟩)), (35, .pointer (some ⟨R, 0, none⟩)), (36, .pointer (some ⟨Rk, 0, none⟩)), (37, v.val), (38, .agg #[.int .u8 (cd : Int), .string tx])] a := hF.puts _ (by
      intro z hz
      simp only [List.mem_cons, List.not_mem_nil, or_false] at hz
      rcases hz with rfl | rfl | rfl | rfl | rfl | rfl | rfl
      · exact f0 (hL 0 (by omega))
      · exact f1 (hL 1 (by omega))
      · exact f2 (hL 2 (by omega))
      · exact f3 (hL 3 (by omega))
      · exact f4 (hL 4 (by omega))
      · exact f5 (hL 5 (by omega))
      · exact f6 (hL 6 (by omega))) rfl (by rw [hN]; rfl)
    rw [hput]
    exact hQ u w' hW2
def oAqW0 (pp : String) : Oper := { dst := some 39, op := Op.move (Operand.tmp 0), type := 24, pos := pp, after := #[], guard := none }
def oAqW1 (pp : String) : Oper := { dst := some 40, op := Op.nilCheck (Operand.tmp 39), type := 0, pos := pp, after := #[{ on := 0, ground := Ground.data }], guard := none }
def oAqW2 (pp : String) : Oper := { dst := some 41, op := Op.fieldAddr 53 (Operand.tmp 40) 0, type := 0, pos := pp, after := #[{ on := 1, ground := Ground.data }], guard := none }
def oAqW3 (pp : String) : Oper := { dst := some 42, op := Op.fieldAddr 51 (Operand.tmp 41) 1, type := 0, pos := pp, after := #[{ on := 2, ground := Ground.data }], guard := none }
def oAqW4 (pp : String) : Oper := { dst := some 43, op := Op.load 46 (Operand.tmp 42), type := 46, pos := pp, after := #[{ on := 3, ground := Ground.data }], guard := none }
def oAqW5 (pp : String) : Oper := { dst := some 44, op := Op.fieldAddr 34 (Operand.tmp 3) 0, type := 0, pos := pp, after := #[], guard := none }
def oAqW6 (pp : String) : Oper := { dst := some 45, op := Op.load 31 (Operand.tmp 44), type := 31, pos := pp, after := #[{ on := 5, ground := Ground.data }], guard := none }
def oAqW7 (pp : String) : Oper := { dst := some 46, op := Op.fieldAddr 34 (Operand.tmp 3) 1, type := 0, pos := pp, after := #[], guard := none }
def oAqW8 (pp : String) : Oper := { dst := some 47, op := Op.load 31 (Operand.tmp 46), type := 31, pos := pp, after := #[{ on := 7, ground := Ground.data }], guard := none }
def oAqW9 (pp : String) : Oper := { dst := some 48, op := Op.load 36 (Operand.tmp 6), type := 36, pos := pp, after := #[], guard := none }
def oAqW10 (pp : String) : Oper := { dst := some 49, op := Op.call { callee := Callee.value (Operand.func 23), args := #[Operand.tmp 43, Operand.tmp 45, Operand.tmp 47, Operand.tmp 48], argTypes := #[46, 31, 31, 36] }, type := 0, pos := pp, after := #[{ on := 4, ground := Ground.data }, { on := 6, ground := Ground.data }, { on := 8, ground := Ground.data }, { on := 9, ground := Ground.data }], guard := none }
def opsAqW (pp : String) : List Oper := [oAqW0 pp, oAqW1 pp, oAqW2 pp, oAqW3 pp, oAqW4 pp, oAqW5 pp, oAqW6 pp, oAqW7 pp, oAqW8 pp, oAqW9 pp, oAqW10 pp]
theorem opsAqW_back (pp : String) : backwards (opsAqW pp) = true := by kernel_rfl
def wsAqW (I : World → Prop) (_R _p _x _Rs _cl _sq _cd : Nat) (_tx : ByteArray) (W0 : World) (L : Nat → Bool) (_u : Value) (w : World) : Prop := (L 10 = false → w = W0) ∧ (L 10 = true → I w)
theorem wsAqW_same (I : World → Prop) (R p x Rs cl sq cd : Nat) (tx : ByteArray) {W0 : World} {L : Nat → Bool} {i : Nat} {u : Value} {w : World} (k10 : ((10 : Nat) == i) = false) (h : wsAqW I R p x Rs cl sq cd tx W0 L u w) : wsAqW I R p x Rs cl sq cd tx W0 (fun j => L j || j == i) u w := by
  unfold wsAqW at h ⊢
  simp only [beq_noF k10]
  exact h
/-- How far it is. -/
structure InvAqW (I : World → Prop) (R p x Rs cl sq cd : Nat) (tx : ByteArray) (W0 : World) (a : Act) (pp : String) (L : Nat → Bool) (a' : Act) (w' : World) : Prop where
  frm : Frm (opsAqW pp) a a'
  f0 : L 0 = true → a'.tmps.getD 39 undef = .pointer (some ⟨R, 0, none⟩)
  f1 : L 1 = true → a'.tmps.getD 40 undef = .pointer (some ⟨R, 0, none⟩)
  f2 : L 2 = true → a'.tmps.getD 41 undef = .pointer (some ⟨R, 0, none⟩)
  f3 : L 3 = true → a'.tmps.getD 42 undef = .pointer (some ⟨R, 1, none⟩)
  f4 : L 4 = true → a'.tmps.getD 43 undef = .pointer (some ⟨Rs, 0, none⟩)
  f5 : L 5 = true → a'.tmps.getD 44 undef = .pointer (some ⟨p, 0, none⟩)
  f6 : L 6 = true → a'.tmps.getD 45 undef = .int .u32 (cl : Int)
  f7 : L 7 = true → a'.tmps.getD 46 undef = .pointer (some ⟨p, 1, none⟩)
  f8 : L 8 = true → a'.tmps.getD 47 undef = .int .u32 (sq : Int)
  f9 : L 9 = true → a'.tmps.getD 48 undef = .agg #[.int .u8 (cd : Int), .string tx]
  f10 : L 10 = true → a'.tmps.getD 49 undef = .tuple #[]
  ex : ∃ u : Value, wsAqW I R p x Rs cl sq cd tx W0 L u w'
set_option maxRecDepth 100000 in
set_option maxHeartbeats 4000000 in
theorem ado_keep {pp : String} (I : World → Prop) (R p x Rs cl sq cd : Nat) (tx : ByteArray) (a : Act) (w : World) (Q : Exit → Act → World → Prop) (hN : a.tmps.size = 60) (h0 : a.tmps.getD 0 undef = .pointer (some ⟨R, 0, none⟩)) (h3 : a.tmps.getD 3 undef = .pointer (some ⟨p, 0, none⟩)) (h6 : a.tmps.getD 6 undef = .pointer (some ⟨x, 0, none⟩)) (cR1 : w.cell? ⟨R, 1, none⟩ = some (.pointer (some ⟨Rs, 0, none⟩))) (cp0 : w.cell? ⟨p, 0, none⟩ = some (.int .u32 (cl : Int))) (cp1 : w.cell? ⟨p, 1, none⟩ = some (.int .u32 (sq : Int))) (hx : RepB w x cd tx) (hC : Calls Tryz.prog 23 #[.pointer (some ⟨Rs, 0, none⟩), .int .u32 (cl : Int), .int .u32 (sq : Int), .agg #[.int .u8 (cd : Int), .string tx]] w.drew fun e W' => e = .returned (.tuple #[]) ∧ I W') (hW0 : wsAqW I R p x Rs cl sq cd tx w.drew (fun _ => false) undef w.drew) (hQ : ∀ (u : Value) w', wsAqW I R p x Rs cl sq cd tx w.drew (fun _ => true) u w' → Q .normal (puts [(39, .pointer (some ⟨R, 0, none⟩)), (40, .pointer (some ⟨R, 0, none⟩)), (41, .pointer (some ⟨R, 0, none⟩)), (42, .pointer (some ⟨R, 1, none⟩)), (43, .pointer (some ⟨Rs, 0, none⟩)), (44, .pointer (some ⟨p, 0, none⟩)), (45, .int .u32 (cl : Int)), (46, .pointer (some ⟨p, 1, none⟩)), (47, .int .u32 (sq : Int)), (48, .agg #[.int .u8 (cd : Int), .string tx]), (49, .tuple #[])] a) w')
    : (Code.region 7 (opsAqW pp).toArray true).wp Tryz.prog Q a w := by
  refine (wpIn_wide (n := 1)).1 (wpIn_region_by follows (opsAqW_back pp) (InvAqW I R p x Rs cl sq cd tx w.drew a pp) ?_ ?_ ?_)
  · exact ⟨⟨rfl, rfl, fun _ _ => rfl⟩, fun h => (by cases h), fun h => (by cases h), fun h => (by cases h), fun h => (by cases h), fun h => (by cases h), fun h => (by cases h), fun h => (by cases h), fun h => (by cases h), fun h => (by cases h), fun h => (by cases h), fun h => (by cases h), undef, hW0⟩
  · intro L a' w' i o hv ho hLi hpre hcl
    obtain ⟨hF, f0, f1, f2, f3, f4, f5, f6, f7, f8, f9, f10, u, hW⟩ := hv
    have hsz : a'.tmps.size = 60 := hF.size.trans hN
    have frm' : ∀ (d : Nat) (v : Value), o.dst = some d → Frm (opsAqW pp) a (a'.put (some d) v) := fun d v hd => ⟨size_put.trans hF.size, defers_put.trans hF.defers, fun s hs => by
      have hm : o ∈ opsAqW pp := by simpa using List.mem_of_getElem? (by simpa using ho)
      rw [getD_put_ne (fun e => hs o hm (by rw [hd, e]))]
      exact hF.old s hs⟩
    rcases i with _ | _ | _ | _ | _ | _ | _ | _ | _ | _ | _ | i
    · obtain rfl : oAqW0 pp = o := Option.some.inj ho
      exact step_move rfl rfl rfl (hF.at 0 rfl h0) ⟨frm' 39 _ rfl, fun _ => getD_put_same (by rw [hsz]; omega), fun h => (getD_put_ne (by decide)).trans (f1 (by simpa using h)), fun h => (getD_put_ne (by decide)).trans (f2 (by simpa using h)), fun h => (getD_put_ne (by decide)).trans (f3 (by simpa using h)), fun h => (getD_put_ne (by decide)).trans (f4 (by simpa using h)), fun h => (getD_put_ne (by decide)).trans (f5 (by simpa using h)), fun h => (getD_put_ne (by decide)).trans (f6 (by simpa using h)), fun h => (getD_put_ne (by decide)).trans (f7 (by simpa using h)), fun h => (getD_put_ne (by decide)).trans (f8 (by simpa using h)), fun h => (getD_put_ne (by decide)).trans (f9 (by simpa using h)), fun h => (getD_put_ne (by decide)).trans (f10 (by simpa using h)), u, (wsAqW_same _ _ _ _ _ _ _ _ _  rfl hW)⟩
    · obtain rfl : oAqW1 pp = o := Option.some.inj ho
      have q0 : a'.tmps.getD 39 undef = .pointer (some ⟨R, 0, none⟩) := f0 (edge_ofF (o := oAqW1 pp) hpre 0 rfl)
      have nL : L 10 = false := not_yetF hcl 30 (show reachB (opsAqW pp) 30 10 1 = true by kernel_rfl) hLi
      exact step_nilCheckF rfl rfl rfl q0 (trivial) ⟨frm' 40 _ rfl, fun h => (getD_put_ne (by decide)).trans (f0 (by simpa using h)), fun _ => getD_put_same (by rw [hsz]; omega), fun h => (getD_put_ne (by decide)).trans (f2 (by simpa using h)), fun h => (getD_put_ne (by decide)).trans (f3 (by simpa using h)), fun h => (getD_put_ne (by decide)).trans (f4 (by simpa using h)), fun h => (getD_put_ne (by decide)).trans (f5 (by simpa using h)), fun h => (getD_put_ne (by decide)).trans (f6 (by simpa using h)), fun h => (getD_put_ne (by decide)).trans (f7 (by simpa using h)), fun h => (getD_put_ne (by decide)).trans (f8 (by simpa using h)), fun h => (getD_put_ne (by decide)).trans (f9 (by simpa using h)), fun h => (getD_put_ne (by decide)).trans (f10 (by simpa using h)), u, (wsAqW_same _ _ _ _ _ _ _ _ _  rfl hW)⟩
    · obtain rfl : oAqW2 pp = o := Option.some.inj ho
      have q1 : a'.tmps.getD 40 undef = .pointer (some ⟨R, 0, none⟩) := f1 (edge_ofF (o := oAqW2 pp) hpre 1 rfl)
      have nL : L 10 = false := not_yetF hcl 30 (show reachB (opsAqW pp) 30 10 2 = true by kernel_rfl) hLi
      exact step_fieldF rfl rfl rfl q1 (run_fdA _ _) ⟨frm' 41 _ rfl, fun h => (getD_put_ne (by decide)).trans (f0 (by simpa using h)), fun h => (getD_put_ne (by decide)).trans (f1 (by simpa using h)), fun _ => getD_put_same (by rw [hsz]; omega), fun h => (getD_put_ne (by decide)).trans (f3 (by simpa using h)), fun h => (getD_put_ne (by decide)).trans (f4 (by simpa using h)), fun h => (getD_put_ne (by decide)).trans (f5 (by simpa using h)), fun h => (getD_put_ne (by decide)).trans (f6 (by simpa using h)), fun h => (getD_put_ne (by decide)).trans (f7 (by simpa using h)), fun h => (getD_put_ne (by decide)).trans (f8 (by simpa using h)), fun h => (getD_put_ne (by decide)).trans (f9 (by simpa using h)), fun h => (getD_put_ne (by decide)).trans (f10 (by simpa using h)), u, (wsAqW_same _ _ _ _ _ _ _ _ _  rfl hW)⟩
    · obtain rfl : oAqW3 pp = o := Option.some.inj ho
      have q2 : a'.tmps.getD 41 undef = .pointer (some ⟨R, 0, none⟩) := f2 (edge_ofF (o := oAqW3 pp) hpre 2 rfl)
      have nL : L 10 = false := not_yetF hcl 30 (show reachB (opsAqW pp) 30 10 3 = true by kernel_rfl) hLi
      exact step_fieldF rfl rfl rfl q2 (run_fdC1 _ _) ⟨frm' 42 _ rfl, fun h => (getD_put_ne (by decide)).trans (f0 (by simpa using h)), fun h => (getD_put_ne (by decide)).trans (f1 (by simpa using h)), fun h => (getD_put_ne (by decide)).trans (f2 (by simpa using h)), fun _ => getD_put_same (by rw [hsz]; omega), fun h => (getD_put_ne (by decide)).trans (f4 (by simpa using h)), fun h => (getD_put_ne (by decide)).trans (f5 (by simpa using h)), fun h => (getD_put_ne (by decide)).trans (f6 (by simpa using h)), fun h => (getD_put_ne (by decide)).trans (f7 (by simpa using h)), fun h => (getD_put_ne (by decide)).trans (f8 (by simpa using h)), fun h => (getD_put_ne (by decide)).trans (f9 (by simpa using h)), fun h => (getD_put_ne (by decide)).trans (f10 (by simpa using h)), u, (wsAqW_same _ _ _ _ _ _ _ _ _  rfl hW)⟩
    · obtain rfl : oAqW4 pp = o := Option.some.inj ho
      have q3 : a'.tmps.getD 42 undef = .pointer (some ⟨R, 1, none⟩) := f3 (edge_ofF (o := oAqW4 pp) hpre 3 rfl)
      have nL : L 10 = false := not_yetF hcl 30 (show reachB (opsAqW pp) 30 10 4 = true by kernel_rfl) hLi
      exact step_load rfl rfl rfl q3 (by rw [hW.1 nL]; exact run_ldS1 _ _ _ cR1) ⟨frm' 43 _ rfl, fun h => (getD_put_ne (by decide)).trans (f0 (by simpa using h)), fun h => (getD_put_ne (by decide)).trans (f1 (by simpa using h)), fun h => (getD_put_ne (by decide)).trans (f2 (by simpa using h)), fun h => (getD_put_ne (by decide)).trans (f3 (by simpa using h)), fun _ => getD_put_same (by rw [hsz]; omega), fun h => (getD_put_ne (by decide)).trans (f5 (by simpa using h)), fun h => (getD_put_ne (by decide)).trans (f6 (by simpa using h)), fun h => (getD_put_ne (by decide)).trans (f7 (by simpa using h)), fun h => (getD_put_ne (by decide)).trans (f8 (by simpa using h)), fun h => (getD_put_ne (by decide)).trans (f9 (by simpa using h)), fun h => (getD_put_ne (by decide)).trans (f10 (by simpa using h)), u, (wsAqW_same _ _ _ _ _ _ _ _ _  rfl hW)⟩
    · obtain rfl : oAqW5 pp = o := Option.some.inj ho
      have nL : L 10 = false := not_yetF hcl 30 (show reachB (opsAqW pp) 30 10 5 = true by kernel_rfl) hLi
      exact step_fieldF rfl rfl rfl (hF.at 3 rfl h3) (run_fdM0 _ _) ⟨frm' 44 _ rfl, fun h => (getD_put_ne (by decide)).trans (f0 (by simpa using h)), fun h => (getD_put_ne (by decide)).trans (f1 (by simpa using h)), fun h => (getD_put_ne (by decide)).trans (f2 (by simpa using h)), fun h => (getD_put_ne (by decide)).trans (f3 (by simpa using h)), fun h => (getD_put_ne (by decide)).trans (f4 (by simpa using h)), fun _ => getD_put_same (by rw [hsz]; omega), fun h => (getD_put_ne (by decide)).trans (f6 (by simpa using h)), fun h => (getD_put_ne (by decide)).trans (f7 (by simpa using h)), fun h => (getD_put_ne (by decide)).trans (f8 (by simpa using h)), fun h => (getD_put_ne (by decide)).trans (f9 (by simpa using h)), fun h => (getD_put_ne (by decide)).trans (f10 (by simpa using h)), u, (wsAqW_same _ _ _ _ _ _ _ _ _  rfl hW)⟩
    · obtain rfl : oAqW6 pp = o := Option.some.inj ho
      have q5 : a'.tmps.getD 44 undef = .pointer (some ⟨p, 0, none⟩) := f5 (edge_ofF (o := oAqW6 pp) hpre 5 rfl)
      have nL : L 10 = false := not_yetF hcl 30 (show reachB (opsAqW pp) 30 10 6 = true by kernel_rfl) hLi
      exact step_load rfl rfl rfl q5 (by rw [hW.1 nL]; exact run_ld32 _ _ _ cp0) ⟨frm' 45 _ rfl, fun h => (getD_put_ne (by decide)).trans (f0 (by simpa using h)), fun h => (getD_put_ne (by decide)).trans (f1 (by simpa using h)), fun h => (getD_put_ne (by decide)).trans (f2 (by simpa using h)), fun h => (getD_put_ne (by decide)).trans (f3 (by simpa using h)), fun h => (getD_put_ne (by decide)).trans (f4 (by simpa using h)), fun h => (getD_put_ne (by decide)).trans (f5 (by simpa using h)), fun _ => getD_put_same (by rw [hsz]; omega), fun h => (getD_put_ne (by decide)).trans (f7 (by simpa using h)), fun h => (getD_put_ne (by decide)).trans (f8 (by simpa using h)), fun h => (getD_put_ne (by decide)).trans (f9 (by simpa using h)), fun h => (getD_put_ne (by decide)).trans (f10 (by simpa using h)), u, (wsAqW_same _ _ _ _ _ _ _ _ _  rfl hW)⟩
    · obtain rfl : oAqW7 pp = o := Option.some.inj ho
      have nL : L 10 = false := not_yetF hcl 30 (show reachB (opsAqW pp) 30 10 7 = true by kernel_rfl) hLi
      exact step_fieldF rfl rfl rfl (hF.at 3 rfl h3) (run_fdM1 _ _) ⟨frm' 46 _ rfl, fun h => (getD_put_ne (by decide)).trans (f0 (by simpa using h)), fun h => (getD_put_ne (by decide)).trans (f1 (by simpa using h)), fun h => (getD_put_ne (by decide)).trans (f2 (by simpa using h)), fun h => (getD_put_ne (by decide)).trans (f3 (by simpa using h)), fun h => (getD_put_ne (by decide)).trans (f4 (by simpa using h)), fun h => (getD_put_ne (by decide)).trans (f5 (by simpa using h)), fun h => (getD_put_ne (by decide)).trans (f6 (by simpa using h)), fun _ => getD_put_same (by rw [hsz]; omega), fun h => (getD_put_ne (by decide)).trans (f8 (by simpa using h)), fun h => (getD_put_ne (by decide)).trans (f9 (by simpa using h)), fun h => (getD_put_ne (by decide)).trans (f10 (by simpa using h)), u, (wsAqW_same _ _ _ _ _ _ _ _ _  rfl hW)⟩
    · obtain rfl : oAqW8 pp = o := Option.some.inj ho
      have q7 : a'.tmps.getD 46 undef = .pointer (some ⟨p, 1, none⟩) := f7 (edge_ofF (o := oAqW8 pp) hpre 7 rfl)
      have nL : L 10 = false := not_yetF hcl 30 (show reachB (opsAqW pp) 30 10 8 = true by kernel_rfl) hLi
      exact step_load rfl rfl rfl q7 (by rw [hW.1 nL]; exact run_ld32 _ _ _ cp1) ⟨frm' 47 _ rfl, fun h => (getD_put_ne (by decide)).trans (f0 (by simpa using h)), fun h => (getD_put_ne (by decide)).trans (f1 (by simpa using h)), fun h => (getD_put_ne (by decide)).trans (f2 (by simpa using h)), fun h => (getD_put_ne (by decide)).trans (f3 (by simpa using h)), fun h => (getD_put_ne (by decide)).trans (f4 (by simpa using h)), fun h => (getD_put_ne (by decide)).trans (f5 (by simpa using h)), fun h => (getD_put_ne (by decide)).trans (f6 (by simpa using h)), fun h => (getD_put_ne (by decide)).trans (f7 (by simpa using h)), fun _ => getD_put_same (by rw [hsz]; omega), fun h => (getD_put_ne (by decide)).trans (f9 (by simpa using h)), fun h => (getD_put_ne (by decide)).trans (f10 (by simpa using h)), u, (wsAqW_same _ _ _ _ _ _ _ _ _  rfl hW)⟩
    · obtain rfl : oAqW9 pp = o := Option.some.inj ho
      have nL : L 10 = false := not_yetF hcl 30 (show reachB (opsAqW pp) 30 10 9 = true by kernel_rfl) hLi
      exact step_load rfl rfl rfl (hF.at 6 rfl h6) (by rw [hW.1 nL]; exact run_ldRep _ _ _ _ hx) ⟨frm' 48 _ rfl, fun h => (getD_put_ne (by decide)).trans (f0 (by simpa using h)), fun h => (getD_put_ne (by decide)).trans (f1 (by simpa using h)), fun h => (getD_put_ne (by decide)).trans (f2 (by simpa using h)), fun h => (getD_put_ne (by decide)).trans (f3 (by simpa using h)), fun h => (getD_put_ne (by decide)).trans (f4 (by simpa using h)), fun h => (getD_put_ne (by decide)).trans (f5 (by simpa using h)), fun h => (getD_put_ne (by decide)).trans (f6 (by simpa using h)), fun h => (getD_put_ne (by decide)).trans (f7 (by simpa using h)), fun h => (getD_put_ne (by decide)).trans (f8 (by simpa using h)), fun _ => getD_put_same (by rw [hsz]; omega), fun h => (getD_put_ne (by decide)).trans (f10 (by simpa using h)), u, (wsAqW_same _ _ _ _ _ _ _ _ _  rfl hW)⟩
    · obtain rfl : oAqW10 pp = o := Option.some.inj ho
      have q4 : a'.tmps.getD 43 undef = .pointer (some ⟨Rs, 0, none⟩) := f4 (edge_ofF (o := oAqW10 pp) hpre 4 rfl)
      have q6 : a'.tmps.getD 45 undef = .int .u32 (cl : Int) := f6 (edge_ofF (o := oAqW10 pp) hpre 6 rfl)
      have q8 : a'.tmps.getD 47 undef = .int .u32 (sq : Int) := f8 (edge_ofF (o := oAqW10 pp) hpre 8 rfl)
      have q9 : a'.tmps.getD 48 undef = .agg #[.int .u8 (cd : Int), .string tx] := f9 (edge_ofF (o := oAqW10 pp) hpre 9 rfl)
      refine step_callD rfl rfl rfl (enters_of Tryz.func23 (by kernel_rfl) rfl) (show Array.map a'.eval #[.tmp 43, .tmp 45, .tmp 47, .tmp 48] = _ from by simp only [List.map_toArray, List.map_cons, List.map_nil, Act.eval, q4, q6, q8, q9]) ((hW.1 hLi ▸ hC).mono ?_)
      rintro e w'' ⟨rfl, hI1⟩
      have hW2 : wsAqW I R p x Rs cl sq cd tx w.drew (fun j => L j || j == 10) u w'' := by
        refine ⟨fun h => ?_, fun _ => hI1⟩
        simp at h
      exact ⟨_, rfl, ⟨frm' 49 _ rfl, fun h => (getD_put_ne (by decide)).trans (f0 (by simpa using h)), fun h => (getD_put_ne (by decide)).trans (f1 (by simpa using h)), fun h => (getD_put_ne (by decide)).trans (f2 (by simpa using h)), fun h => (getD_put_ne (by decide)).trans (f3 (by simpa using h)), fun h => (getD_put_ne (by decide)).trans (f4 (by simpa using h)), fun h => (getD_put_ne (by decide)).trans (f5 (by simpa using h)), fun h => (getD_put_ne (by decide)).trans (f6 (by simpa using h)), fun h => (getD_put_ne (by decide)).trans (f7 (by simpa using h)), fun h => (getD_put_ne (by decide)).trans (f8 (by simpa using h)), fun h => (getD_put_ne (by decide)).trans (f9 (by simpa using h)), fun _ => getD_put_same (by rw [hsz]; omega), u, hW2⟩⟩
    · exact absurd ((Array.getElem?_eq_some_iff.1 ho).1) (by simp [opsAqW])
  · intro L a' w' hv hall
    have hL : ∀ j, j < 11 → L j = true := fun j hj => hall j (by simpa [opsAqW] using hj)
    obtain ⟨hF, f0, f1, f2, f3, f4, f5, f6, f7, f8, f9, f10, u, hW⟩ := hv
    have hW2 : wsAqW I R p x Rs cl sq cd tx w.drew (fun _ => true) u w' := by
      unfold wsAqW at hW ⊢
      simp only [hL 10 (by omega)] at hW ⊢
      exact hW
    have hput : a' = puts [(39, .pointer (some ⟨R, 0, none⟩)), (40, .pointer (some ⟨R, 0, none⟩)), (41, .pointer (some ⟨R, 0, none⟩)), (42, .pointer (some ⟨R, 1, none⟩)), (43, .pointer (some ⟨Rs, 0, none⟩)), (44, .pointer (some ⟨p, 0, none⟩)), (45, .int .u32 (cl : Int)), (46, .pointer (some ⟨p, 1, none⟩)), (47, .int .u32 (sq : Int)), (48, .agg #[.int .u8 (cd : Int), .string tx]), (49, .tuple #[])] a := hF.puts _ (by
      intro z hz
      simp only [List.mem_cons, List.not_mem_nil, or_false] at hz
      rcases hz with rfl | rfl | rfl | rfl | rfl | rfl | rfl | rfl | rfl | rfl | rfl
      · exact f0 (hL 0 (by omega))
      · exact f1 (hL 1 (by omega))
      · exact f2 (hL 2 (by omega))
      · exact f3 (hL 3 (by omega))
      · exact f4 (hL 4 (by omega))
      · exact f5 (hL 5 (by omega))
      · exact f6 (hL 6 (by omega))
      · exact f7 (hL 7 (by omega))
      · exact f8 (hL 8 (by omega))
      · exact f9 (hL 9 (by omega))
      · exact f10 (hL 10 (by omega))) rfl (by rw [hN]; rfl)
    rw [hput]
    exact hQ u w' hW2
end Go.Proofs.YthmmbopibpdpiaaGreatDoor

-- AqD
namespace Go.Proofs.YthmmbopibpdpiaaGreatDoor
open Go.RowKit Go.Maps

theorem join_len {l : List PV} (hl : LimP l) (ks : List ByteArray) : (joinP l ks).length ≤ ks.length * 1001 := by
  unfold joinP
  induction ks with
  | nil => simp
  | cons k ks ih =>
    have h1 : ((lookP l k).elim ([] : List UInt8) fun v => v.data.toList).length ≤ 1000 := by
      cases hk : lookP l k with
      | none => simp
      | some v => have := (hl.each _ (lookP_mem hk)).2; simpa using this
    simp only [List.flatMap_cons, List.length_append, List.length_cons, List.length_nil]
    omega
/-- A reply's text is short. -/
theorem rep_len {l : List PV} (hl : LimP l) (m : CM) (hk : m.ks.length ≤ 100) : (doP l m).2.2.size ≤ 200000 := by
  have h0 : (⟨#[]⟩ : ByteArray).size ≤ 200000 := by decide
  have hlk : ∀ {k v}, lookP l k = some v → v.size ≤ 200000 := fun h => by have := (hl.each _ (lookP_mem h)).2; simp only at this; omega
  unfold doP
  split
  · exact h0
  split
  · exact h0
  split
  · split
    · exact h0
    · rename_i v hv; exact hlk hv
  split
  · split
    · exact h0
    · rename_i v hv; exact hlk hv
  split
  · unfold addP
    cases hs : sumP l (keyP m.ks 0) m.n with
    | none => exact h0
    | some s =>
      have hr : -9223372036854775808 ≤ s ∧ s ≤ 9223372036854775807 := by
        unfold sumP at hs
        split at hs
        · cases hs
        · split at hs
          · cases hs; assumption
          · cases hs
      have := decI_len hr.1 hr.2
      show (str (decI s)).size ≤ 200000
      rw [str_size]; omega
  split
  · split
    · exact h0
    · split
      · exact h0
      · exact h0
  split
  · exact h0
  split
  · show (str (joinP l m.ks)).size ≤ 200000
    rw [str_size]
    have := join_len hl m.ks
    omega
  · have h1 := restP_len l m.ks
    have h2 := hl.len
    have := decI_len (n := (l.length : Int) - (restP l m.ks).length) (by omega) (by omega)
    show (str (decI ((l.length : Int) - (restP l m.ks).length))).size ≤ 200000
    rw [str_size]; omega
/-- Ahead of Do's calls: the command's block p, the reply's q; behind Look: the block x of what it told. -/
structure DoA1 (w W : World) (R Rk Rs n p q : Nat) (Fb : Nat → Prop) (ps : List PV) (ss : List SE) (cs : Array Value) : Prop where
  below : Below w.heap.size w W
  both : BothA Fb W Rk ps Rs ss
  old : ∀ k, Fb k → k < w.heap.size
  app : W.heap[R]? = some (.cells #[.pointer (some ⟨Rk, 0, none⟩), .pointer (some ⟨Rs, 0, none⟩), .int .u64 (n : Int)] 53 (0, 0))
  lt : R < w.heap.size
  no : ¬ Fb R
  cmd : W.heap[p]? = some (.cells cs 34 (0, 0))
  rep : RepB W q 0 ⟨#[]⟩
  ps : p = w.heap.size ∧ q = p + 1
section
variable {w W W' : World} {R Rk Rs n p q : Nat} {Fb : Nat → Prop} {ps : List PV} {ss : List SE} {cs : Array Value}
theorem DoA1.start {W0 : World} (h1 : w.heap[R]? = some (.cells #[.pointer (some ⟨Rk, 0, none⟩), .pointer (some ⟨Rs, 0, none⟩), .int .u64 (n : Int)] 53 (0, 0))) (h2 : BothA Fb w Rk ps Rs ss) (h3 : ¬ Fb R) (e0 : W0 = w.alloc (.cells cs 34)) (e1 : W = W0.alloc (.cells #[.int .u8 0, .string ⟨#[]⟩] 36)) : DoA1 w W R Rk Rs n w.heap.size (w.heap.size + 1) Fb ps ss cs := by
  obtain ⟨a1, a2, a3⟩ := box_new e0
  obtain ⟨b1, b2, b3⟩ := box_new e1
  have hb := a1.trans (Below.mono b1 a1.size)
  have hlt := (Array.getElem?_eq_some_iff.1 h1).1
  exact ⟨hb, h2.below hb, h2.lt, (hb.block R hlt).trans h1, hlt, h3, (b1.block _ (by omega)).trans a2, by rw [← a3]; exact b2, ⟨rfl, rfl⟩⟩
theorem DoA1.grew (h : DoA1 w W R Rk Rs n p q Fb ps ss cs) (hb : Below W.heap.size W W') : DoA1 w W' R Rk Rs n p q Fb ps ss cs :=
  ⟨h.below.trans (Below.mono hb h.below.size), h.both.below hb, h.old, (hb.block R (Array.getElem?_eq_some_iff.1 h.app).1).trans h.app, h.lt, h.no, (hb.block p (Array.getElem?_eq_some_iff.1 h.cmd).1).trans h.cmd, (hb.block q h.rep.lt).trans h.rep, h.ps⟩
/-- A block that stands behind the start is none of the state's and the table's. -/
theorem DoA1.new (h : DoA1 w W R Rk Rs n p q Fb ps ss cs) {k : Nat} (hk : w.heap.size ≤ k) : ¬ Fb k := fun hf => by have := h.old k hf; omega
end
/-- Behind the state's Do. -/
structure DoA3 (w W2 W : World) (R Rk Rs n p q x : Nat) (Fb F' : Nat → Prop) (ps : List PV) (ss : List SE) (cs : Array Value) (cd : Nat) (tx : ByteArray) : Prop where
  only : Only Fb w W
  both : BothA F' W Rk ps Rs ss
  sub : ∀ k, F' k → Fb k ∨ W2.heap.size ≤ k
  app : W.heap[R]? = some (.cells #[.pointer (some ⟨Rk, 0, none⟩), .pointer (some ⟨Rs, 0, none⟩), .int .u64 (n : Int)] 53 (0, 0))
  cmd : W.heap[p]? = some (.cells cs 34 (0, 0))
  rep : RepB W q 0 ⟨#[]⟩
  at_ : RepB W x cd tx
  no : ¬ F' R ∧ ¬ F' p ∧ ¬ F' q ∧ ¬ F' x
  ne : x ≠ R ∧ x ≠ p ∧ x ≠ q
section
variable {w W2 W W' : World} {R Rk Rs n p q x : Nat} {Fb F' : Nat → Prop} {ps ps' : List PV} {ss ss' : List SE} {cs : Array Value} {cd : Nat} {tx : ByteArray}
theorem DoA3.start (h : DoA1 w W2 R Rk Rs n p q Fb ps ss cs) (hx : RepB W2 x cd tx) (hxw : q < x) (hb : BothA F' W Rk ps' Rs ss) (ho : Only Fb W2 W) (hs : ∀ k, F' k → Fb k ∨ W2.heap.size ≤ k) : DoA3 w W2 W R Rk Rs n p q x Fb F' ps' ss cs cd tx := by
  obtain ⟨e1, e2⟩ := h.ps
  have hlt := h.lt
  have hpl := (Array.getElem?_eq_some_iff.1 h.cmd).1
  have hql := h.rep.lt
  have hxl := hx.lt
  have hR2 := (Array.getElem?_eq_some_iff.1 h.app).1
  have np : ¬ Fb p := h.new (by omega)
  have nq : ¬ Fb q := h.new (by omega)
  have nx : ¬ Fb x := h.new (by omega)
  have no : ∀ k, ¬ Fb k → k < W2.heap.size → ¬ F' k := fun k h1 h2 hf => by
    rcases hs k hf with e | e
    · exact h1 e
    · omega
  exact ⟨(Only.of_grew h.below).trans ho (fun k hk => .inl hk), hb, hs, (ho.block R hR2 h.no).trans h.app, (ho.block p hpl np).trans h.cmd, (ho.block q hql nq).trans h.rep, (ho.block x hxl nx).trans hx, ⟨no R h.no hR2, no p np hpl, no q nq hql, no x nx hxl⟩, by omega, by omega, by omega⟩
theorem DoA3.set (h : DoA3 w W2 W R Rk Rs n p q x Fb F' ps ss cs cd tx) (hxw : w.heap.size ≤ x) (d : Nat) (u : ByteArray) : DoA3 w W2 ((W.setCell ⟨x, 0, none⟩ (.int .u8 (d : Int))).setCell ⟨x, 1, none⟩ (.string u)) R Rk Rs n p q x Fb F' ps ss cs d u := by
  have k1 : ∀ {b : Nat} {o : Obj}, W.heap[b]? = some o → x ≠ b → ((W.setCell ⟨x, 0, none⟩ (.int .u8 (d : Int))).setCell ⟨x, 1, none⟩ (.string u)).heap[b]? = some o := fun hb hn => (Below.heap_setCell _ _ _ _ (Ne.symm hn)).trans ((Below.heap_setCell _ _ _ _ (Ne.symm hn)).trans hb)
  refine ⟨(h.only.setCell (p := ⟨x, 0, none⟩) (.inr hxw) _).setCell (p := ⟨x, 1, none⟩) (.inr hxw) _, h.both.keep (((Only.refl (fun k => k = x) W).setCell (p := ⟨x, 0, none⟩) (.inl rfl) _).setCell (p := ⟨x, 1, none⟩) (.inl rfl) _) (fun k hk e => h.no.2.2.2 (e ▸ hk)), h.sub, k1 h.app h.ne.1, k1 h.cmd h.ne.2.1, k1 h.rep h.ne.2.2, h.at_.set d u, h.no, h.ne⟩
/-- Behind the table's Keep, the count and the reply: the application is as it is to be. -/
theorem DoA3.fin {F F4 : Nat → Prop} {W4 W6 : World} (h : DoA3 w W2 W R Rk Rs n p q x Fb F' ps ss cs cd tx) (hF : ∀ k, F k ↔ (Fb k ∨ k = R)) (hR : R < w.heap.size) (hw2 : w.heap.size ≤ W2.heap.size) (hp : w.heap.size ≤ q) (hqR : q ≠ R)
    (hb : BothA F4 W4 Rk ps Rs ss') (ho : Only F' W W4) (hs : ∀ k, F4 k → F' k ∨ W.heap.size ≤ k) (hn : n + 1 < 18446744073709551616) (e6 : W6 = ((W4.setCell ⟨R, 2, none⟩ (.int .u64 ((n + 1 : Nat) : Int))).setCell ⟨q, 0, none⟩ (.int .u8 (cd : Int))).setCell ⟨q, 1, none⟩ (.string tx)) :
    RepB W6 q cd tx ∧ ∃ F6, AppQ F6 W6 R ⟨ps, ss', n + 1⟩ ∧ Only F w W6 ∧ ∀ k, F6 k → F k ∨ w.heap.size ≤ k := by
  have hRW := (Array.getElem?_eq_some_iff.1 h.app).1
  have hqW := h.rep.lt
  have hws : w.heap.size ≤ W.heap.size := h.only.size
  have kR := (ho.block R hRW h.no.1).trans h.app
  have kq : RepB W4 q 0 ⟨#[]⟩ := (ho.block q hqW h.no.2.2.1).trans h.rep
  have n4R : ¬ F4 R := fun hf => by
    rcases hs R hf with e | e
    · exact h.no.1 e
    · omega
  have n4q : ¬ F4 q := fun hf => by
    rcases hs q hf with e | e
    · exact h.no.2.2.1 e
    · omega
  have hsub : ∀ k, F' k → F k ∨ w.heap.size ≤ k := fun k hk => by
    rcases h.sub k hk with e | e
    · exact .inl ((hF k).2 (.inl e))
    · exact .inr (Nat.le_trans hw2 e)
  have ho4 : Only F w W4 := (h.only.mono (fun k _ hk => (hF k).2 (.inl hk))).trans ho hsub
  subst e6
  have q1 : ((W4.setCell ⟨R, 2, none⟩ (.int .u64 ((n + 1 : Nat) : Int)))).heap[q]? = some (.cells #[.int .u8 ((0 : Nat) : Int), .string ⟨#[]⟩] 36 (0, 0)) := (Below.heap_setCell _ _ _ _ hqR).trans kq
  have r1 := blk_set kR 2 (.int .u64 ((n + 1 : Nat) : Int))
  refine ⟨blk_set (blk_set q1 0 _) 1 _, fun k => F4 k ∨ k = R, ⟨⟨Rk, Rs, F4, (Below.heap_setCell _ _ _ _ (Ne.symm hqR)).trans ((Below.heap_setCell _ _ _ _ (Ne.symm hqR)).trans r1), hb.keep ((((Only.refl (fun k => k = R ∨ k = q) W4).setCell (p := ⟨R, 2, none⟩) (.inl (.inl rfl)) _).setCell (p := ⟨q, 0, none⟩) (.inl (.inr rfl)) _).setCell (p := ⟨q, 1, none⟩) (.inl (.inr rfl)) _) (fun k hk e => ?_), n4R, fun _ => Iff.rfl⟩, hn⟩, ((ho4.setCell (p := ⟨R, 2, none⟩) (.inl ((hF R).2 (.inr rfl))) _).setCell (p := ⟨q, 0, none⟩) (.inr hp) _).setCell (p := ⟨q, 1, none⟩) (.inr hp) _, fun k hk => ?_⟩
  · rcases e with e | e
    · exact n4R (e ▸ hk)
    · exact n4q (e ▸ hk)
  · rcases hk with e | rfl
    · rcases hs k e with e2 | e2
      · exact hsub k e2
      · exact .inr (Nat.le_trans hws e2)
    · exact .inl ((hF k).2 (.inr rfl))
end
end Go.Proofs.YthmmbopibpdpiaaGreatDoor

-- AqE
namespace Go.Proofs.YthmmbopibpdpiaaGreatDoor
open Go.RowKit Go.Maps

theorem tell_code (l : List SE) (c s : Nat) : (tellS l c s).2 = 0 ∨ (tellS l c s).2 = 1 ∨ (tellS l c s).2 = 2 := by
  unfold tellS
  split
  · exact .inl rfl
  · split
    · exact .inl rfl
    · split
      · exact .inr (.inl rfl)
      · exact .inr (.inr rfl)
set_option maxRecDepth 100000 in
set_option maxHeartbeats 4000000 in
theorem ado_any {F : Nat → Prop} {w : World} {R : Nat} {a : AM} (v : CmdV) (h : AppQ F w R a) (hT : TabK w) (hl : LimA a) (hv : v.ok w) (hg : v.ks.length ≤ 100) : Calls Tryz.prog 8 #[.pointer (some ⟨R, 0, none⟩), v.val] w fun e W' => e = .returned (.tuple #[ReplyV (doA a v.m).2.1, .bool (doA a v.m).2.2]) ∧ ∃ F', AppQ F' W' R (doA a v.m).1 ∧ Only F w W' ∧ ∀ k, F' k → F k ∨ w.heap.size ≤ k := by
  obtain ⟨Rk, Rs, Fb, h1, h2, h3, h4⟩ := h.ex
  obtain ⟨W0, hW0⟩ : ∃ W0, W0 = w.alloc (Obj.cells v.cells 34) := ⟨_, rfl⟩
  obtain ⟨W1, hW1⟩ : ∃ W1, W1 = W0.alloc (Obj.cells #[.int .u8 0, .string ⟨#[]⟩] 36) := ⟨_, rfl⟩
  have D1 := DoA1.start h1 h2 h3 hW0 hW1
  obtain ⟨p, hp⟩ : ∃ p, p = w.heap.size := ⟨_, rfl⟩
  obtain ⟨q, hq⟩ : ∃ q, q = p + 1 := ⟨_, rfl⟩
  rw [← hp, ← hq] at D1
  have HA := Lib.hid (And.intro h (And.intro hT (And.intro hl (And.intro hv hg))))
  have HV0 : Hid (v.m = v.m) := Lib.hid rfl
  have HF := Lib.hid h4
  have H1 := Lib.hid D1
  have hcl := hv.cl
  have hsq := hv.sq
  obtain ⟨vv, hvv⟩ : ∃ vv, vv = v := ⟨_, rfl⟩
  rw [← hvv] at HA H1 ⊢
  have HVV := Lib.hid hvv
  obtain ⟨acl, asq, akd, A, L, c, ks, old, new, n⟩ := v
  have hcells : vv.cells = #[.int .u32 (acl : Int), .int .u32 (asq : Int), .int .u8 (akd : Int), .slice A L c, .string old, .string new, .int .i64 n] := by rw [hvv]; rfl
  have hval : vv.val = .agg #[.int .u32 (acl : Int), .int .u32 (asq : Int), .int .u8 (akd : Int), .slice A L c, .string old, .string new, .int .i64 n] := by rw [hvv]; rfl
  have hmc : vv.m.cl = acl ∧ vv.m.sq = asq := by rw [hvv]; exact ⟨rfl, rfl⟩
  have HM := Lib.hid hmc
  have z0 : W1.cell? ⟨p, 0, none⟩ = some (.int .u32 (acl : Int)) := by have := blk_cell D1.cmd 0; simpa [CmdV.cells] using this
  have z1 : W1.cell? ⟨p, 1, none⟩ = some (.int .u32 (asq : Int)) := by have := blk_cell D1.cmd 1; simpa [CmdV.cells] using this
  have y0 : W1.cell? ⟨q, 0, none⟩ = some (.int .u8 0) := by simpa using blk_cell D1.rep 0
  have y1 : W1.cell? ⟨q, 1, none⟩ = some (.string ⟨#[]⟩) := by simpa using blk_cell D1.rep 1
  have u0 := blk_frozen D1.rep 0
  have u1 := blk_frozen D1.rep 1
  have HCL := Lib.hid (And.intro hcl hsq)
  simp only [CmdV.cells] at hW0
  rw [hval]
  have HCE := Lib.hid hcells
  clear h h1 h2 h3 h4 hT hl hv hg hcells hmc D1 hcl hsq hval hvv
  go_enter Tryz.func8, Tryz.ntmps8
  go_upto_region 1 with (fail)
  rw [← hW0, ← hW1, ← hp, ← hq]
  clear hW0 hW1 hp hq
  by_cases h0 : acl = 0
  · subst h0
    go_wp2
    obtain ⟨W9, hW9⟩ : ∃ W9, W9 = (W1.setCell ⟨q, 0, none⟩ (.int .u8 2)).setCell ⟨q, 1, none⟩ (.string ⟨#[]⟩) := ⟨_, rfl⟩
    rw [← hW9]
    have hD := H1.out
    have hqw : w.heap.size ≤ q := by have := hD.ps; omega
    have k9 : RepB W9 q 2 ⟨#[]⟩ := by rw [hW9]; exact hD.rep.set 2 ⟨#[]⟩
    have b9 : Below w.heap.size w W9 := by rw [hW9]; exact (hD.below.setCell (p := ⟨q, 0, none⟩) hqw _).setCell (p := ⟨q, 1, none⟩) hqw _
    have d0 : W9.cell? ⟨q, 0, none⟩ = some (.int .u8 2) := by simpa using blk_cell k9 0
    have d1 : W9.cell? ⟨q, 1, none⟩ = some (.string ⟨#[]⟩) := by simpa using blk_cell k9 1
    have e : doA a vv.m = (a, (2, ⟨#[]⟩), false) := by unfold doA; rw [if_pos HM.out.1]
    rw [e]
    exact bodyPost_ret (v := .tuple #[ReplyV (2, ⟨#[]⟩), .bool false]) (by simp [results, Tryz.results8, go_sem, d0, d1, ReplyV]) rfl ⟨rfl, _, HA.out.1.keep (Only.of_grew (F := fun _ => False) b9) (fun _ _ => id), Only.of_grew b9, fun k hk => .inl hk⟩
  · have h0b : ((acl : Int) == 0) = false := by simpa using h0
    have H0 := Lib.hid h0
    clear h0
    go_upto_region 3 with (fail)
    obtain ⟨k, hk⟩ : ∃ k, k = (tellS a.ss acl asq).2 := ⟨_, rfl⟩
    obtain ⟨⟨cd, tx⟩, hr⟩ : ∃ r, r = (tellS a.ss acl asq).1 := ⟨_, rfl⟩
    have cR1 : W1.cell? ⟨R, 1, none⟩ = some (.pointer (some ⟨Rs, 0, none⟩)) := by simpa using blk_cell H1.out.app 1
    have HLK := Lib.hid (fun w' (hgr : Grew W1 w') => by
      have := (H1.out.both.below hgr).look acl asq HCL.out.1 HCL.out.2
      rw [← hk, ← hr] at this
      exact this)
    have HK := Lib.hid (And.intro hk hr)
    clear hk hr
    refine ado_look R p Rs acl asq cd k tx _ W1 _ rfl rfl rfl (Array.getElem?_eq_some_iff.1 H1.out.app).1 (Array.getElem?_eq_some_iff.1 H1.out.cmd).1 cR1 z0 z1 HLK.out ⟨Below.refl _ _, fun h => by cases h⟩ ?_
    intro u W2 hws
    obtain ⟨b2, hx⟩ := hws
    obtain ⟨x, rfl, hx1, hx2⟩ := hx rfl
    simp only [if_true] at hx2
    have D2 := H1.out.grew (Grew.undraw b2)
    have hqx : q < x := Nat.lt_of_lt_of_le H1.out.rep.lt hx1
    have H2 := Lib.hid (And.intro D2 (And.intro hx2 hqx))
    clear b2 hx1 HLK cR1 z0 z1 y0 y1 u0 u1
    simp only [puts, List.foldl_cons, List.foldl_nil, Act.put, List.setIfInBounds_toArray, List.set_cons_succ, List.set_cons_zero]
    by_cases hk0 : k = 0
    · subst hk0
      clear D2 hx2 hqx
      go_upto_region 6 with (fail)
      obtain ⟨⟨ps', cd', tx'⟩, hd⟩ : ∃ r, r = doP a.ps vv.m := ⟨_, rfl⟩
      obtain ⟨ss', hss⟩ : ∃ l, l = keepS a.ss acl asq cd' tx' := ⟨_, rfl⟩
      have hbd : Below W2.heap.size W2 W2.drew := (Below.refl _ _).drew
      have hb2d : Below w.heap.size w W2.drew := H2.out.1.below.trans (Below.mono hbd H2.out.1.below.size)
      have cR0 : W2.cell? ⟨R, 0, none⟩ = some (.pointer (some ⟨Rk, 0, none⟩)) := by simpa using blk_cell H2.out.1.app 0
      have hC := (H2.out.1.both.below hbd).do_ (HA.out.2.1.grew hb2d) HA.out.2.2.1.p vv (HA.out.2.2.2.1.below hb2d)
      rw [← hd] at hC
      have HC := Lib.hid (hC.mono (R' := fun e W' => e = .returned (.agg #[.int .u8 (cd' : Int), .string tx']) ∧ ∃ F', BothA F' W' Rk ps' Rs a.ss ∧ Only Fb W2 W' ∧ ∀ k, F' k → Fb k ∨ W2.heap.size ≤ k) (fun e W' ⟨he, F', k1, k2, k3⟩ => ⟨he, F', k1, (Only.of_grew hbd).trans k2 (fun x hx => .inl hx), k3⟩))
      have HD := Lib.hid (And.intro hd hss)
      clear hd hss hC hbd hb2d
      refine ado_do (fun W' => ∃ F', BothA F' W' Rk ps' Rs a.ss ∧ Only Fb W2 W' ∧ ∀ k, F' k → Fb k ∨ W2.heap.size ≤ k) R p x Rk cd' cd tx' tx vv _ W2 _ rfl rfl rfl rfl cR0 (fun i u h => by have e := blk_cell H2.out.1.cmd i; exact e.trans h) HC.out (fun W' ⟨F', _, k2, _⟩ => (k2.block x H2.out.2.1.lt (H2.out.1.new (by have := H2.out.1.ps; have := H2.out.2.2; omega))).trans H2.out.2.1) ⟨fun _ => rfl, fun h => by cases h⟩ ?_
      intro u W3 hws
      obtain ⟨_, hx⟩ := hws
      obtain ⟨W3a, ⟨F3, hb3, ho3, hs3⟩, hW3⟩ := hx rfl
      simp only [if_true] at hW3
      have hxw : w.heap.size ≤ x := by have := H2.out.1.ps; have := H2.out.2.2; omega
      have D3 := (DoA3.start H2.out.1 H2.out.2.1 H2.out.2.2 hb3 ho3 hs3).set hxw cd' tx'
      rw [← hW3] at D3
      clear hx hW3 hb3 ho3 hs3 cR0 HC
      simp only [puts, List.foldl_cons, List.foldl_nil, Act.put, List.setIfInBounds_toArray, List.set_cons_succ, List.set_cons_zero]
      go_upto_region 7 with (fail)
      have cR1 : W3.cell? ⟨R, 1, none⟩ = some (.pointer (some ⟨Rs, 0, none⟩)) := by simpa using blk_cell D3.app 1
      have z0 : W3.cell? ⟨p, 0, none⟩ = some (.int .u32 (acl : Int)) := by have e := blk_cell D3.cmd 0; rw [HCE.out] at e; simpa using e
      have z1 : W3.cell? ⟨p, 1, none⟩ = some (.int .u32 (asq : Int)) := by have e := blk_cell D3.cmd 1; rw [HCE.out] at e; simpa using e
      have hbd : Below W3.heap.size W3 W3.drew := (Below.refl _ _).drew
      have htx : tx'.size ≤ maxLen := by
        have h1 := rep_len HA.out.2.2.1.p vv.m HA.out.2.2.2.2
        rw [← HD.out.1] at h1
        exact Nat.le_trans h1 (by decide)
      have hC := (D3.both.below hbd).keeps acl asq cd' tx' (by have := HA.out.2.2.1.s.len; omega) HCL.out.1 HCL.out.2 htx
      rw [← HD.out.2] at hC
      have HC := Lib.hid (hC.mono (R' := fun e W' => e = .returned (.tuple #[]) ∧ ∃ F4, BothA F4 W' Rk ps' Rs ss' ∧ Only F3 W3 W' ∧ ∀ k, F4 k → F3 k ∨ W3.heap.size ≤ k) (fun e W' ⟨he, F', k1, k2, k3⟩ => ⟨he, F', k1, (Only.of_grew hbd).trans k2 (fun x hx => .inl hx), k3⟩))
      have H3 := Lib.hid D3
      clear D3 hC hbd htx
      refine ado_keep (fun W' => ∃ F4, BothA F4 W' Rk ps' Rs ss' ∧ Only F3 W3 W' ∧ ∀ k, F4 k → F3 k ∨ W3.heap.size ≤ k) R p x Rs acl asq cd' tx' _ W3 _ rfl rfl rfl rfl cR1 z0 z1 H3.out.at_ HC.out ⟨fun _ => rfl, fun h => by cases h⟩ ?_
      intro u W4 hws
      obtain ⟨F4, hb4, ho4, hs4⟩ := hws.2 rfl
      have kR := (ho4.block R (Array.getElem?_eq_some_iff.1 H3.out.app).1 H3.out.no.1).trans H3.out.app
      have kq : RepB W4 q 0 ⟨#[]⟩ := (ho4.block q H3.out.rep.lt H3.out.no.2.2.1).trans H3.out.rep
      have kx : RepB W4 x cd' tx' := (ho4.block x H3.out.at_.lt H3.out.no.2.2.2).trans H3.out.at_
      have H4 := Lib.hid (And.intro hb4 (And.intro ho4 hs4))
      clear hws hb4 ho4 hs4 cR1 z0 z1 HC
      simp only [puts, List.foldl_cons, List.foldl_nil, Act.put, List.setIfInBounds_toArray, List.set_cons_succ, List.set_cons_zero]
      obtain ⟨n1, hn1⟩ : ∃ n1, n1 = a.n + 1 := ⟨_, rfl⟩
      have hnl : n1 < 18446744073709551616 := by have := HA.out.2.2.1.n; omega
      have hwr : IntKind.u64.wrap ((a.n : Int) + 1) = (n1 : Int) := by
        rw [IntKind.wrap_u64]
        omega
      have c2 : W4.cell? ⟨R, 2, none⟩ = some (.int .u64 (a.n : Int)) := by simpa using blk_cell kR 2
      have f2 := blk_frozen kR 2
      have HN := Lib.hid (And.intro hn1 hnl)
      have HR4 := Lib.hid (And.intro kR (And.intro kq kx))
      clear hn1 hnl kR kq kx
      go_upto_region 9 with (fail)
      obtain ⟨W5, hW5⟩ : ∃ W5, W5 = W4.setCell ⟨R, 2, none⟩ (.int .u64 (n1 : Int)) := ⟨_, rfl⟩
      rw [← hW5]
      have hqw : w.heap.size ≤ q := by have := H2.out.1.ps; omega
      have hqR : q ≠ R := by have := H2.out.1.lt; omega
      have kq : RepB W5 q 0 ⟨#[]⟩ := by rw [hW5]; exact (Below.heap_setCell _ _ _ _ hqR).trans HR4.out.2.1
      have kx : RepB W5 x cd' tx' := by rw [hW5]; exact (Below.heap_setCell _ _ _ _ H3.out.ne.1).trans HR4.out.2.2
      have e0 : W5.cell? ⟨x, 0, none⟩ = some (.int .u8 (cd' : Int)) := by simpa using blk_cell kx 0
      have e1 : W5.cell? ⟨x, 1, none⟩ = some (.string tx') := by simpa using blk_cell kx 1
      have y0 : W5.cell? ⟨q, 0, none⟩ = some (.int .u8 0) := by simpa using blk_cell kq 0
      have y1 : W5.cell? ⟨q, 1, none⟩ = some (.string ⟨#[]⟩) := by simpa using blk_cell kq 1
      have u0 := blk_frozen kq 0
      have u1 := blk_frozen kq 1
      have H5 := Lib.hid (And.intro hW5 (And.intro hqw hqR))
      clear hW5 kq kx hqw hqR hwr c2 f2 hxw
      go_wp2
      obtain ⟨W6, hW6⟩ : ∃ W6, W6 = (W5.setCell ⟨q, 0, none⟩ (.int .u8 (cd' : Int))).setCell ⟨q, 1, none⟩ (.string tx') := ⟨_, rfl⟩
      rw [← hW6]
      have e6 : W6 = ((W4.setCell ⟨R, 2, none⟩ (.int .u64 ((a.n + 1 : Nat) : Int))).setCell ⟨q, 0, none⟩ (.int .u8 (cd' : Int))).setCell ⟨q, 1, none⟩ (.string tx') := by rw [hW6, H5.out.1, HN.out.1]
      have hfin := H3.out.fin HF.out H2.out.1.lt H2.out.1.below.size H5.out.2.1 H5.out.2.2 H4.out.1 H4.out.2.1 H4.out.2.2 (by have := HN.out; omega) e6
      obtain ⟨k6, F6, g1, g2, g3⟩ := hfin
      have d0 : W6.cell? ⟨q, 0, none⟩ = some (.int .u8 (cd' : Int)) := by simpa using blk_cell k6 0
      have d1 : W6.cell? ⟨q, 1, none⟩ = some (.string tx') := by simpa using blk_cell k6 1
      have e : doA a vv.m = (⟨ps', ss', a.n + 1⟩, (cd', tx'), true) := by
        unfold doA
        rw [HM.out.1, HM.out.2, if_neg H0.out, if_pos HK.out.1.symm, ← HD.out.1, HD.out.2]
      rw [e]
      exact bodyPost_ret (v := .tuple #[ReplyV (cd', tx'), .bool true]) (by simp [results, Tryz.results8, go_sem, d0, d1, ReplyV]) rfl ⟨rfl, F6, g1, g2, g3⟩
    · have e0 : W2.cell? ⟨x, 0, none⟩ = some (.int .u8 (cd : Int)) := by simpa using blk_cell hx2 0
      have e1 : W2.cell? ⟨x, 1, none⟩ = some (.string tx) := by simpa using blk_cell hx2 1
      have y0 : W2.cell? ⟨q, 0, none⟩ = some (.int .u8 0) := by simpa using blk_cell D2.rep 0
      have y1 : W2.cell? ⟨q, 1, none⟩ = some (.string ⟨#[]⟩) := by simpa using blk_cell D2.rep 1
      have u0 := blk_frozen D2.rep 0
      have u1 := blk_frozen D2.rep 1
      have hkn : ¬ (k : Int) = 0 := by omega
      have hkb : ((k : Int) == 0) = false := by simpa using hkn
      have hkc : ((k : Int) != 0) = true := by simp; omega
      have HK0 := Lib.hid hk0
      clear D2 hx2 hqx hk0
      go_wp2
      obtain ⟨W9, hW9⟩ : ∃ W9, W9 = (W2.setCell ⟨q, 0, none⟩ (.int .u8 (cd : Int))).setCell ⟨q, 1, none⟩ (.string tx) := ⟨_, rfl⟩
      rw [← hW9]
      have hD := H2.out.1
      have hqw : w.heap.size ≤ q := by have := hD.ps; omega
      have k9 : RepB W9 q cd tx := by rw [hW9]; exact hD.rep.set cd tx
      have b9 : Below w.heap.size w W9 := by rw [hW9]; exact (hD.below.setCell (p := ⟨q, 0, none⟩) hqw _).setCell (p := ⟨q, 1, none⟩) hqw _
      have d0 : W9.cell? ⟨q, 0, none⟩ = some (.int .u8 (cd : Int)) := by simpa using blk_cell k9 0
      have d1 : W9.cell? ⟨q, 1, none⟩ = some (.string tx) := by simpa using blk_cell k9 1
      have e : doA a vv.m = (a, (cd, tx), false) := by
        unfold doA
        rw [HM.out.1, HM.out.2, if_neg H0.out, if_neg (by rw [← HK.out.1]; exact HK0.out), ← HK.out.2]
      rw [e]
      exact bodyPost_ret (v := .tuple #[ReplyV (cd, tx), .bool false]) (by simp [results, Tryz.results8, go_sem, d0, d1, ReplyV]) rfl ⟨rfl, _, HA.out.1.keep (Only.of_grew (F := fun _ => False) b9) (fun _ _ => id), Only.of_grew b9, fun k hk => .inl hk⟩
end Go.Proofs.YthmmbopibpdpiaaGreatDoor

-- AqL
namespace Go.Proofs.YthmmbopibpdpiaaGreatDoor
open Go.RowKit Go.Maps

def lApp : AppK TabK where
  grew := TabK.grew
  Pl := AppQ
  keep := AppQ.keep
  lt := AppQ.lt
  new := fun w _ => anew_any w
  do_ := fun v h hT hl hv hg => ado_any v h hT hl hv (by unfold CmdV.great at hg; omega)
  count := fun h => acount_any h
  bytes := fun h _ hl hlp hls => abytes_any h hl hlp hls
  of := fun A L c bs w _ hL hL3 hA => aof_any A L c bs w hL hL3 hA
end Go.Proofs.YthmmbopibpdpiaaGreatDoor
