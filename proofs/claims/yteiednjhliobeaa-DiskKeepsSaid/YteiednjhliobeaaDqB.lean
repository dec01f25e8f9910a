/- The program's put, burn, and Append's closure on a disk. -/
import Derived.Test.YteiednjhliobeaaDqA
import Derived.Test.YteiednjhliobeaaAppAt
namespace Go.Proofs.Yteiednjhliobeaa
open Go.RowKit

section
variable {w w' : World} {R c : Nat} {A : Option Addr} {s : DS}
theorem own_mine {n : Nat} (h : DQ w R A c s) {x : Nat} (hx : (Value.slice A n c).ownBlock = some x) : FD R A x := by
  rcases h.adr with ⟨rfl, _⟩ | ⟨g, rfl⟩
  · simp [Value.ownBlock] at hx
  · simp [Value.ownBlock] at hx
    exact .inr ⟨g, rfl, hx.symm⟩
/-- Bytes behind. -/
theorem DQ.appended (h : DQ w R A c s) (x : List UInt8) (n : Nat) (hn : n = s.A.length) (m : Nat) (hm : m = x.length) (hl : n + m ≤ 1000000000) {W1 : World} {A1 : Option Addr} {c1 : Nat} (ho : W1.ownsRow 0 5 1 (.slice A1 (n + m) c1) (n + m) ((s.A ++ x).map enc))
    (hg : w.grownBy W1 (Value.slice A n c).ownBlock) (hat : (Value.slice A1 (n + m) c1).ownBlock = (Value.slice A n c).ownBlock ∨ (Value.slice A1 (n + m) c1).ownBlock = some w.heap.size) :
    DQ (W1.setCell ⟨R, 0, none⟩ (.slice A1 (n + m) c1)) R A1 c1 { s with A := s.A ++ x } ∧ Only (FD R A) w (W1.setCell ⟨R, 0, none⟩ (.slice A1 (n + m) c1)) ∧ ∀ k, FD R A1 k → FD R A k ∨ w.heap.size ≤ k := by
  have hlen : (s.A ++ x).length = n + m := by rw [List.length_append, hn, hm]
  have ho1 : Only (FD R A) w W1 := Only.of_grown hg (fun k hk => own_mine h hk)
  have hb : W1.heap[R]? = _ := (hg.block R (Array.getElem?_eq_some_iff.1 h.blk).1 (fun e => h.ne (x := R) (by
    rcases h.adr with ⟨rfl, _⟩ | ⟨g, rfl⟩
    · simp [Value.ownBlock] at e
    · simpa [Value.ownBlock] using e.symm) rfl)).trans h.blk
  have hne : ∀ k, (Value.slice A1 (n + m) c1).ownBlock = some k → k ≠ R := by
    intro k hk
    obtain ⟨cur, hc⟩ := ownd_blk ho hk
    exact blkd_ne hc hb (by decide)
  refine ⟨⟨?_, ?_, ?_, ?_, h.fu⟩, ho1.setCell (.inl (.inl rfl)) _, ?_⟩
  · rw [blk_set hb, ← hlen]; rfl
  · show (W1.setCell _ _).ownsRow 0 5 1 (.slice A1 (s.A ++ x).length c1) (s.A ++ x).length ((s.A ++ x).map enc)
    rw [hlen]
    exact ownd_keep ho (fun k hk => Below.heap_setCell _ _ _ _ (hne k hk))
  · show s.y ≤ (s.A ++ x).length
    have := h.sy; rw [hlen]; omega
  · show (s.A ++ x).length ≤ _
    rw [hlen]; exact hl
  · rintro k (rfl | ⟨g, rfl, rfl⟩)
    · exact .inl (.inl rfl)
    · rcases hat with e | e
      · exact .inl (own_mine h (n := n) (x := k) (by rw [← e]; rfl))
      · simp [Value.ownBlock] at e
        exact .inr (by omega)
end

set_option maxHeartbeats 2000000 in
theorem l_put {w : World} {R c : Nat} {A : Option Addr} {s : DS} (h : DQ w R A c s) (Ax : Option Addr) (Lx cx : Nat) (x : List UInt8) (hL : Lx = x.length) (hl : s.A.length + x.length ≤ 1000000000) (hA : HasA w w.heap.size Ax x) :
    Calls Try.prog 21 #[.pointer (some ⟨R, 0, none⟩), .slice Ax Lx cx] w fun e w' => e = .returned (.tuple #[]) ∧ ∃ A' c', DQ w' R A' c' { s with A := s.A ++ x } ∧ Only (FD R A) w w' ∧ ∀ k, FD R A' k → FD R A k ∨ w.heap.size ≤ k := by
  obtain ⟨n, hn⟩ : ∃ n, n = s.A.length := ⟨_, rfl⟩
  have f0 := blk_cell h.blk 0
  simp at f0
  have hown := h.own
  have hnm : n + Lx ≤ 1000000000 := by omega
  rw [← hn] at f0 hown
  obtain ⟨i0, hi, hz0, hz1, hz2⟩ := info_parts info5
  have HO := Lib.hid hown
  have HL := Lib.hid h
  have HN := Lib.hid hn
  have HX := Lib.hid hL
  have HA := Lib.hid hA
  clear h hn hL hl hA hown
  go_enter Try.func21, Try.ntmps21
  go_wp2_with (
    at_builtin
    refine wpList_append_hasAt rfl (.tmp 8) (.tmp 9) 27 rfl 0 5 i0 Try.underlying27 hi hz0 hz1 hz2 (.slice A n c) n s.A rfl HO.out w.heap.size Ax Lx cx x rfl HX.out HA.out (by omega) (Nat.zero_le _) ?_
    intro v1 W1 hown1 hg1 hat1
    obtain ⟨A1, c1, rfl⟩ := own_form hown1
    have hq := HL.out.appended x n HN.out Lx HX.out hnm hown1 hg1 hat1
    have hb1 : W1.heap[R]? = _ := (hg1.block R (Array.getElem?_eq_some_iff.1 HL.out.blk).1 (fun e => HL.out.ne (x := R) (by
      rcases HL.out.adr with ⟨rfl, _⟩ | ⟨g, rfl⟩
      · simp [Value.ownBlock] at e
      · simpa [Value.ownBlock] using e.symm) rfl)).trans HL.out.blk
    have g0 := blk_cell hb1 0
    simp at g0
    have z0 := blk_frozen hb1 0
    have HQ := Lib.hid hq
    clear hq hb1 hown1 hg1 hat1)
  exact bodyPost_end (results_none rfl _ _ _) rfl ⟨rfl, _, _, HQ.out⟩

/-- What Append comes to where there is power, ahead of the closure's end. -/
def Burnt (s : DS) (x : List UInt8) : DS × Nat := match s.f with
  | none => ({ s with A := s.A ++ x }, 0)
  | some f => if f < x.length then (⟨s.A ++ x.take f, s.y, true, none⟩, 21) else ({ s with A := s.A ++ x, f := some (f - x.length) }, 0)

theorem en_put : ∀ args w, (callFunc 21 args).run Try.prog w = .ok (.enter 21 args) w := enters_of Try.func21 (by kernel_rfl) rfl

set_option maxHeartbeats 4000000 in
theorem l_burn {w : World} {R c : Nat} {A : Option Addr} {s : DS} (h : DQ w R A c s) (Ax : Option Addr) (Lx cx : Nat) (x : List UInt8) (hL : Lx = x.length) (hl : s.A.length + x.length ≤ 1000000000) (hA : HasA w w.heap.size Ax x) (hc : Lx ≤ cx) :
    Calls Try.prog 20 #[.pointer (some ⟨R, 0, none⟩), .slice Ax Lx cx, .func (.func 21) #[.pointer (some ⟨R, 0, none⟩)] #[]] w fun e w' => e = .returned (.int .i64 ((Burnt s x).2 : Int)) ∧ ∃ A' c', DQ w' R A' c' (Burnt s x).1 ∧ Only (FD R A) w w' ∧ ∀ k, FD R A' k → FD R A k ∨ w.heap.size ≤ k := by
  have f3 := blk_cell h.blk 3
  have f4 := blk_cell h.blk 4
  simp at f3 f4
  have hLx : Lx ≤ 1000000000 := by omega
  have HL := Lib.hid h
  have HX := Lib.hid hL
  have HLE := Lib.hid hl
  have HA := Lib.hid hA
  have HFU := Lib.hid h.fu
  have en := en_put
  clear h hL hl hA
  cases hf : s.f with
  | none =>
    rw [hf] at f3 f4
    simp at f3 f4
    have HR := Lib.hid (show Burnt s x = ({ s with A := s.A ++ x }, 0) by simp [Burnt, hf])
    clear hf
    go_enter Try.func20, Try.ntmps20
    go_wp2_with fail
    refine (l_put HL.out Ax Lx cx x HX.out HLE.out HA.out).mono ?_
    rintro e W1 ⟨rfl, A1, c1, hq⟩
    have HQ := Lib.hid hq
    clear hq
    go_wp2
    go_ret
    exact ⟨by rw [HR.out]; rfl, A1, c1, by rw [HR.out]; exact HQ.out⟩
  | some f =>
    rw [hf] at f3 f4
    simp at f3 f4
    have HF := Lib.hid hf
    have hf63 : (f : Int) ≤ 9223372036854775807 := by have := HFU.out; rw [hf] at this; simp at this; omega
    clear hf
    by_cases hlt : f < Lx
    · have hlti : (f : Int) < Lx := by omega
      have hfc : (f : Int) ≤ cx := by omega
      have HR := Lib.hid (show Burnt s x = (⟨s.A ++ x.take f, s.y, true, none⟩, 21) by simp [Burnt, HF.out, ← HX.out, hlt])
      have hrun := fun w' => run_uptoD w' Ax Lx cx f (by omega) (by omega)
      go_enter Try.func20, Try.ntmps20
      go_wp2_with fail
      refine (l_put HL.out Ax f cx (x.take f) (by rw [List.length_take, ← HX.out]; omega) (by rw [List.length_take]; have := HLE.out; omega) (HA.out.take f)).mono ?_
      rintro e W1 ⟨rfl, A1, c1, hq1, ho1, hs1⟩
      have HQ1 := Lib.hid hq1
      have O1 := Lib.hid (And.intro ho1 hs1)
      clear hq1 ho1 hs1
      go_wp2_with fail
      refine (l_fail HQ1.out).mono ?_
      rintro e W2 ⟨rfl, hq2, ho2⟩
      have HQ2 := Lib.hid (And.intro hq2 (O1.out.1.trans ho2 (fun k hk => .inl (.inl hk))))
      clear hq2 ho2
      go_wp2
      go_ret
      exact ⟨by rw [HR.out]; rfl, A1, c1, by rw [HR.out]; exact HQ2.out.1, HQ2.out.2, O1.out.2⟩
    · have hlti : ¬ (f : Int) < Lx := by omega
      obtain ⟨r, hr⟩ : ∃ r, r = f - Lx := ⟨_, rfl⟩
      have hri : (f : Int) - Lx = (r : Int) := by omega
      have hrm : r ≤ 9223372036854775807 := by omega
      have HR := Lib.hid (show Burnt s x = ({ s with A := s.A ++ x, f := some r }, 0) by simp [Burnt, HF.out, ← HX.out, hlt, hr])
      clear hr
      go_enter Try.func20, Try.ntmps20
      go_wp2_with fail
      refine (l_put HL.out Ax Lx cx x HX.out HLE.out HA.out).mono ?_
      rintro e W1 ⟨rfl, A1, c1, hq1, ho1, hs1⟩
      have g4 := blk_cell hq1.blk 4
      simp [HF.out] at g4
      have z4 := blk_frozen hq1.blk 4
      have HQ1 := Lib.hid hq1
      have O1 := Lib.hid (And.intro ho1 hs1)
      clear hq1 ho1 hs1
      go_wp2
      have hq2 : DQ (W1.setCell ⟨R, 4, none⟩ (.int .i64 (r : Int))) R A1 c1 { s with A := s.A ++ x, f := some r } ∧ Only (FD R A) w (W1.setCell ⟨R, 4, none⟩ (.int .i64 (r : Int))) := by
        have ho := (Only.refl (fun k => k = R) W1).setCell (p := ⟨R, 4, none⟩) (.inl rfl) (.int .i64 (r : Int))
        exact ⟨HQ1.out.moved { s with A := s.A ++ x, f := some r } ((blk_set HQ1.out.blk 4 _).trans (by simp [HF.out])) rfl HQ1.out.sy hrm ho, O1.out.1.trans ho (fun k hk => .inl (.inl hk))⟩
      go_ret
      exact ⟨by rw [HR.out]; rfl, A1, c1, by rw [HR.out]; exact hq2.1, hq2.2, O1.out.2⟩

set_option maxHeartbeats 2000000 in
theorem l_Append1 {w : World} {R c : Nat} {A : Option Addr} {s : DS} (h : DQ w R A c s) (D B : Nat) (Ax : Option Addr) (Lx cx : Nat) (x : List UInt8) (hL : Lx = x.length) (hl : s.A.length + x.length ≤ 1000000000) (hA : HasA w w.heap.size Ax x) (hc : Lx ≤ cx)
    (hD : w.heap[D]? = some (.cells #[.pointer (some ⟨R, 0, none⟩)] 25 (0, 0))) (hB : w.heap[B]? = some (.cells #[.slice Ax Lx cx] 27 (0, 0))) :
    Calls Try.prog 19 #[.pointer (some ⟨D, 0, none⟩), .pointer (some ⟨B, 0, none⟩)] w fun e w' => e = .returned (.int .i64 ((Burnt s x).2 : Int)) ∧ ∃ A' c', DQ w' R A' c' (Burnt s x).1 ∧ Only (FD R A) w w' ∧ ∀ k, FD R A' k → FD R A k ∨ w.heap.size ≤ k := by
  have p0 := blk_cell hD 0
  have b0 := blk_cell hB 0
  simp at p0 b0
  have HL := Lib.hid (l_burn h Ax Lx cx x hL hl hA hc)
  clear h hL hl hA hc hD hB
  go_enter Try.func19, Try.ntmps19
  go_wp2_with fail
  refine HL.out.mono ?_
  rintro e W1 ⟨rfl, A1, c1, hq⟩
  have HQ := Lib.hid hq
  clear hq
  go_wp2
  go_ret
  exact ⟨rfl, A1, c1, HQ.out⟩
end Go.Proofs.Yteiednjhliobeaa
