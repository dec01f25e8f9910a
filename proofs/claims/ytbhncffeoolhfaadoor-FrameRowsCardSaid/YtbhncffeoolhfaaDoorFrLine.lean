/- The walk of the law FrameRows. -/
import Derived.Test.YtbhncffeoolhfaaDoorFrFrom
import Derived.LoopTactic
import Derived.RegionTactic
import Derived.BigRegion
import Derived.Deep.DeepCutAuto
import Derived.Deep.CutBlock
namespace Go.Proofs.YtbhncffeoolhfaaDoor
open Go.RowKit

theorem infoI : (Tryd.prog.info? 3).map (fun i => (i.zero, i.size, i.bytes)) = some (some (.int .i64 0), 1, 8) := by kernel_rfl
theorem infoI_parts : ∃ i, Tryd.prog.info? 3 = some i ∧ i.zero = some (.int .i64 0) ∧ i.size = 1 ∧ i.bytes = 8 := by
  obtain ⟨i, hi, h⟩ := Option.map_eq_some_iff.1 infoI
  simp only [Prod.mk.injEq] at h
  exact ⟨i, hi, h.1, h.2.1, h.2.2⟩

theorem xor8f (c : UInt8) (r : Nat) (hr : r < 8) : Value.int .u8 (bits .xor .u8 (c.toNat : Int) (2 ^ r % 256)) = enc (c ^^^ UInt8.ofNat (2 ^ r)) := by
  have h1 : (2 : Nat) ^ r < 256 := Nat.lt_of_le_of_lt (Nat.pow_le_pow_right (by omega) (show r ≤ 7 by omega)) (by decide)
  have e : ((2 : Int) ^ r % 256) = ((2 ^ r : Nat) : Int) := by
    have : ((2 : Int) ^ r) = ((2 ^ r : Nat) : Int) := by push_cast; rfl
    rw [this]; exact Int.emod_eq_of_lt (Int.natCast_nonneg _) (Int.ofNat_lt.2 h1)
  rw [e, u8_xor_nat _ _ (by have := c.toNat_lt; omega) h1]
  unfold enc
  rw [UInt8.toNat_xor]
  congr 3
  simp [Nat.mod_eq_of_lt h1]

/-- Rows of bytes that came in. -/
def InBB (w : World) (A : Option Addr) (ls : List (List UInt8)) : Prop := ls ≠ [] → ∃ b o, A = some ⟨b, o, none⟩ ∧ b < w.heap.size ∧
  ∀ i (h : i < ls.length), ∃ A' L' c', w.cell? ⟨b, o + i, none⟩ = some (.slice A' L' c') ∧ L' = (ls[i]).length ∧ L' ≤ c' ∧ HasA w w.heap.size A' ls[i]
theorem InBB.below {w w' : World} {A : Option Addr} {ls : List (List UInt8)} (h : InBB w A ls) (hb : Below w.heap.size w w') : InBB w' A ls := fun hn => by
  obtain ⟨b, o, hA, hlt, hc⟩ := h hn
  refine ⟨b, o, hA, Nat.lt_of_lt_of_le hlt hb.size, fun i hi => ?_⟩
  obtain ⟨A', L', c', h1, h2, h3, h4⟩ := hc i hi
  exact ⟨A', L', c', (hb.cell (p := ⟨b, o + i, none⟩) hlt).trans h1, h2, h3, h4.below' hb⟩

/-- The ends of the first k frames. -/
def ends (ls : List (List UInt8)) (k : Nat) : List Value := (List.range k).map fun j => .int .i64 ((frms (ls.take (j + 1))).length : Int)
theorem ends_length (ls : List (List UInt8)) (k : Nat) : (ends ls k).length = k := by simp [ends]
theorem ends_succ (ls : List (List UInt8)) (k : Nat) : ends ls (k + 1) = ends ls k ++ [.int .i64 ((frms (ls.take (k + 1))).length : Int)] := by
  simp [ends, List.range_succ]
theorem ends_at (ls : List (List UInt8)) (k j : Nat) (h : j < k) : (ends ls k)[j]? = some (.int .i64 ((frms (ls.take (j + 1))).length : Int)) := by
  simp [ends, h]
/-- Rows that the law looks at. -/
def Fine (ls : List (List UInt8)) : Prop := ∀ x ∈ ls, 1 ≤ x.length ∧ x.length ≤ 200
theorem Fine.fit {ls : List (List UInt8)} (h : Fine ls) : ∀ x ∈ ls, Fit x := fun x hx => ⟨(h x hx).1, by have := (h x hx).2; omega⟩
theorem Fine.take_succ {ls : List (List UInt8)} {k : Nat} (h : Fine (ls.take k)) (hk : k < ls.length) (h1 : 1 ≤ (ls[k]).length) (h2 : (ls[k]).length ≤ 200) : Fine (ls.take (k + 1)) := by
  rw [List.take_succ_eq_append_getElem hk]
  intro x hx
  rcases List.mem_append.1 hx with h' | h'
  · exact h x h'
  · rw [List.mem_singleton.1 h']; exact ⟨h1, h2⟩
theorem frms_len : ∀ (ls : List (List UInt8)), Fine ls → (frms ls).length ≤ 214 * ls.length
  | [], _ => by simp [frms_nil]
  | x :: ls, h => by
    have h1 := frms_len ls (fun y hy => h y (by simp [hy]))
    have h2 := (h x (by simp)).2
    have h3 := vb_len10 (n := x.length) (by omega)
    rw [frms_cons, List.length_append, frm_length, List.length_cons]
    omega
theorem frms_take_succ (ls : List (List UInt8)) (k : Nat) (hk : k < ls.length) : frms (ls.take (k + 1)) = frms (ls.take k) ++ frm ls[k] := by
  rw [List.take_succ_eq_append_getElem hk, frms_append]; simp [frms]

/-- What the first loop keeps. -/
def FR (w : World) (ls : List (List UInt8)) (k : Nat) (vb ve : Value) (W : World) : Prop :=
  ∃ A c L, vb = .slice A L c ∧ W.ownsRow w.heap.size 5 1 vb L ((frms (ls.take k)).map enc) ∧ W.ownsRow w.heap.size 3 1 ve k (ends ls k) ∧ Fine (ls.take k) ∧ Below w.heap.size w W

set_option maxRecDepth 100000 in
set_option maxHeartbeats 8000000 in
theorem FRows_any (hP : PutSpec) (hK : TakeSpec) (hAl : AllSpec) (A0 : Option Addr) (n0 c0 : Nat) (ls : List (List UInt8)) (hn0 : n0 = ls.length) (hnm : n0 ≤ maxLen) (cut turn_ : Nat) (hcut : cut < 65536) (hturn : turn_ < 65536) (w : World) (hT : Tab w) (hA0 : InBB w A0 ls) :
    Calls Tryd.prog 5 #[.slice A0 n0 c0, .int .u16 (cut : Int), .int .u16 (turn_ : Int)] w fun e W' => e = .returned (.bool true) ∧ Below w.heap.size w W' := by
  obtain ⟨iI, hi, hz0, hz1, hz2⟩ := infoI_parts
  unfold maxLen at hnm
  have HT := Lib.hid hT
  have HP := Lib.hid hP
  have HK := Lib.hid hK
  have HAl := Lib.hid hAl
  have HN0 := Lib.hid hn0
  have HA0 := Lib.hid hA0
  clear hn0 hT hP hK hAl hA0
  go_enter Tryd.func5, Tryd.ntmps5
  go_wp2
  go_loopw [7, 8, 9] (fun vb ve i wr => ∃ k : Nat, k ≤ 20 ∧ k ≤ n0 ∧ i = .int .i64 (k : Int) ∧ Hid (FR w ls k vb ve wr)) (fun _ _ i _ => 20 - (intOf i).toNat)
  case atStart =>
    exact ⟨0, by omega, by omega, rfl, Lib.hid ⟨none, 0, 0, rfl, World.ownsRow_nil _ _ _ _, World.ownsRow_nil _ _ _ _, fun x hx => by simp at hx, Below.refl _ _⟩⟩
  case round =>
    obtain ⟨k, hk20, hkn, rfl, hfr⟩ := hrel
    obtain ⟨Ab, cb, Lb, rfl, hob, hoe, hfine, hB⟩ := hfr.out
    have HOB := Lib.hid hob
    have HOE := Lib.hid hoe
    have HF := Lib.hid hfine
    have B1 := Lib.hid hB
    have hLb : Lb ≤ 4280 := by
      have h1 := own_len hob
      have h2 := frms_len _ hfine
      rw [List.length_take] at h2
      omega
    clear hfr hob hoe hfine hB
    by_cases hlt : k < n0
    · have hki : (k : Int) < n0 := by omega
      have hkl : k < ls.length := by rw [← HN0.out]; exact hlt
      have hne : ls ≠ [] := by rintro rfl; simp at hkl
      obtain ⟨b0, o0, rfl, hb0, hc0⟩ := (HA0.out.below B1.out) hne
      obtain ⟨Ak, Lk, ck, hck, hLk, hlc, hAk⟩ := hc0 k hkl
      have HLk := Lib.hid hLk
      have HAk := Lib.hid hAk
      clear hc0 hLk hAk hne
      by_cases hL0 : Lk = 0
      · have hL0i : ((Lk : Int) == 0) = true := by simp; omega
        go_wp2_with (go_at_call 6; refine (wakes3 HP.out HK.out wr (HT.out.grew B1.out)).mono ?_; rintro e W2 ⟨rfl, hb2⟩)
        go_ret
        exact ⟨rfl, B1.out.trans (hb2.mono B1.out.size)⟩
      have hL0i : ((Lk : Int) == 0) = false := by simp; omega
      by_cases hL2 : 200 < Lk
      · have hL2i : (200 : Int) < Lk := by omega
        go_wp2_with (go_at_call 6; refine (wakes3 HP.out HK.out wr (HT.out.grew B1.out)).mono ?_; rintro e W2 ⟨rfl, hb2⟩)
        go_ret
        exact ⟨rfl, B1.out.trans (hb2.mono B1.out.size)⟩
      have hL2i : ¬ (200 : Int) < Lk := by omega
      by_cases hk2 : 20 ≤ k
      · have hk2i : (20 : Int) ≤ k := by omega
        go_wp2_with (go_at_call 6; refine (wakes3 HP.out HK.out wr (HT.out.grew B1.out)).mono ?_; rintro e W2 ⟨rfl, hb2⟩)
        go_ret
        exact ⟨rfl, B1.out.trans (hb2.mono B1.out.size)⟩
      have hk2i : ¬ (20 : Int) ≤ k := by omega
      have HFK := Lib.hid (show Fit ls[k] from ⟨by rw [← HLk.out]; omega, by rw [← HLk.out]; omega⟩)
      go_wp2_with fail
      refine (HP.out Ab Lb cb (frms (ls.take k)) Ak Lk ck ls[k] wr (own_len HOB.out) (by omega) (own_cap HOB.out) HLk.out (by omega) hlc (HT.out.grew B1.out) (HasA.of_own HOB.out) HAk.out).mono ?_
      rintro e W2 (⟨_, g2, L2, c2, rfl, hown2, hb2⟩ | ⟨h, _⟩)
      rotate_left
      · exact absurd HFK.out h
      rw [← frms_take_succ ls k hkl] at hown2
      have hfine2 := HF.out.take_succ hkl (by rw [← HLk.out]; omega) (by rw [← HLk.out]; omega)
      have hL2' : L2 ≤ 4494 := by
        have h1 := own_len hown2
        have h2 := frms_len _ hfine2
        rw [List.length_take] at h2
        omega
      have HF2 := Lib.hid hfine2
      have HL2' := Lib.hid (own_len hown2)
      have HO2 := Lib.hid (own_base (base' := w.heap.size) hown2 B1.out.size)
      have HOE2 := Lib.hid (own_below HOE.out hb2)
      have B2 := Lib.hid (B1.out.trans (hb2.mono B1.out.size))
      clear hown2 hb2 hfine2 HOB HOE HAk hck
      go_wp2_with (at_builtin; refine wpList_append_own _ rfl (.tmp 62) (.tmp 65) 35 rfl w.heap.size 3 iI (.int .i64 0) 1 8 Tryd.underlying35 hi hz0 hz1 hz2 rfl (by decide) _ k (ends ls k) rfl (HOE2.out.alloc _) ⟨W2.heap.size, 0, none⟩ 1 1 [.int .i64 (L2 : Int)] rfl rfl (cell_one_new _ _ _) (by simp [Value.oneCell']) (by simp only [maxLen]; omega) (by omega) (by have := B2.out.size; simp; omega) ?_; intro v3 W3 hown3 hg3 _)
      have hB3 : Below w.heap.size w W3 := (B2.out.alloc B2.out.size _).grown hg3 (by have := B2.out.size; simp; omega) (fun k e => (HOE2.out.lt k e).1)
      have hob3 := (HO2.out.alloc (.cells #[.int .i64 (L2 : Int)] 3)).kept hg3 (own_apart HO2.out HOE2.out (by decide))
      refine ⟨⟨k + 1, by omega, by omega, by congr 1, Lib.hid ⟨_, _, _, rfl, hob3, ?_, HF2.out, hB3⟩⟩, by simp only [intOf]; omega⟩
      rw [ends_succ, ← HL2'.out]
      exact hown3
    · obtain rfl : k = n0 := by omega
      have htk : ls.take k = ls := List.take_of_length_le (by rw [← HN0.out]; exact Nat.le_refl _)
      have hki : ¬ (k : Int) < k := by omega
      rw [htk] at HOB HF
      obtain ⟨Ae, ce, rfl⟩ := own_form HOE.out
      obtain ⟨N, hN⟩ : ∃ N : Nat, N = cut % (Lb + 1) := ⟨_, rfl⟩
      have hNL : N ≤ Lb := by rw [hN]; have := Nat.mod_lt cut (show Lb + 1 > 0 by omega); omega
      have hNi : ((cut : Int) % ((Lb : Int) + 1)) = (N : Int) := by rw [hN]; push_cast; rfl
      have HNI := Lib.hid hNi
      have HTK := Lib.hid htk
      have hLbi : (Lb : Int) ≤ 4280 := by omega
      clear hN hNi htk hlt
      go_upto_block 2 with (fail)
      rw [HNI.out]
      go_cut [13] (fun s13 wx => wr = wx ∧ ∃ q : Nat, q ≤ k ∧ Hid ((frms (ls.take q)).length ≤ N ∧ (q = ls.length ∨ N < (frms (ls.take (q + 1))).length)) ∧ s13 = .int .i64 (q : Int))
      case first =>
        go_wp2
        go_loop [13] (fun i => ∃ q : Nat, q ≤ k ∧ Hid ((frms (ls.take q)).length ≤ N) ∧ i = .int .i64 (q : Int)) (fun i => k - (intOf i).toNat)
        case atStart => exact ⟨0, Nat.zero_le _, Lib.hid (by simp [frms_nil]), rfl⟩
        case round =>
          obtain ⟨q, hqk, hqN, rfl⟩ := hrel
          by_cases hgo : q < k ∧ (frms (ls.take (q + 1))).length ≤ N
          · obtain ⟨hq1, hq2⟩ := hgo
            have hq1i : (q : Int) < k := by omega
            obtain ⟨E, hE⟩ : ∃ E, E = (frms (ls.take (q + 1))).length := ⟨_, rfl⟩
            obtain ⟨ge, ce', hve, _⟩ := HOE.out.form (by omega)
            cases hve
            have hce : wr.cell? ⟨ge, q, none⟩ = some (.int .i64 (E : Int)) := by
              rw [HOE.out.cellAt q (by omega), ends_at ls k q hq1, hE]
            have HE := Lib.hid hE
            rw [← hE] at hq2
            have hEi : (E : Int) ≤ N := by omega
            clear hE
            go_wp2
            exact ⟨⟨q + 1, by omega, Lib.hid (by rw [← HE.out]; exact hq2), by congr 1⟩, by simp only [intOf]; omega⟩
          · by_cases hq1 : q < k
            · have hq1i : (q : Int) < k := by omega
              obtain ⟨E, hE⟩ : ∃ E, E = (frms (ls.take (q + 1))).length := ⟨_, rfl⟩
              obtain ⟨ge, ce', hve, _⟩ := HOE.out.form (by omega)
              cases hve
              have hce : wr.cell? ⟨ge, q, none⟩ = some (.int .i64 (E : Int)) := by
                rw [HOE.out.cellAt q (by omega), ends_at ls k q hq1, hE]
              have hNE : N < E := by
                rw [hE]
                rcases Nat.lt_or_ge N (frms (ls.take (q + 1))).length with h | h
                · exact h
                · exact absurd ⟨hq1, h⟩ hgo
              have hEi : ¬ (E : Int) ≤ N := by omega
              have HE := Lib.hid hE
              clear hE hgo
              go_wp2
              go_meet
              exact ⟨rfl, q, hqk, Lib.hid ⟨hqN.out, .inr (by rw [← HE.out]; exact hNE)⟩, rfl⟩
            · have hq1i : ¬ (q : Int) < k := by omega
              have hqk' : q = ls.length := by rw [← HN0.out]; omega
              have HQK := Lib.hid hqk'
              clear hgo hqk'
              go_wp2
              go_meet
              exact ⟨rfl, q, hqk, Lib.hid ⟨hqN.out, .inl HQK.out⟩, rfl⟩
      case rest =>
        obtain ⟨rfl, q, hqk, hqN, rfl⟩ := hcut
        obtain ⟨hqN1, hqN2⟩ := hqN.out
        have HAC := Lib.hid (al_cut ls HF.out.fit N q (by have := own_len HOB.out; omega) (by rw [← HN0.out]; exact hqk) hqN1 hqN2)
        obtain ⟨F, hF⟩ : ∃ F, F = (frms (ls.take q)).length := ⟨_, rfl⟩
        rw [← hF] at HAC hqN1
        have HFF := Lib.hid hF
        have hFN : (F : Int) ≤ N := by omega
        have HNT := Lib.hid (show N = ((frms ls).take N).length by rw [List.length_take, ← own_len HOB.out]; omega)
        clear hqN hqN2 hF
        have hNc : N ≤ cb := by have := own_cap HOB.out; omega
        have hNci : (N : Int) ≤ cb := by omega
        go_upto_region 17 with fail
        go_wp2_with fail
        refine (HAl.out Ab N cb ((frms ls).take N) wr HNT.out (by omega) hNc (HT.out.grew B1.out) ((HasA.of_own HOB.out).take N)).mono ?_
        rintro e W4 ⟨v4, rfl, ⟨A4, L4, c4, rfl, hL4, hI4⟩, hb4⟩
        rw [HAC.out] at hL4 hI4
        rw [HAC.out]
        obtain rfl : q = L4 := by rw [hL4]; simp only [List.length_take]; rw [← HN0.out]; omega
        obtain ⟨er, her⟩ : ∃ er : Nat, er = if F = N then 0 else 10 := ⟨_, rfl⟩
        dsimp only
        rw [← her]
        have HER := Lib.hid her
        have HI4 := Lib.hid (show IsBB W4 (.slice A4 q c4) (ls.take q) from ⟨A4, q, c4, rfl, hL4, hI4⟩)
        have HOB4 := Lib.hid (own_below HOB.out hb4)
        have HOE4 := Lib.hid (own_below HOE.out hb4)
        have B4 := Lib.hid (B1.out.trans (hb4.mono B1.out.size))
        clear hL4 hI4 hb4 her HOB HOE B1 HAC HNT
        go_upto_region 18 with (fail)
        go_cut [17] (fun s17 wx => W4 = wx ∧ s17 = .bool (decide (F = N)))
        case first =>
          by_cases hq : q = 0
          · have hF0 : F = 0 := by rw [HFF.out, hq]; simp [frms_nil]
            have hq0 : ((q : Int) == 0) = true := by simp; omega
            have hq0' : ¬ (0 : Int) < (q : Int) := by omega
            by_cases hN0 : N = 0
            · have hN0i : ((N : Int) == 0) = true := by simp; omega
              have HD := Lib.hid (show decide (F = N) = true by simp; omega)
              clear hF0 hN0 hq
              go_wp2
              go_meet
              exact ⟨rfl, by rw [HD.out]⟩
            · have hN0i : ((N : Int) == 0) = false := by simp; omega
              have HD := Lib.hid (show decide (F = N) = false by simp; omega)
              clear hF0 hN0 hq
              go_wp2
              go_meet
              exact ⟨rfl, by rw [HD.out]⟩
          · have hq0 : ((q : Int) == 0) = false := by simp; omega
            have hq0' : (0 : Int) < (q : Int) := by omega
            obtain ⟨ge, ce', hve, _⟩ := HOE4.out.form (by omega)
            cases hve
            obtain ⟨q', hq'⟩ : ∃ q', q = q' + 1 := ⟨q - 1, by omega⟩
            have hce : W4.cell? ⟨ge, q', none⟩ = some (.int .i64 (F : Int)) := by
              rw [HOE4.out.cellAt q' (by omega), ends_at ls k q' (by omega), HFF.out, hq']
            have hq1 : (q : Int) - 1 = (q' : Int) := by omega
            have hq2 : (q' : Int) < k := by omega
            clear hq' hq
            by_cases hFN' : F = N
            · have hdF : ((F : Int) == (N : Int)) = true := by simp; omega
              have HD := Lib.hid (show decide (F = N) = true by simpa using hFN')
              clear hFN'
              go_wp2
              go_meet
              exact ⟨rfl, by rw [HD.out]⟩
            · have hdF : ((F : Int) == (N : Int)) = false := by simp; omega
              have HD := Lib.hid (show decide (F = N) = false by simpa using hFN')
              clear hFN'
              go_wp2
              go_meet
              exact ⟨rfl, by rw [HD.out]⟩
        case rest =>
          obtain ⟨rfl, rfl⟩ := hcut
          go_upto_region 19 with (fail)
          go_cut [17, 152] (fun _ s152 wx => W4 = wx ∧ s152 = .bool false)
          case first =>
            by_cases hFN' : F = N
            · have hd : decide (F = N) = true := by simpa using hFN'
              have he0 : ((er : Int) == 0) = true := by rw [HER.out, if_pos hFN']; rfl
              rw [hd]
              clear hd hFN'
              by_cases hq : q = 0
              · have hF0 : ((F : Int) != 0) = false := by rw [HFF.out, hq]; simp [frms_nil]
                have hq0 : ((q : Int) == 0) = true := by simp; omega
                have hq0' : ¬ (0 : Int) < (q : Int) := by omega
                clear hq
                go_wp2
                go_meet
                exact ⟨rfl, rfl⟩
              · have hq0 : ((q : Int) == 0) = false := by simp; omega
                have hq0' : (0 : Int) < (q : Int) := by omega
                obtain ⟨ge, ce', hve, _⟩ := HOE4.out.form (by omega)
                cases hve
                obtain ⟨q', hq'⟩ : ∃ q', q = q' + 1 := ⟨q - 1, by omega⟩
                have hce : W4.cell? ⟨ge, q', none⟩ = some (.int .i64 (F : Int)) := by
                  rw [HOE4.out.cellAt q' (by omega), ends_at ls k q' (by omega), HFF.out, hq']
                have hq1 : (q : Int) - 1 = (q' : Int) := by omega
                have hq2 : (q' : Int) < k := by omega
                clear hq' hq
                go_wp2
                go_meet
                exact ⟨rfl, rfl⟩
            · have hd : decide (F = N) = false := by simpa using hFN'
              have he0 : ((er : Int) == 0) = false := by rw [HER.out, if_neg hFN']; rfl
              have he1 : ((er : Int) != 10) = false := by rw [HER.out, if_neg hFN']; rfl
              rw [hd]
              clear hd hFN'
              by_cases hq : q = 0
              · have hF0 : ((F : Int) != 0) = false := by rw [HFF.out, hq]; simp [frms_nil]
                have hq0 : ((q : Int) == 0) = true := by simp; omega
                have hq0' : ¬ (0 : Int) < (q : Int) := by omega
                clear hq
                go_wp2
                go_meet
                exact ⟨rfl, rfl⟩
              · have hq0 : ((q : Int) == 0) = false := by simp; omega
                have hq0' : (0 : Int) < (q : Int) := by omega
                obtain ⟨ge, ce', hve, _⟩ := HOE4.out.form (by omega)
                cases hve
                obtain ⟨q', hq'⟩ : ∃ q', q = q' + 1 := ⟨q - 1, by omega⟩
                have hce : W4.cell? ⟨ge, q', none⟩ = some (.int .i64 (F : Int)) := by
                  rw [HOE4.out.cellAt q' (by omega), ends_at ls k q' (by omega), HFF.out, hq']
                have hq1 : (q : Int) - 1 = (q' : Int) := by omega
                have hq2 : (q' : Int) < k := by omega
                clear hq' hq
                go_wp2
                go_meet
                exact ⟨rfl, rfl⟩
          case rest =>
            obtain ⟨rfl, rfl⟩ := hcut
            go_wp2_with fail
            go_loopw [18] (fun i wx => ∃ j : Nat, j ≤ q ∧ i = .int .i64 (j : Int) ∧ Hid (Below W4.heap.size W4 wx)) (fun i _ => q - (intOf i).toNat)
            case atStart => exact ⟨0, Nat.zero_le _, rfl, Lib.hid (Below.refl _ _)⟩
            case round =>
              obtain ⟨j, hj, rfl, hbw⟩ := hrel
              have B5 := Lib.hid (B4.out.trans (hbw.out.mono B4.out.size))
              by_cases hlt : j < q
              · have hji : (j : Int) < q := by omega
                have hjl : j < ls.length := by rw [← HN0.out]; omega
                have hjt : j < (ls.take q).length := by rw [List.length_take]; omega
                have hne : ls ≠ [] := by rintro rfl; simp at hjl
                have hne' : ls.take q ≠ [] := by intro h0; rw [h0] at hjt; simp at hjt
                obtain ⟨A4', L4', c4', hv4, hL4', hI4⟩ := HI4.out.grew hbw.out
                cases hv4
                obtain ⟨b4, o4, rfl, hb4, hc4⟩ := hI4 hne'
                obtain ⟨u4, hu4, A8, L8, c8, rfl, hL8, hA8⟩ := hc4 j hjt
                obtain ⟨b0, o0, rfl, hb0, hc0⟩ := (HA0.out.below B5.out) hne
                obtain ⟨A9, L9, c9, hu9, hL9, _, hA9⟩ := hc0 j hjl
                have he : (ls.take q)[j] = ls[j] := List.getElem_take
                rw [he] at hL8 hA8
                have HU4 := Lib.hid hu4
                have HU9 := Lib.hid hu9
                have HB4 := Lib.hid hb4
                have HB0 := Lib.hid hb0
                have HL8 := Lib.hid hL8
                have HL9 := Lib.hid hL9
                have HA8 := Lib.hid hA8
                have HA9 := Lib.hid hA9
                clear hu4 hu9 hc4 hc0 hI4 hL4' hL8 hL9 hA8 hA9 hb4 hb0 hne hne' he
                go_wp2
                refine frows_cmp b4 o4 q c4 b0 o0 k c0 j A8 L8 c8 A9 L9 c9 ls[j] hlt (by omega) HL8.out HL9.out _ wr _ rfl rfl rfl rfl HB4.out HB0.out HU4.out HU9.out HA8.out HA9.out ?_
                intro Wn hgn
                have HG := Lib.hid (hbw.out.trans (Below.mono hgn hbw.out.size))
                clear hgn
                simp only [puts, List.foldl_cons, List.foldl_nil, Act.put, List.setIfInBounds_toArray, List.set_cons_succ, List.set_cons_zero]
                go_wp2
                exact ⟨⟨j + 1, by omega, by congr 1, HG⟩, by simp only [intOf]; omega⟩
              · have hji : ¬ (j : Int) < q := by omega
                have HOB5 := Lib.hid (own_below HOB4.out hbw.out)
                have HOE5 := Lib.hid (own_below HOE4.out hbw.out)
                clear hbw HOB4 HOE4 HI4 B4
                by_cases hk0 : k = 0
                · have hk0i : ((k : Int) == 0) = true := by simp; omega
                  go_wp2_with (go_at_call 6; refine (wakes3 HP.out HK.out wr (HT.out.grew B5.out)).mono ?_; rintro e W9 ⟨rfl, hb9⟩)
                  go_ret
                  exact ⟨rfl, B5.out.trans (hb9.mono B5.out.size)⟩
                · have hk0i : ((k : Int) == 0) = false := by simp; omega
                  have hk0p : (0 : Int) < k := by omega
                  obtain ⟨I, hI⟩ : ∃ I, I = turn_ % k := ⟨_, rfl⟩
                  have hIk : I < k := by rw [hI]; exact Nat.mod_lt _ (by omega)
                  have HII := Lib.hid (show (turn_ : Int) % (k : Int) = (I : Int) by rw [hI]; push_cast; rfl)
                  have hIl : I < ls.length := by rw [← HN0.out]; exact hIk
                  have hne : ls ≠ [] := by rintro rfl; simp at hIl
                  obtain ⟨b0, o0, rfl, hb0, hc0⟩ := (HA0.out.below B5.out) hne
                  obtain ⟨A9, L9, c9, hu9, hL9, _, hA9⟩ := hc0 I hIl
                  obtain ⟨ge, ce', hve, _⟩ := HOE5.out.form (by omega)
                  cases hve
                  have hLbp : 0 < Lb := by
                    have h2 := own_len HOB5.out
                    have h1 : frms ls = frms (ls.take (I + 1)) ++ frms (ls.drop (I + 1)) := by rw [← frms_append, List.take_append_drop]
                    rw [h1, List.length_append, frms_take_succ ls I hIl, List.length_append, frm_length] at h2
                    omega
                  obtain ⟨gb, cb', hvb, _⟩ := HOB5.out.form hLbp
                  cases hvb
                  obtain ⟨E, hE⟩ : ∃ E, E = (frms (ls.take (I + 1))).length := ⟨_, rfl⟩
                  have hfx := HF.out _ (List.getElem_mem hIl)
                  have hEL : L9 + 4 + (frms (ls.take I)).length < E := by
                    have hvp := List.length_pos_iff.2 (vb_ne (ls[I]).length)
                    rw [hE, frms_take_succ ls I hIl, List.length_append, frm_length, hL9]; omega
                  have hEb : E ≤ Lb := by
                    have h1 : frms ls = frms (ls.take (I + 1)) ++ frms (ls.drop (I + 1)) := by rw [← frms_append, List.take_append_drop]
                    have h2 := own_len HOB5.out
                    rw [h1, List.length_append] at h2
                    omega
                  obtain ⟨P, hP⟩ : ∃ P, P = E - L9 - 4 := ⟨_, rfl⟩
                  have hPE : E = P + 4 + L9 := by omega
                  have hceI : wr.cell? ⟨ge, 0 + I, none⟩ = some (.int .i64 (E : Int)) := by
                    rw [Nat.zero_add, HOE5.out.cellAt I (by omega), ends_at ls k I hIk, hE]
                  have hL9' : 1 ≤ L9 ∧ L9 ≤ 200 := by rw [hL9]; exact hfx
                  have hL91 := hL9'.1
                  have hL92 := hL9'.2
                  have HCE := Lib.hid hceI
                  have HU9 := Lib.hid hu9
                  have HGE := Lib.hid (HOE5.out.lt ge rfl).2
                  have HB0 := Lib.hid hb0
                  have HL9 := Lib.hid hL9
                  have HE := Lib.hid hE
                  have HPE := Lib.hid hPE
                  have HPP := Lib.hid hP
                  have HEB := Lib.hid hEb
                  clear hceI hu9 hc0 hb0 hL9 hE hI hA9 hL9' hEL hP hPE hfx hne hEb
                  go_wp2_with fail
                  rw [HII.out]
                  refine frows_from ge k ce b0 o0 c0 I E P A9 L9 c9 hIk (by have := HEB.out; omega) HPE.out _ wr _ rfl rfl rfl rfl HGE.out HB0.out HCE.out HU9.out ?_
                  intro W6 hg6
                  have B6 := Lib.hid (B5.out.trans (Below.mono hg6 B5.out.size))
                  have HOB6 := Lib.hid (own_below HOB5.out hg6)
                  have hu6 : W6.cell? ⟨b0, o0 + I, none⟩ = some (.slice A9 L9 c9) := (Below.cell hg6 (p := ⟨b0, o0 + I, none⟩) HB0.out).trans HU9.out
                  obtain ⟨Bt, hBt⟩ : ∃ Bt, Bt = turn_ % (8 * (L9 + 4)) := ⟨_, rfl⟩
                  have hBl : Bt < 8 * (L9 + 4) := by rw [hBt]; exact Nat.mod_lt _ (by omega)
                  have HBT := Lib.hid (show (turn_ : Int) % (8 * ((L9 : Int) + 4)) = (Bt : Int) by rw [hBt]; push_cast; rfl)
                  have hIki : (I : Int) < k := by omega
                  clear hBt hg6 HOB5 HOE5 B5 HCE HU9 HGE HII
                  simp only [puts, List.foldl_cons, List.foldl_nil, Act.put, List.setIfInBounds_toArray, List.set_cons_succ, List.set_cons_zero]
                  go_wp2_with fail
                  rw [HBT.out]
                  have hPLb : P + 4 + L9 ≤ Lb := by have := HPE.out; have := HEB.out; omega
                  have hJ : P + Bt / 8 < Lb := by omega
                  have hJi : (P : Int) + (Bt : Int) / 8 < Lb := by omega
                  have hPi : (P : Int) ≤ 4280 := by omega
                  have hBti : (Bt : Int) ≤ 1700 := by omega
                  have hJx : P + Bt / 8 < (frms ls).length := by rw [← own_len HOB6.out]; exact hJ
                  obtain ⟨y, hy⟩ : ∃ y, y = ((frms ls)[P + Bt / 8]).toNat := ⟨_, rfl⟩
                  have hyl : y < 256 := by rw [hy]; exact UInt8.toNat_lt _
                  have hcell : W6.cell? ⟨gb, P + Bt / 8, none⟩ = some (.int .u8 (y : Int)) := by
                    rw [HOB6.out.cellAt (P + Bt / 8) (by omega), hy]; simp [hJx, enc]
                  have hfro : W6.frozen? ⟨gb, P + Bt / 8, none⟩ = false := HOB6.out.frozenAt (P + Bt / 8)
                  have HY := Lib.hid hy
                  clear hy hu6 HBT
                  go_region
                  have hrow := (HOB6.out.stored (P + Bt / 8) (Value.int .u8 (bits .xor .u8 (y : Int) (2 ^ (Bt % 8) % 256)))).1
                  have hset : ((frms ls).map enc).set (P + Bt / 8) (Value.int .u8 (bits .xor .u8 (y : Int) (2 ^ (Bt % 8) % 256))) = (turn (frms ls) (8 * P + Bt)).map enc := by
                    have h1 : (8 * P + Bt) / 8 = P + Bt / 8 := by omega
                    have h2 : (8 * P + Bt) % 8 = Bt % 8 := by omega
                    rw [turn, h1, h2, HY.out, xor8f _ _ (by omega), List.map_set]
                    congr 3
                    simp [List.getD, hJx]
                  rw [hset] at hrow
                  have hB7 : Below w.heap.size w (W6.setCell ⟨gb, P + Bt / 8, none⟩ (Value.int .u8 (bits .xor .u8 (y : Int) (2 ^ (Bt % 8) % 256)))).drew := (B6.out.setCell (p := ⟨gb, P + Bt / 8, none⟩) (HOB6.out.lt gb rfl).1 _).drew
                  obtain ⟨W7, hW7⟩ : ∃ W7, W7 = (W6.setCell ⟨gb, P + Bt / 8, none⟩ (Value.int .u8 (bits .xor .u8 (y : Int) (2 ^ (Bt % 8) % 256)))).drew := ⟨_, rfl⟩
                  have hrow7 : W7.ownsRow w.heap.size 5 1 (.slice (some ⟨gb, 0, none⟩) Lb cb) Lb ((turn (frms ls) (8 * P + Bt)).map enc) := by rw [hW7]; exact hrow
                  rw [← hW7] at hB7 ⊢
                  have HAT := Lib.hid (al_turn ls HF.out.fit I Bt hIl (by rw [← HL9.out]; omega))
                  rw [← HL9.out, ← HE.out, ← HPP.out] at HAT
                  have HR7 := Lib.hid hrow7
                  have B7 := Lib.hid hB7
                  clear hrow hset hB7 hW7 hrow7 hcell hfro HOB6 B6
                  go_wp2_with fail
                  refine (HAl.out _ Lb cb (turn (frms ls) (8 * P + Bt)) W7 (own_len HR7.out) (by omega) (own_cap HR7.out) (HT.out.grew B7.out) (HasA.of_own HR7.out)).mono ?_
                  rintro e W8 ⟨v8, rfl, ⟨A8, L8, c8, rfl, hL8, -⟩, hb8⟩
                  rw [HAT.out] at hL8
                  rw [HAT.out]
                  obtain rfl : I = L8 := by rw [hL8]; simp only [List.length_take]; omega
                  dsimp only
                  have B8 := Lib.hid (B7.out.trans (hb8.mono B7.out.size))
                  clear hb8 hL8
                  go_wp2_with (go_at_call 6; refine (wakes3 HP.out HK.out W8 (HT.out.grew B8.out)).mono ?_; rintro e W9 ⟨rfl, hb9⟩)
                  go_ret
                  exact ⟨rfl, B8.out.trans (hb9.mono B8.out.size)⟩
end Go.Proofs.YtbhncffeoolhfaaDoor
