/- What the walks of the laws on frames ask of the program's three functions; the walk of wakes. -/
import Derived.Test.YtbhncffeoolhfaaDoorRefFrAll
import Derived.Test.YtbhncffeoolhfaaDoorCrcFour
import Derived.Lib.SlBytesConst
namespace Go.Proofs.YtbhncffeoolhfaaDoor
open Go.RowKit

/-- frame.Put: the bytes, then the frame, in new memory; or the bytes, and why not. -/
def PutPost (w : World) (bs x : List UInt8) (e : Ending) (W' : World) : Prop :=
  (Fit x ∧ ∃ g L' c', e = .returned (.tuple #[.slice (some ⟨g, 0, none⟩) L' c', .int .i64 0]) ∧ W'.ownsRow w.heap.size 5 1 (.slice (some ⟨g, 0, none⟩) L' c') L' ((bs ++ frm x).map enc) ∧ Below w.heap.size w W') ∨
  (¬ Fit x ∧ ∃ v, e = .returned (.tuple #[v, .int .i64 3]) ∧ IsB W' v bs ∧ Below w.heap.size w W')
def PutSpec : Prop := ∀ (A : Option Addr) (L c : Nat) (bs : List UInt8) (A2 : Option Addr) (L2 c2 : Nat) (x : List UInt8) (w : World), L = bs.length → L ≤ 200000 → L ≤ c → L2 = x.length → L2 ≤ 200000 → L2 ≤ c2 → Tab w →
  HasA w w.heap.size A bs → HasA w w.heap.size A2 x → Calls Tryd.prog 7 #[.slice A L c, .slice A2 L2 c2] w (PutPost w bs x)
def TakeSpec : Prop := ∀ (A : Option Addr) (L c : Nat) (bs : List UInt8) (w : World), L = bs.length → L ≤ 200000 → L ≤ c → Tab w → HasA w w.heap.size A bs → Calls Tryd.prog 9 #[.slice A L c] w (TakePost w bs)
def AllSpec : Prop := ∀ (A : Option Addr) (L c : Nat) (bs : List UInt8) (w : World), L = bs.length → L ≤ 200000 → L ≤ c → Tab w → HasA w w.heap.size A bs → Calls Tryd.prog 11 #[.slice A L c] w (AllPost w bs)

theorem frm_a : frm [97] = [1, 48, 67, 208, 193, 97] := by
  have h1 : vb 1 = [1] := vb_lt (by omega)
  have h2 : leB 4 (crcSum [97]) = [48, 67, 208, 193] := by decide +kernel
  rw [frm, body, h2]
  exact congrArg (· ++ _) h1
theorem fit_a : Fit [97] := ⟨by decide, by decide⟩
theorem tk_a : tk (frm [97] ++ [7]) = .ok [97] 6 := by
  rw [tk_frm _ _ fit_a, frm_a]; rfl
theorem tk_0 : tk [0] = .err 11 := by
  have h : rdU [0] = .ok 0 [] := by decide
  rw [tk_of_ok h]; rfl
theorem not_fit_nil : ¬ Fit [] := by intro h; have := h.1; simp at this

set_option maxHeartbeats 2000000 in
theorem wakes3 (hP : PutSpec) (hK : TakeSpec) (w : World) (hT : Tab w) : Calls Tryd.prog 6 #[] w fun e W' => e = .returned (.bool true) ∧ Below w.heap.size w W' := by
  obtain ⟨i0, hi, hz0, hz1, hz2⟩ := info_parts info5
  have HT := Lib.hid hT
  have HP := Lib.hid hP
  have HK := Lib.hid hK
  clear hT hP hK
  have kc := fun (w : World) (C : Array Value) (n c : Nat) => Lib.run_convert_bytes_const (P := Tryd.prog) w 22 5 C n c Tryd.underlying22 Tryd.underlying5
  go_enter Tryd.func6, Tryd.ntmps6
  go_wp2_with fail
  have B0 := Lib.hid ((Below.refl w.heap.size w).alloc (Nat.le_refl _) (Obj.cells #[Value.int IntKind.u8 97] 5 (1, 2)))
  refine (HP.out none 0 0 [] _ 1 1 [97] _ rfl (by omega) (by omega) rfl (by omega) (by omega) (HT.out.grew B0.out) (HasA.nil _ _ _) ?_).mono ?_
  · intro _
    refine ⟨w.heap.size, 0, rfl, by simp, fun i hi => ?_⟩
    rw [World.cell?_alloc_mark]
    rcases i with _ | i
    all_goals first | rfl | (simp at hi)
  rintro e W1 (⟨_, g, L1, c1, rfl, hown1, hb1⟩ | ⟨h, _⟩)
  rotate_left
  · exact absurd fit_a h
  rw [List.nil_append] at hown1
  have hl1 : L1 = 6 := by have := own_len hown1; rw [frm_a] at this; exact this
  subst hl1
  have B1 := Lib.hid (B0.out.trans (hb1.mono (by simp)))
  have H1 := Lib.hid (own_base (base' := w.heap.size) hown1 (by simp))
  clear hown1 hb1 kc B0
  go_wp2_with (first
    | (at_builtin; refine wpList_append_has rfl (.const (.slice none 0 0)) (.tmp 18) 22 rfl W1.heap.size 5 i0 Tryd.underlying22 hi hz0 hz1 hz2 (.slice none 0 0) 0 [] rfl (World.ownsRow_nil _ _ _ _) _ _ 6 c1 (frm [97]) rfl (own_len H1.out) (HasA.of_own H1.out) (by omega) (Nat.le_refl _) ?_; intro v2 W2 hown2 hg2
       have hB2 : Below w.heap.size w W2 := B1.out.grown hg2 B1.out.size (fun k e => by cases e)
       have HO2 := Lib.hid hown2
       have H12 := Lib.hid (H1.out.kept hg2 (.inr (by simp [Value.ownBlock])))
       have B2 := Lib.hid hB2
       have hz2' := Lib.hid hg2.size
       clear hown2 hg2 hB2)
    | (at_builtin; refine wpList_append_has rfl (.tmp 19) (.tmp 20) 22 rfl W1.heap.size 5 i0 Tryd.underlying22 hi hz0 hz1 hz2 v2 (0 + 6) ([] ++ frm [97]) rfl (HO2.out.alloc _) _ _ 1 1 [7] rfl rfl (hasA_new W2 [7]) (by omega) (by have := hz2'.out; simp; omega) ?_; intro v3 W3 hown3 hg3
       have hB3 : Below w.heap.size w W3 := (B2.out.alloc B2.out.size _).grown hg3 (by have := B2.out.size; simp; omega) (fun k e => by have := (HO2.out.lt k e).1; have := B1.out.size; omega)
       have H13 := Lib.hid ((H12.out.alloc _).kept hg3 (.inr (fun e => by have := (HO2.out.lt g e.symm).1; have := (H1.out.lt g rfl).2; omega)))
       obtain ⟨g3, c3, rfl, hc3⟩ := hown3.form (by omega)
       have HO3 := Lib.hid hown3
       have B3 := Lib.hid hB3
       clear hB3 hown3 hg3)
    | fail)
  have HA3 := Lib.hid (HasA.of_own HO3.out)
  have HL3 := Lib.hid (own_len HO3.out)
  refine (HK.out _ (0 + 6 + 1) c3 _ W3 HL3.out (by omega) (by have := own_cap HO3.out; omega) (HT.out.grew B3.out) HA3.out).mono ?_
  have htk : tk ([] ++ frm [97] ++ [7]) = .ok [97] 6 := tk_a
  rintro e W4 (⟨x, n, v4, h1, rfl, h3, h4⟩ | ⟨k, v4, h1, rfl, h3, h4⟩)
  rotate_left
  · rw [htk] at h1; cases h1
  rw [htk] at h1
  cases h1
  have B4 := Lib.hid (B3.out.trans (h4.mono B3.out.size))
  have H14 := Lib.hid (own_below H13.out h4)
  have H4 := Lib.hid h3
  clear h3 h4 htk HO2 H12 B2 hz2' H13 HO3 HA3 HL3 B3 H1 B1 hc3
  go_wp2_with fail
  have hb5 : Below w.heap.size w (W4.alloc (.cells #[.int .u8 0] 5)) := B4.out.alloc B4.out.size _
  refine (HK.out _ 1 1 [0] _ rfl (by omega) (by omega) (HT.out.grew hb5) (hasA_new W4 [0])).mono ?_
  rintro e W5 (⟨x, n, v5, h1, rfl, h3, h5⟩ | ⟨k, v5, h1, rfl, h3, h5⟩)
  · rw [tk_0] at h1; cases h1
  rw [tk_0] at h1
  cases h1
  have B5 := Lib.hid (hb5.trans (h5.mono (by have := B4.out.size; simp; omega)))
  have H15 := Lib.hid (own_below (H14.out.alloc (.cells #[.int .u8 0] 5)) h5)
  have H45 := Lib.hid (IsB.grew (H4.out.grew (Below.alloc (Below.refl _ _) (Nat.le_refl _) (.cells #[.int .u8 0] 5))) h5)
  clear h3 h5 hb5 B4 H14 H4
  go_wp2_with fail
  refine (HP.out none 0 0 [] none 0 0 [] W5 rfl (by omega) (by omega) rfl (by omega) (by omega) (HT.out.grew B5.out) (HasA.nil _ _ _) (HasA.nil _ _ _)).mono ?_
  rintro e W6 (⟨h, _⟩ | ⟨_, v6, rfl, h3, h6⟩)
  · exact absurd h not_fit_nil
  have B6 := Lib.hid (B5.out.trans (h6.mono B5.out.size))
  have H16 := Lib.hid (own_below H15.out h6)
  have H46 := Lib.hid (H45.out.grew h6)
  have k1 : (convert 22 9 (.slice (some ⟨g, 0, none⟩) 6 c1)).run Tryd.prog W6 = .ok (.string ⟨#[1, 48, 67, 208, 193, 97]⟩) W6 := by
    have := conv_own H16.out
    rw [frm_a] at this
    exact this
  have k2 : (convert 22 9 v4).run Tryd.prog W6 = .ok (.string ⟨#[97]⟩) W6 := H46.out.conv
  obtain ⟨A4, L4, c4, rfl, -⟩ := H46.out
  clear h3 h6 B5 H15 H45 H16 H46
  go_wp2
  go_ret
  exact ⟨rfl, B6.out⟩
end Go.Proofs.YtbhncffeoolhfaaDoor
