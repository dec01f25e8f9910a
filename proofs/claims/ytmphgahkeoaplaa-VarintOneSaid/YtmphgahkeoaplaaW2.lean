/- Contracts of varint.fold, unfold, Int, Text and of the document's Uint, Int, Text. -/
import Derived.Test.YtmphgahkeoaplaaW1
import Derived.Deep.DeepFit
namespace Go.Proofs.Ytmphgahkeoaplaa
open Go.RowKit

/-- A signed number as a number. -/
def foldN (m : Int) : Nat := if 0 ≤ m then (2 * m).toNat else (-2 * m - 1).toNat

/-- And back. -/
def unfoldN (u : Nat) : Int := if u % 2 = 1 then -((u / 2 : Nat) : Int) - 1 else ((u / 2 : Nat) : Int)
theorem unfold_fold (m : Int) : unfoldN (foldN m) = m := by
  unfold unfoldN foldN
  split <;> split <;> omega
theorem foldN_lt {m : Int} (h1 : -9223372036854775808 ≤ m) (h2 : m ≤ 9223372036854775807) : foldN m < 18446744073709551616 := by
  unfold foldN; split <;> omega

theorem ret_int {k : IntKind} {a b : Int} (h : a = b) : Ending.returned (.int k a) = .returned (.int k b) := by rw [h]

theorem fold_any (m : Int) (h1 : -9223372036854775808 ≤ m) (h2 : m ≤ 9223372036854775807) (w : World) :
    Calls Try.prog 21 #[.int .i64 m] w fun e w' => e = .returned (.int .u64 (foldN m : Int)) ∧ w = w' := by
  by_cases h : m < 0
  · go_enter Try.func21, Try.ntmps21
    go_wp2
    go_ret
    refine ⟨ret_int ?_, rfl⟩
    rw [IntKind.wrap_u64, IntKind.wrap_u64, not_u64 _ (by omega) (by omega)]
    unfold foldN; rw [if_neg (by omega)]; omega
  · go_enter Try.func21, Try.ntmps21
    go_wp2
    go_ret
    refine ⟨ret_int ?_, rfl⟩
    unfold foldN; rw [if_pos (by omega)]; omega

theorem unfold_any (u : Nat) (h2 : u < 18446744073709551616) (w : World) :
    Calls Try.prog 26 #[.int .u64 (u : Int)] w fun e w' => e = .returned (.int .i64 (unfoldN u)) ∧ w = w' := by
  have ha := and1_u64 u h2
  by_cases hodd : u % 2 = 1
  · rw [hodd] at ha
    have hb : bits .and .u64 (u : Int) 1 = 1 := ha
    clear ha
    go_enter Try.func26, Try.ntmps26
    go_wp2
    go_ret
    refine ⟨ret_int ?_, rfl⟩
    rw [not_i64 _ (by omega) (by omega)]
    unfold unfoldN; rw [if_pos hodd]; omega
  · have h0 : u % 2 = 0 := by omega
    rw [h0] at ha
    have hb : bits .and .u64 (u : Int) 1 = 0 := ha
    clear ha
    go_enter Try.func26, Try.ntmps26
    go_wp2
    go_ret
    refine ⟨ret_int ?_, rfl⟩
    unfold unfoldN; rw [if_neg hodd]; omega

theorem ownsRow_new (w : World) (base c : Nat) (bs : List UInt8) (hb : base ≤ w.heap.size) (hc : bs.length = c) (hl : c ≤ 1000000) :
    (w.alloc (.cells (bs.map enc).toArray 5)).ownsRow base 5 1 (.slice (some ⟨w.heap.size, 0, none⟩) c c) c (bs.map enc) := by
  subst hc
  exact ⟨by simp, .inr ⟨w.heap.size, bs.length, _, rfl, hb, heap_alloc_new w _, Nat.le_refl _, by simp only [maxLen]; omega, by simp, by rw [Nat.mul_one]; exact List.take_of_length_le (by simp)⟩⟩

theorem ref_Uint : ∀ (m : Nat), m < 18446744073709551616 → ∀ (w : World),
    Calls Try.prog 8 #[.int .u64 (m : Int)] w (Gives w (vb m)) := by
  obtain ⟨i0, hi, hz0, hz1, hz2⟩ := info_parts info5
  intro m
  induction m using Nat.strongRecOn with
  | ind m ih =>
    intro hm w
    by_cases h : m < 128
    · have h' : (m : Int) < 128 := by omega
      go_enter Try.func8, Try.ntmps8
      go_wp2
      go_ret
      have e : enc (UInt8.ofNat m) = .int .u8 (m : Int) := enc_ofNat (by omega)
      have ho := ownsRow_new w w.heap.size 1 [UInt8.ofNat m] (Nat.le_refl _) rfl (by omega)
      rw [List.map_cons, List.map_nil, e] at ho
      rw [vb_lt h]
      refine ⟨w.heap.size, 1, 1, rfl, ?_, (Below.refl _ _).alloc (Nat.le_refl _) _⟩
      rw [List.map_cons, List.map_nil, e]
      exact ho
    · have h' : ¬ (m : Int) < 128 := by omega
      have hr : m / 128 < 18446744073709551616 := by omega
      have IH := Lib.hid (ih (m / 128) (by omega) hr)
      have ho := ownsRow_new w w.heap.size 1 [UInt8.ofNat (m % 128 + 128)] (Nat.le_refl _) rfl (by omega)
      rw [List.map_cons, List.map_nil, enc_ofNat (by omega), show (((m % 128 + 128 : Nat) : Int)) = 128 + (m : Int) % 128 by omega] at ho
      have HO := Lib.hid ho
      have hv := vb_len10 hr
      have hz : (vb (m / 128)).length ≤ 10 := hv
      clear ih ho
      go_enter Try.func8, Try.ntmps8
      go_wp2_with fail
      rw [show ((m : Int) / 128) = ((m / 128 : Nat) : Int) by omega]
      refine (IH.out _).mono ?_
      rintro e W1 ⟨g, L1, c1, rfl, hown1, hb1⟩
      have ho1 : W1.ownsRow w.heap.size 5 1 (.slice (some ⟨w.heap.size, 0, none⟩) 1 1) 1 ([UInt8.ofNat (m % 128 + 128)].map enc) := by
        rw [List.map_cons, List.map_nil, enc_ofNat (by omega), show (((m % 128 + 128 : Nat) : Int)) = 128 + (m : Int) % 128 by omega]
        rcases HO.out.2 with ⟨h, _⟩ | ⟨g', cap, cur, hv, hbg, hgg, r⟩
        · cases h
        · cases hv
          exact ⟨HO.out.1, .inr ⟨_, _, cur, rfl, hbg, (hb1.block _ (by simp)).trans hgg, r⟩⟩
      have H1 := Lib.hid ho1
      have HL := Lib.hid (own_len hown1)
      have hL1 : L1 ≤ 10 := by have := own_len hown1; omega
      have H2 := Lib.hid (HasA.of_own hown1)
      have hbb : Below w.heap.size w W1 := ((Below.refl _ _).alloc (Nat.le_refl _) _).trans (hb1.mono (by simp))
      have H3 := Lib.hid hbb
      clear ho1 hown1 hb1 hbb
      go_wp2_with (at_builtin; refine wpList_append_has rfl (.tmp 12) (.tmp 15) 22 rfl w.heap.size 5 i0 Try.underlying22 hi hz0 hz1 hz2 _ 1 _ rfl H1.out W1.heap.size _ _ _ (vb (m / 128)) rfl HL.out H2.out (by omega) H3.out.size ?_; intro v' W2 hown2 hg2)
      go_ret
      have e2 : [UInt8.ofNat (m % 128 + 128)] ++ vb (m / 128) = vb m := by rw [vb_ge (n := m) (by omega)]; rfl
      rw [e2] at hown2
      obtain ⟨g2, c2, rfl, _⟩ := hown2.form (by omega)
      exact ⟨g2, _, c2, rfl, hown2, H3.out.grown hg2 H3.out.size (fun k e => by cases e; exact Nat.le_refl _)⟩

theorem ref_Int (m : Int) (h1 : -9223372036854775808 ≤ m) (h2 : m ≤ 9223372036854775807) (w : World) :
    Calls Try.prog 10 #[.int .i64 m] w (Gives w (vb (foldN m))) := by
  have hf := foldN_lt h1 h2
  by_cases h : 0 ≤ m
  · have hm : 2 * m = ((foldN m : Nat) : Int) := by unfold foldN; rw [if_pos h]; omega
    have HM := Lib.hid hm
    clear hm
    go_enter Try.func10, Try.ntmps10
    go_wp2_with fail
    rw [HM.out]
    refine (ref_Uint (foldN m) hf _).mono ?_
    rintro e W1 ⟨g, L1, c1, rfl, hown1, hb1⟩
    go_wp2
    go_ret
    exact ⟨g, L1, c1, rfl, hown1, hb1⟩
  · have hm : 2 * -(m + 1) + 1 = ((foldN m : Nat) : Int) := by unfold foldN; rw [if_neg h]; omega
    have HM := Lib.hid hm
    clear hm
    go_enter Try.func10, Try.ntmps10
    go_wp2_with fail
    rw [HM.out]
    refine (ref_Uint (foldN m) hf _).mono ?_
    rintro e W1 ⟨g, L1, c1, rfl, hown1, hb1⟩
    go_wp2
    go_ret
    exact ⟨g, L1, c1, rfl, hown1, hb1⟩

theorem Int_any (A : Option Addr) (bs : List UInt8) (L c : Nat) (hL : L = bs.length) (m : Int) (h1 : -9223372036854775808 ≤ m) (h2 : m ≤ 9223372036854775807) (hlen : bs.length ≤ 1000000) (w : World) (hA : HasA w w.heap.size A bs) :
    Calls Try.prog 9 #[.slice A L c, .int .i64 m] w (Gives w (bs ++ vb (foldN m))) := by
  have hf := foldN_lt h1 h2
  have HL := Lib.hid hL
  clear hL
  go_enter Try.func9, Try.ntmps9
  go_wp2_with fail
  refine (fold_any m h1 h2 _).mono ?_
  rintro e w' ⟨rfl, rfl⟩
  go_wp2_with fail
  refine (Uint_any A bs L c _ HL.out hf hlen w hA).mono ?_
  rintro e W1 ⟨g, L1, c1, rfl, hown1, hb1⟩
  go_wp2
  go_ret
  exact ⟨g, L1, c1, rfl, hown1, hb1⟩

theorem Text_any (A : Option Addr) (bs : List UInt8) (L c : Nat) (hL : L = bs.length) (s : ByteArray) (hs : s.size ≤ 1000000) (hlen : bs.length ≤ 1000000) (w : World) (hA : HasA w w.heap.size A bs) :
    Calls Try.prog 11 #[.slice A L c, .string s] w (Gives w (bs ++ vb s.size ++ s.data.toList)) := by
  obtain ⟨i0, hi, hz0, hz1, hz2⟩ := info_parts info5
  have hs' : (s.size : Int) ≤ 1000000 := by omega
  have hv := vb_len10 (n := s.size) (by omega)
  have hp : 0 < (vb s.size).length := List.length_pos_iff.2 (vb_ne _)
  have HL := Lib.hid hL
  clear hL
  go_enter Try.func11, Try.ntmps11
  go_wp2_with fail
  refine (Uint_any A bs L c s.size HL.out (by omega) hlen w hA).mono ?_
  rintro e W1 ⟨g, L1, c1, rfl, hown1, hb1⟩
  have hl1 : L1 ≤ 1000010 ∧ 0 < L1 := by have := own_len hown1; simp at this; omega
  have hl2 := hl1.1
  have hl3 := hl1.2
  have H1 := Lib.hid hown1
  have H3 := Lib.hid hb1
  clear hown1 hb1 hl1
  go_wp2_with (at_builtin; refine wpList_append_str rfl (.tmp 9) (.tmp 10) 22 9 rfl w.heap.size 5 i0 Try.underlying22 Try.underlying9 hi hz0 hz1 hz2 _ L1 _ rfl H1.out s rfl (by omega) H3.out.size ?_; intro v' W2 hown2 hg2)
  go_ret
  obtain ⟨g2, c2, rfl, _⟩ := hown2.form (by omega)
  exact ⟨g2, _, c2, rfl, hown2, H3.out.grown hg2 H3.out.size (fun k e => by cases e; exact (H1.out.lt g rfl).1)⟩

theorem ref_Text (s : ByteArray) (hs : s.size ≤ 1000000) (w : World) :
    Calls Try.prog 12 #[.string s] w (Gives w (vb s.size ++ s.data.toList)) := by
  obtain ⟨i0, hi, hz0, hz1, hz2⟩ := info_parts info5
  have hs' : (s.size : Int) ≤ 1000000 := by omega
  have hv := vb_len10 (n := s.size) (by omega)
  have hp : 0 < (vb s.size).length := List.length_pos_iff.2 (vb_ne _)
  go_enter Try.func12, Try.ntmps12
  go_wp2_with fail
  refine (ref_Uint s.size (by omega) w).mono ?_
  rintro e W1 ⟨g, L1, c1, rfl, hown1, hb1⟩
  have hl1 : L1 ≤ 1000010 ∧ 0 < L1 := by have := own_len hown1; omega
  have hl2 := hl1.1
  have hl3 := hl1.2
  have H1 := Lib.hid hown1
  have H3 := Lib.hid hb1
  clear hown1 hb1 hl1
  go_wp2_with (at_builtin; refine wpList_append_str rfl (.tmp 6) (.tmp 7) 22 9 rfl w.heap.size 5 i0 Try.underlying22 Try.underlying9 hi hz0 hz1 hz2 _ L1 _ rfl H1.out s rfl (by omega) H3.out.size ?_; intro v' W2 hown2 hg2)
  go_ret
  obtain ⟨g2, c2, rfl, _⟩ := hown2.form (by omega)
  exact ⟨g2, _, c2, rfl, hown2, H3.out.grown hg2 H3.out.size (fun k e => by cases e; exact (H1.out.lt g rfl).1)⟩
end Go.Proofs.Ytmphgahkeoaplaa
