/- The walk of the law VarintBack. -/
import Derived.Test.YtmphgahkeoaplaaW7
namespace Go.Proofs.Ytmphgahkeoaplaa
open Go.RowKit

theorem toNat_u8 (c : Nat) (h : c < 256) : (UInt8.ofNat c).toNat = c := toNat_ofNat_lt h

theorem UintR_n (w : World) (R : Nat) (lim : Int) (n : Nat) (hn : n < 18446744073709551616) (rest : List UInt8) (h : Rd w R 0 lim (vb n ++ rest)) :
    Calls Try.prog 15 #[.pointer (some ⟨R, 0, none⟩)] w fun e W' => e = .returned (.int .u64 (n : Int)) ∧ Rd W' R 0 lim rest ∧ w.grownBy W' (some R) :=
  UintR_ok w R lim _ n rest h (rdU_vb hn rest)
theorem IntR_m (w : World) (R : Nat) (lim m : Int) (h1 : -9223372036854775808 ≤ m) (h2 : m ≤ 9223372036854775807) (rest : List UInt8) (h : Rd w R 0 lim (vb (foldN m) ++ rest)) :
    Calls Try.prog 16 #[.pointer (some ⟨R, 0, none⟩)] w fun e W' => e = .returned (.int .i64 m) ∧ Rd W' R 0 lim rest ∧ w.grownBy W' (some R) := by
  have := IntR_ok w R lim _ (foldN m) rest h (rdU_vb (foldN_lt h1 h2) rest)
  rwa [unfold_fold] at this
theorem TextR_s (w : World) (R : Nat) (s : ByteArray) (hs : s.size ≤ 200) (rest : List UInt8) (h : Rd w R 0 200 (vb s.size ++ (s.data.toList ++ rest))) :
    Calls Try.prog 17 #[.pointer (some ⟨R, 0, none⟩)] w fun e W' => e = .returned (.string s) ∧ Rd W' R 0 200 rest ∧ w.grownBy W' (some R) := by
  have hl : s.data.toList.length = s.size := by simp
  have := TextR_ok w R 200 _ s.size (s.data.toList ++ rest) h (rdU_vb (by omega) _) (by omega) hs (by rw [List.length_append, hl]; omega)
  rwa [← hl, List.take_left, List.drop_left, str_data] at this
/-- A text without its last byte. -/
theorem TextR_x (w : World) (R : Nat) (s : ByteArray) (hs : s.size ≤ 200) (h : Rd w R 0 200 (vb s.size ++ s.data.toList).dropLast) :
    Calls Try.prog 17 #[.pointer (some ⟨R, 0, none⟩)] w fun e W' => e = .returned (.string (str [])) ∧ (∃ rest, Rd W' R 10 200 rest) ∧ w.grownBy W' (some R) := by
  have hl : s.data.toList.length = s.size := by simp
  by_cases h0 : s.data.toList = []
  · rw [h0, List.append_nil] at h
    exact (TextR_short w R 200 _ h (rd_short 10 0 0 s.size rfl (by omega) (by omega))).mono fun _ _ ⟨a, b, c⟩ => ⟨a, ⟨_, b⟩, c⟩
  · rw [List.dropLast_append_of_ne_nil h0] at h
    have hp : 0 < s.data.toList.length := List.length_pos_iff.2 h0
    exact (TextR_cut w R 200 _ s.size _ h (rdU_vb (by omega) _) (by omega) hs (by rw [List.length_dropLast]; omega)).mono fun _ _ ⟨a, b, c⟩ => ⟨a, ⟨_, b⟩, c⟩

/-- What the law keeps: what lay lies as it lay; the slice that was written has its bytes. -/
def Kp (w : World) (g L c : Nat) (X : List UInt8) (W : World) : Prop :=
  Below w.heap.size w W ∧ W.ownsRow w.heap.size 5 1 (.slice (some ⟨g, 0, none⟩) L c) L (X.map enc)
theorem Kp.below {w W W' : World} {g L c : Nat} {X : List UInt8} (h : Kp w g L c X W) (hb : Below W.heap.size W W') : Kp w g L c X W' :=
  ⟨h.1.trans (hb.mono h.1.size), h.2.kept (row := none) (grownBy_of_below hb) (.inr (by simp [Value.ownBlock]))⟩
theorem Kp.grown {w W W' : World} {g L c R : Nat} {X : List UInt8} (h : Kp w g L c X W) (hR : w.heap.size ≤ R) (hne : g < R) (hg : W.grownBy W' (some R)) : Kp w g L c X W' :=
  ⟨below_grown h.1 h.1.size hR hg, h.2.kept hg (.inr (by simp [Value.ownBlock]; omega))⟩
theorem Kp.has {w W : World} {g L c : Nat} {X : List UInt8} (h : Kp w g L c X W) : HasA W W.heap.size (some ⟨g, 0, none⟩) X := HasA.of_own h.2
theorem Kp.lt {w W : World} {g L c : Nat} {X : List UInt8} (h : Kp w g L c X W) : g < W.heap.size := (h.2.lt g rfl).2
theorem own_base {w : World} {base base' n : Nat} {e : TypeId} {v : Value} {xs : List Value} (h : w.ownsRow base e 1 v n xs) (hb : base' ≤ base) : w.ownsRow base' e 1 v n xs := by
  refine ⟨h.1, ?_⟩
  rcases h.2 with h2 | ⟨g, cap, cur, a, b, r⟩
  · exact .inl h2
  · exact .inr ⟨g, cap, cur, a, Nat.le_trans hb b, r⟩

set_option maxHeartbeats 4000000 in
theorem Back_any (n : Nat) (hn : n < 18446744073709551616) (m : Int) (h1 : -9223372036854775808 ≤ m) (h2 : m ≤ 9223372036854775807) (s : ByteArray) (hs : s.size ≤ maxLen) (c : UInt8) (w : World) :
    Calls Try.prog 4 #[.int .u64 (n : Int), .int .i64 m, .string s, .int .u8 (c.toNat : Int)] w fun e W' => e = .returned (.bool true) ∧ Below w.heap.size w W' := by
  unfold maxLen at hs
  obtain ⟨i0, hi, hz0, hz1, hz2⟩ := info_parts info5
  by_cases hlong : 200 < s.size
  · have hl : (200 : Int) < s.size := by omega
    go_enter Try.func4, Try.ntmps4
    go_wp2_with (go_at_call 6; refine (wakes_any _).mono ?_; rintro e W' ⟨rfl, hb⟩)
    go_ret
    exact ⟨rfl, hb⟩
  · have hl : ¬ (200 : Int) < s.size := by omega
    have hs200 : s.size ≤ 200 := by omega
    have hvn := vb_len10 hn
    have hvm := vb_len10 (foldN_lt h1 h2)
    have hvs := vb_len10 (n := s.size) (by omega)
    obtain ⟨X, hX⟩ : ∃ X, X = c :: (vb n ++ (vb (foldN m) ++ (vb s.size ++ s.data.toList))) := ⟨_, rfl⟩
    have hXl : X.length ≤ 300 := by rw [hX]; simp; omega
    have hXp : 0 < X.length := by rw [hX]; simp
    have HX := Lib.hid hX
    clear hX
    go_enter Try.func4, Try.ntmps4
    go_wp2_with fail
    refine (Uint_any _ [c] 1 1 n rfl hn (by simp) _ (hasA_new w [c])).mono ?_
    rintro e W1 ⟨g1, L1, c1, rfl, hown1, hb1⟩
    have B1 := Lib.hid (((Below.refl w.heap.size w).alloc (Nat.le_refl _) _).trans (hb1.mono (by simp)))
    have HA1 := Lib.hid (HasA.of_own hown1)
    have HL1 := Lib.hid (own_len hown1)
    clear hown1 hb1
    go_wp2_with fail
    refine (Int_any _ ([c] ++ vb n) L1 c1 HL1.out m h1 h2 (by simp; omega) W1 HA1.out).mono ?_
    rintro e W2 ⟨g2, L2, c2, rfl, hown2, hb2⟩
    have B2 := Lib.hid (B1.out.trans (hb2.mono B1.out.size))
    have HA2 := Lib.hid (HasA.of_own hown2)
    have HL2 := Lib.hid (own_len hown2)
    clear hown2 hb2
    go_wp2_with fail
    refine (Text_any _ ([c] ++ vb n ++ vb (foldN m)) L2 c2 HL2.out s (by omega) (by simp; omega) W2 HA2.out).mono ?_
    rintro e W3 ⟨g3, L3, c3, rfl, hown3, hb3⟩
    rw [show [c] ++ vb n ++ vb (foldN m) ++ vb s.size ++ s.data.toList = X by rw [HX.out]; simp] at hown3
    have K3 : Hid (Kp w g3 L3 c3 X W3) := ⟨B2.out.trans (hb3.mono B2.out.size), own_base hown3 B2.out.size⟩
    have HL3 := Lib.hid (own_len hown3)
    have hc3 : L3 ≤ c3 := by
      rcases hown3.2 with ⟨h, _⟩ | ⟨_, _, _, hv, _, _, hnc, _⟩
      · cases h
      · cases hv; exact hnc
    have hL3 : L3 ≤ 300 := by have := own_len hown3; omega
    have hL3p : 0 < L3 := by have := own_len hown3; omega
    clear hown3 hb3 HA1 HL1 HA2 HL2 B1 B2
    go_wp2_with fail
    refine (New_any _ L3 c3 200 X HL3.out (by omega) W3 K3.out.has).mono ?_
    rintro e W4 ⟨R, rfl, hr4, hR4, hb4⟩
    rw [HX.out] at hr4
    have K4 := Lib.hid (K3.out.below hb4)
    have HR4 := Lib.hid hr4
    have HRw : Hid (w.heap.size ≤ R) := Nat.le_trans K3.out.1.size hR4
    have HgR : Hid (g3 < R) := Nat.lt_of_lt_of_le K3.out.lt hR4
    clear hr4 hR4 hb4 K3
    go_wp2_with fail
    refine (Byte_one R 200 c _ W4 HR4.out).mono ?_
    rintro e W5 ⟨rfl, hr5, hg5⟩
    have K5 := Lib.hid (K4.out.grown HRw.out HgR.out hg5)
    have HR5 := Lib.hid hr5
    clear hr5 hg5 K4 HR4
    go_wp2_with fail
    refine (UintR_n W5 R 200 n hn _ HR5.out).mono ?_
    rintro e W6 ⟨rfl, hr6, hg6⟩
    have K6 := Lib.hid (K5.out.grown HRw.out HgR.out hg6)
    have HR6 := Lib.hid hr6
    clear hr6 hg6 K5 HR5
    go_wp2_with fail
    refine (IntR_m W6 R 200 m h1 h2 _ HR6.out).mono ?_
    rintro e W7 ⟨rfl, hr7, hg7⟩
    have K7 := Lib.hid (K6.out.grown HRw.out HgR.out hg7)
    have HR7 : Hid (Rd W7 R 0 200 (vb s.size ++ (s.data.toList ++ []))) := by rw [List.append_nil]; exact hr7
    clear hr7 hg7 K6 HR6
    go_wp2_with fail
    refine (TextR_s W7 R s hs200 [] HR7.out).mono ?_
    rintro e W8 ⟨rfl, hr8, hg8⟩
    have K8 := Lib.hid (K7.out.grown HRw.out HgR.out hg8)
    have HR8 := Lib.hid hr8
    clear hr8 hg8 K7 HR7
    go_wp2_with fail
    refine (Done_ok R 200 W8 HR8.out).mono ?_
    rintro e w8 ⟨rfl, rfl⟩
    have hz : ((L3 : Int) == 0) = false := by simp; omega
    have hLi : (1 : Int) ≤ L3 := by omega
    have hLm : (L3 : Int) ≤ 300 := by omega
    have hci : (L3 : Int) ≤ c3 := by omega
    have hZ : X.take (L3 - 1) = c :: (vb n ++ (vb (foldN m) ++ (vb s.size ++ s.data.toList).dropLast)) := by
      rw [HL3.out, ← List.dropLast_eq_take, HX.out, List.dropLast_cons_of_ne_nil (by simp [vb_ne]), List.dropLast_append_of_ne_nil (by simp [vb_ne]), List.dropLast_append_of_ne_nil (by simp [vb_ne])]
    have HZ := Lib.hid hZ
    have HZl : Hid (L3 - 1 = (X.take (L3 - 1)).length) := by show _ = _; rw [List.length_take, ← HL3.out]; omega
    clear hZ
    go_wp2_with fail
    refine (New_any _ (L3 - 1) c3 200 (X.take (L3 - 1)) HZl.out (by have := HZl.out; omega) W8 (K8.out.has.take _)).mono ?_
    rintro e W9 ⟨S, rfl, hs9, hS9, hb9⟩
    rw [HZ.out] at hs9
    have K9 := Lib.hid (K8.out.below hb9)
    have HS9 := Lib.hid hs9
    have HSw : Hid (w.heap.size ≤ S) := Nat.le_trans K8.out.1.size hS9
    have HgS : Hid (g3 < S) := Nat.lt_of_lt_of_le K8.out.lt hS9
    clear hs9 hS9 hb9 K8 HR8 HZ HZl HRw HgR
    go_wp2_with fail
    refine (Byte_one S 200 c _ W9 HS9.out).mono ?_
    rintro e W10 ⟨rfl, hs10, hg10⟩
    have K10 := Lib.hid (K9.out.grown HSw.out HgS.out hg10)
    have HS10 := Lib.hid hs10
    clear hs10 hg10 K9 HS9
    go_wp2_with fail
    refine (UintR_n W10 S 200 n hn _ HS10.out).mono ?_
    rintro e W11 ⟨rfl, hs11, hg11⟩
    have K11 := Lib.hid (K10.out.grown HSw.out HgS.out hg11)
    have HS11 := Lib.hid hs11
    clear hs11 hg11 K10 HS10
    go_wp2_with fail
    refine (IntR_m W11 S 200 m h1 h2 _ HS11.out).mono ?_
    rintro e W12 ⟨rfl, hs12, hg12⟩
    have K12 := Lib.hid (K11.out.grown HSw.out HgS.out hg12)
    have HS12 := Lib.hid hs12
    clear hs12 hg12 K11 HS11
    go_wp2_with fail
    refine (TextR_x W12 S s hs200 HS12.out).mono ?_
    rintro e W13 ⟨rfl, ⟨rest, hs13⟩, hg13⟩
    have K13 := Lib.hid (K12.out.grown HSw.out HgS.out hg13)
    have HS13 := Lib.hid hs13
    clear hs13 hg13 K12 HS12
    have HA13 := Lib.hid K13.out.has
    go_wp2_with (first
      | (at_builtin; refine wpList_append_has rfl (.const (.slice none 0 0)) (.tmp 71) 22 rfl W13.heap.size 5 i0 Try.underlying22 hi hz0 hz1 hz2 (.slice none 0 0) 0 [] rfl (World.ownsRow_nil _ _ _ _) W13.heap.size _ L3 c3 X rfl HL3.out HA13.out (by omega) (Nat.le_refl _) ?_; intro v14 W14 hown14 hg14; have HO14 := Lib.hid hown14; have HG14 := Lib.hid hg14; clear hown14 hg14)
      | (at_builtin; refine wpList_append_has rfl (.tmp 72) (.tmp 73) 22 rfl W13.heap.size 5 i0 Try.underlying22 hi hz0 hz1 hz2 v14 (0 + L3) ([] ++ X) rfl (HO14.out.alloc _) _ _ 1 1 [7] rfl rfl (hasA_new W14 [7]) (by omega) (by have := HG14.out.size; simp; omega) ?_; intro v15 W15 hown15 hg15
         obtain ⟨g15, c15, rfl, _⟩ := hown15.form (by omega)
         have hb15 : Below W13.heap.size W13 W15 := ((((Below.refl W13.heap.size W13).grown HG14.out (Nat.le_refl _) (fun k e => by cases e)).alloc HG14.out.size _).grown hg15 (by have := HG14.out.size; simp; omega) (fun k e => (HO14.out.lt k e).1))
         have HL15 := Lib.hid (own_len hown15)
         have HA15 := Lib.hid (HasA.of_own hown15)
         have K15 := Lib.hid (K13.out.below hb15)
         have HS15 := Lib.hid (HS13.out.below hb15)
         clear hown15 hg15 hb15)
      | fail)
    refine (New_any _ (L3 + 1) c15 200 ([] ++ X ++ [7]) (by have := HL15.out; omega) (by simp; omega) W15 HA15.out).mono ?_
    rintro e W16 ⟨U, rfl, hu16, hU16, hb16⟩
    rw [show [] ++ X ++ [7] = c :: (vb n ++ (vb (foldN m) ++ (vb s.size ++ (s.data.toList ++ [7])))) by rw [HX.out]; simp] at hu16
    have B16 := Lib.hid (K15.out.below hb16).1
    have HU16 := Lib.hid hu16
    have HS16 := Lib.hid (HS15.out.below hb16)
    have HUw : Hid (w.heap.size ≤ U) := Nat.le_trans K15.out.1.size hU16
    have HSU : Hid (S ≠ U) := by have := HS15.out.lt; show _ ≠ _; omega
    clear hu16 hU16 hb16 K15 HS15 HA15 HL15 K13 HS13 HA13 HO14 HG14
    go_wp2_with fail
    refine (Byte_one U 200 c _ W16 HU16.out).mono ?_
    rintro e W17 ⟨rfl, hu17, hg17⟩
    have B17 := Lib.hid (below_grown B16.out B16.out.size HUw.out hg17)
    have HS17 := Lib.hid (HS16.out.other HU16.out HSU.out hg17)
    have HU17 := Lib.hid hu17
    clear hu17 hg17 B16 HU16 HS16
    go_wp2_with fail
    refine (UintR_n W17 U 200 n hn _ HU17.out).mono ?_
    rintro e W18 ⟨rfl, hu18, hg18⟩
    have B18 := Lib.hid (below_grown B17.out B17.out.size HUw.out hg18)
    have HS18 := Lib.hid (HS17.out.other HU17.out HSU.out hg18)
    have HU18 := Lib.hid hu18
    clear hu18 hg18 B17 HU17 HS17
    go_wp2_with fail
    refine (IntR_m W18 U 200 m h1 h2 _ HU18.out).mono ?_
    rintro e W19 ⟨rfl, hu19, hg19⟩
    have B19 := Lib.hid (below_grown B18.out B18.out.size HUw.out hg19)
    have HS19 := Lib.hid (HS18.out.other HU18.out HSU.out hg19)
    have HU19 := Lib.hid hu19
    clear hu19 hg19 B18 HU18 HS18
    go_wp2_with fail
    refine (TextR_s W19 U s hs200 [7] HU19.out).mono ?_
    rintro e W20 ⟨rfl, hu20, hg20⟩
    have B20 := Lib.hid (below_grown B19.out B19.out.size HUw.out hg20)
    have HS20 := Lib.hid (HS19.out.other HU19.out HSU.out hg20)
    have HU20 := Lib.hid hu20
    clear hu20 hg20 B19 HU19 HS19
    go_wp2_with fail
    refine (Done_err S 10 200 rfl rest W20 HS20.out).mono ?_
    rintro e w20 ⟨rfl, rfl⟩
    go_wp2_with fail
    refine (Err_any U 0 200 [7] W20 HU20.out).mono ?_
    rintro e w20 ⟨rfl, rfl⟩
    go_wp2_with fail
    refine (Done_left U 200 7 [] W20 HU20.out).mono ?_
    rintro e w21 ⟨rfl, rfl⟩
    have B21 := Lib.hid (below_grown B20.out B20.out.size HUw.out (grownBy_set W20 U 0 (.int .i64 11)))
    clear B20 HU20 HS20
    go_wp2_with fail
    refine (wakes_any _).mono ?_
    rintro e W22 ⟨rfl, hb22⟩
    have B22 := Lib.hid (B21.out.trans (hb22.mono B21.out.size))
    clear hb22 B21
    go_wp2
    go_ret
    exact ⟨rfl, B22.out⟩
end Go.Proofs.Ytmphgahkeoaplaa
