/- Parts of the proof: MKqT. -/
import Derived.Test.YtfjmdkhemnmkpaaGreatDoorA02
import Derived.Lib.ItoaNum
import Derived.Lib.ParseIntBTie
import Derived.Test.YtfjmdkhemnmkpaaGreatDoorA04
import Derived.Test.YtfjmdkhemnmkpaaGreatDoorA05
import Derived.Lib.AppendIntMem
namespace Go.Proofs.YtfjmdkhemnmkpaaGreatDoor
open Go.RowKit
theorem dec_eq (u : Nat) : Lib.decDigits u = decN u := by
  induction u using Nat.strongRecOn with
  | ind u ih =>
    by_cases h : u < 10
    · rw [decN_lt h, Lib.decDigits, dif_pos h]
    · rw [decN_ge h, Lib.decDigits, dif_neg h, ih (u / 10) (by omega)]
theorem itoa_dec (n : Int) : Lib.itoa n = decI n := by
  unfold Lib.itoa decI
  by_cases h : n < 0
  · rw [if_pos h, if_pos h, dec_eq, show n.natAbs = (-n).toNat by omega]
  · rw [if_neg h, if_neg h, dec_eq]
def fV (n : Nat) (c : UInt8) : Nat := 10 * n + (c.toNat - 48)
theorem valD_fold (d : List UInt8) : valD d = d.foldl fV 0 := rfl
theorem fold_ge : ∀ (d : List UInt8) (a : Nat), a ≤ d.foldl fV a
  | [], a => Nat.le_refl _
  | c :: r, a => by
    have := fold_ge r (fV a c)
    simp only [List.foldl_cons]
    unfold fV at this ⊢
    omega
theorem valD_snoc (d : List UInt8) (c : UInt8) : valD (d ++ [c]) = 10 * valD d + (c.toNat - 48) := by
  rw [valD_fold, valD_fold, List.foldl_append]
  rfl
theorem u8_dig {n : Nat} (h : n < 10) : (UInt8.ofNat (48 + n)).toNat = 48 + n := by
  simp [UInt8.toNat_ofNat]
  omega
theorem dig_of {n : Nat} (h : n < 10) : dig (UInt8.ofNat (48 + n)) = true := by
  unfold dig
  rw [u8_dig h]
  simp
  omega
theorem decN_all (n : Nat) : (decN n).all dig = true := by
  induction n using Nat.strongRecOn with
  | ind n ih =>
    by_cases h : n < 10
    · rw [decN_lt h, List.all_cons, List.all_nil, dig_of h]
      rfl
    · rw [decN_ge h, List.all_append, ih (n / 10) (by omega), List.all_cons, List.all_nil, dig_of (show n % 10 < 10 by omega)]
      rfl
theorem decN_ne (n : Nat) : decN n ≠ [] := by
  by_cases h : n < 10
  · rw [decN_lt h]; simp
  · rw [decN_ge h]; simp
theorem valD_decN (n : Nat) : valD (decN n) = n := by
  induction n using Nat.strongRecOn with
  | ind n ih =>
    by_cases h : n < 10
    · rw [decN_lt h, valD_fold]
      simp only [List.foldl_cons, List.foldl_nil, fV, u8_dig h]
      omega
    · rw [decN_ge h, valD_snoc, ih (n / 10) (by omega), u8_dig (show n % 10 < 10 by omega)]
      omega
theorem decN_zero (n : Nat) (h : (decN n)[0]? = some 48) : n = 0 := by
  induction n using Nat.strongRecOn with
  | ind n ih =>
    by_cases h1 : n < 10
    · rw [decN_lt h1] at h
      have h3 : UInt8.ofNat (48 + n) = 48 := Option.some.inj h
      have h4 := congrArg UInt8.toNat h3
      rw [u8_dig h1] at h4
      have h5 : (48 : UInt8).toNat = 48 := rfl
      omega
    · rw [decN_ge h1, List.getElem?_append_left (List.length_pos_iff.2 (decN_ne _))] at h
      have := ih (n / 10) (by omega) h
      omega
theorem decN_first (n : Nat) : (decN n)[0]? ≠ some 45 := fun h => by
  have h2 := List.all_eq_true.1 (decN_all n) 45 (List.mem_of_getElem? h)
  revert h2
  decide
theorem numM_decI {v : Int} (h1 : -9223372036854775808 ≤ v) (h2 : v ≤ 9223372036854775807) : numM (decI v) = some v := by
  unfold decI
  by_cases hn : v < 0
  · rw [if_pos hn]
    have hl : (decN (-v).toNat).length ≤ 19 := decN_le 18 _ (by omega)
    have hpos := List.length_pos_iff.2 (decN_ne (-v).toNat)
    rw [numM, if_pos (by simp), List.drop_succ_cons, List.drop_zero, numD, if_neg, if_neg (by simp only [decN_all, not_true_eq_false, not_false_eq_true]), if_pos rfl, valD_decN, if_pos (by omega)]
    · congr 1; omega
    · rintro (h | h | h)
      · omega
      · omega
      · have := decN_zero _ h.1; omega
  · rw [if_neg hn]
    have hl : (decN v.toNat).length ≤ 19 := decN_le 18 _ (by omega)
    have hpos := List.length_pos_iff.2 (decN_ne v.toNat)
    rw [numM, if_neg (decN_first _), numD, if_neg, if_neg (by simp only [decN_all, not_true_eq_false, not_false_eq_true]), if_neg (by decide), valD_decN, if_pos (by omega)]
    · congr 1; omega
    · rintro (h | h | h)
      · omega
      · omega
      · have hz := decN_zero _ h.1
        rcases h.2 with h3 | h3
        · rw [hz, decN_lt (by decide)] at h3
          simp at h3
        · cases h3
theorem decN_valD : ∀ (k : Nat) (d : List UInt8), d.length = k → d ≠ [] → d.all dig = true → (d[0]? = some 48 → d.length = 1) → decN (valD d) = d
  | 0, d, hk, hne, _, _ => absurd (List.eq_nil_of_length_eq_zero hk) hne
  | k + 1, d, hk, hne, ha, hz => by
    obtain ⟨e, c, rfl⟩ : ∃ e c, d = e ++ [c] := ⟨d.dropLast, d.getLast hne, (List.dropLast_concat_getLast hne).symm⟩
    rw [List.all_append, Bool.and_eq_true] at ha
    have hc : 48 ≤ c.toNat ∧ c.toNat ≤ 57 := by
      have := ha.2
      simpa [dig] using this
    have hcc : UInt8.ofNat (48 + (c.toNat - 48)) = c := by
      apply UInt8.toNat_inj.1
      rw [u8_dig (by omega)]
      omega
    by_cases he : e = []
    · subst he
      rw [List.nil_append, valD_fold]
      simp only [List.foldl_cons, List.foldl_nil, fV]
      rw [decN_lt (by omega), show 48 + (10 * 0 + (c.toNat - 48)) = 48 + (c.toNat - 48) by omega, hcc]
    · have hlen : e.length = k := by simpa using hk
      have hz2 : e[0]? ≠ some 48 := fun h => by
        have := hz (by rw [List.getElem?_append_left (List.length_pos_iff.2 he)]; exact h)
        rw [List.length_append, List.length_singleton] at this
        exact he (List.eq_nil_of_length_eq_zero (by omega))
      have ih := decN_valD k e hlen he ha.1 (fun h => absurd h hz2)
      have hpos : valD e ≠ 0 := fun h0 => by
        rw [h0, decN_lt (by decide)] at ih
        exact hz2 (by rw [← ih]; rfl)
      rw [valD_snoc, decN_ge (by omega), show (10 * valD e + (c.toNat - 48)) / 10 = valD e by omega, show (10 * valD e + (c.toNat - 48)) % 10 = c.toNat - 48 by omega, ih, hcc]
theorem pm_ok : ∀ (d : List UInt8) (a : Nat), d.all dig = true → d.foldl fV a ≤ 18446744073709551615 → Lib.parseUintM 18446744073709551615 a d = .ok (d.foldl fV a)
  | [], a, _, _ => rfl
  | c :: r, a, ha, hf => by
    rw [List.all_cons, Bool.and_eq_true] at ha
    have hc : 48 ≤ c.toNat ∧ c.toNat ≤ 57 := by
      have := ha.1
      simpa [dig] using this
    simp only [List.foldl_cons] at hf ⊢
    have h1 := fold_ge r (fV a c)
    have h2 : fV a c = a * 10 + (c.toNat - 48) := by unfold fV; omega
    have ih := pm_ok r (fV a c) ha.2 hf
    rw [Lib.parseUintM, if_pos hc, if_neg (by omega), if_neg (by omega), ← h2, ih]
theorem pu_ok {d : List UInt8} (hne : d ≠ []) (ha : d.all dig = true) (hf : valD d ≤ 18446744073709551615) : Lib.parseUintB 64 d = .ok (valD d) := by
  rw [Lib.parseUintB, if_neg hne, show 2 ^ 64 - 1 = 18446744073709551615 by decide]
  exact pm_ok d 0 ha hf
theorem numM_some {bs : List UInt8} {v : Int} (h : numM bs = some v) : Lib.parseIntB 64 bs = .ok v ∧ Lib.itoa v = bs := by
  unfold numM at h
  have e63 : (2 : Nat) ^ (64 - 1) = 9223372036854775808 := by decide
  split at h
  · rename_i hb
    obtain ⟨r, rfl⟩ : ∃ r, bs = 45 :: r := by
      cases bs with
      | nil => cases hb
      | cons c r => exact ⟨r, by rw [show c = 45 from Option.some.inj hb]⟩
    rw [List.drop_succ_cons, List.drop_zero, numD] at h
    split at h
    · cases h
    rename_i hbad
    split at h
    · cases h
    rename_i hall
    have hall : r.all dig = true := by simpa using hall
    rw [if_pos rfl] at h
    split at h
    · rename_i hv
      cases h
      have hne : r ≠ [] := fun e => hbad (.inl (by rw [e]; rfl))
      have hz : r[0]? ≠ some 48 := fun e => hbad (.inr (.inr ⟨e, .inr rfl⟩))
      have hd := decN_valD r.length r rfl hne hall (fun e => absurd e hz)
      have hpos : valD r ≠ 0 := fun h0 => by
        rw [h0, decN_lt (by decide)] at hd
        exact hz (by rw [← hd]; rfl)
      refine ⟨?_, ?_⟩
      · rw [Lib.parseIntB_minus, pu_ok hne hall (by omega), e63]
        simp only [Lib.signedC]
        rw [if_neg (by omega)]
      · rw [itoa_dec, decI, if_pos (by omega), show (-(-(valD r : Int))).toNat = valD r by omega, hd]
    · cases h
  · rename_i hb
    rw [numD] at h
    split at h
    · cases h
    rename_i hbad
    split at h
    · cases h
    rename_i hall
    have hall : bs.all dig = true := by simpa using hall
    rw [if_neg (by decide)] at h
    split at h
    · rename_i hv
      cases h
      have hne : bs ≠ [] := fun e => hbad (.inl (by rw [e]; rfl))
      have hd := decN_valD bs.length bs rfl hne hall (fun e => by
        have hp := List.length_pos_iff.2 hne
        by_cases h1 : 1 < bs.length
        · exact absurd (Or.inr (Or.inr ⟨e, .inl h1⟩)) hbad
        · omega)
      obtain ⟨c, r, rfl⟩ : ∃ c r, bs = c :: r := by
        cases bs with
        | nil => exact absurd rfl hne
        | cons c r => exact ⟨c, r, rfl⟩
      have hc : 48 ≤ c.toNat ∧ c.toNat ≤ 57 := by
        rw [List.all_cons, Bool.and_eq_true] at hall
        have := hall.1
        simpa [dig] using this
      refine ⟨?_, ?_⟩
      · rw [Lib.parseIntB_plain 64 c r (by omega) (by omega), pu_ok hne hall (by omega), e63]
        simp only [Lib.signlessC]
        rw [if_neg (by omega)]
      · rw [itoa_dec, decI, if_neg (by omega), Int.toNat_natCast, hd]
    · cases h
end Go.Proofs.YtfjmdkhemnmkpaaGreatDoor
namespace Go.Proofs.YtfjmdkhemnmkpaaGreatDoor
open Go.RowKit Go.Sort
structure TabK (w : World) : Prop where
  keys : TabQ w
  pow : Lib.TabIs Tryz.prog w "internal/strconv.uint64pow10" .u64 Lib.pow10Tab
  syn : ∃ tp p, w.var? Tryz.prog "strconv.ErrSyntax" = some #[.iface tp p]
  ran : ∃ tp p, w.var? Tryz.prog "strconv.ErrRange" = some #[.iface tp p]
theorem var_grew {P : Program} {w w' : World} {n : String} {cs : Array Value} (h : w.var? P n = some cs) (hb : Below w.heap.size w w') : w'.var? P n = some cs := by
  unfold World.var? at h ⊢
  cases hg : P.globalNamed n with
  | none => rw [hg] at h; cases h
  | some g =>
    rw [hg] at h
    simp only [Option.bind_some] at h ⊢
    have hlt : g < w.heap.size := by
      by_cases hl : g < w.heap.size
      · exact hl
      · rw [Array.getElem?_eq_none (by omega)] at h
        cases h
    rw [hb.block g hlt]
    exact h
theorem var_keep {P : Program} {w w' : World} {n : String} {cs : Array Value} (h : w.var? P n = some cs) (hk : ∀ g, g < w.heap.size → (∃ cs t u, w.heap[g]? = some (.cells cs t u)) → w'.heap[g]? = w.heap[g]?) : w'.var? P n = some cs := by
  unfold World.var? at h ⊢
  cases hg : P.globalNamed n with
  | none => rw [hg] at h; cases h
  | some g =>
    rw [hg] at h
    simp only [Option.bind_some] at h ⊢
    cases hc : w.heap[g]? with
    | none => rw [hc] at h; cases h
    | some o =>
      rw [hk g (Array.getElem?_eq_some_iff.1 hc).1 (by
        rw [hc] at h
        cases o with
        | cells a b c => exact ⟨a, b, c, hc⟩
        | _ => cases h)]
      exact h
theorem TabK.grew {w w' : World} (h : TabK w) (hb : Below w.heap.size w w') : TabK w' :=
  ⟨h.keys.grew hb, var_grew h.pow hb, let ⟨tp, p, e⟩ := h.syn; ⟨tp, p, var_grew e hb⟩, let ⟨tp, p, e⟩ := h.ran; ⟨tp, p, var_grew e hb⟩⟩
theorem format_any (n : Int) (h0 : -9223372036854775808 ≤ n) (h1 : n ≤ 9223372036854775807) (w : World) (hT : TabK w) : Calls Tryz.prog 115 #[.int .i64 n, .int .i64 10] w fun e W' => e = .returned (.string (str (decI n))) ∧ Below w.heap.size w W' :=
  (lay_strconv_FormatInt_10 n h0 h1 w hT.pow).mono fun e W' ⟨he, k, os, hw⟩ => ⟨by rw [he, itoa_dec]; rfl, by rw [hw]; exact Lib.below_grow _ _ (Nat.le_refl _) _ _⟩
theorem itoa_any (n : Int) (h0 : -9223372036854775808 ≤ n) (h1 : n ≤ 9223372036854775807) (w : World) (hT : TabK w) : Calls Tryz.prog 117 #[.int .i64 n] w fun e W' => e = .returned (.string (str (decI n))) ∧ Below w.heap.size w W' :=
  (lay_strconv_Itoa n h0 h1 w hT.pow).mono fun e W' ⟨he, k, os, hw⟩ => ⟨by rw [he, itoa_dec]; rfl, by rw [hw]; exact Lib.below_grow _ _ (Nat.le_refl _) _ _⟩
theorem str_of {bs : List UInt8} {s : ByteArray} : str bs = s ↔ bs = s.data.toList :=
  ⟨fun h => by rw [← h]; simp [str], fun h => by rw [h]; exact ByteArray.ext (by simp [str])⟩
set_option maxRecDepth 100000 in
theorem parse_any (s : ByteArray) (hs : s.size ≤ 100000) (w : World) (hT : TabK w) : Calls Tryz.prog 113 #[.string s] w fun e W' => e = .returned (.tuple #[.int .i64 ((numM s.data.toList).getD 0), .bool (numM s.data.toList).isSome]) ∧ Below w.heap.size w W' := by
  cases hp : Lib.parseIntB 64 s.data.toList with
  | ok v =>
    have hv := Lib.parseIntB_bounds hp
    rw [show (2 : Nat) ^ (64 - 1) = 9223372036854775808 by decide] at hv
    have HP := Lib.hid (lay_strconv_ParseInt_10_at64_ok s (by omega) v hp w)
    have HT := Lib.hid hT
    have HF := Lib.hid (And.intro (show -9223372036854775808 ≤ v by omega) (show v ≤ 9223372036854775807 by omega))
    obtain ⟨S, hS⟩ : ∃ S, S = str (decI v) := ⟨_, rfl⟩
    have HSS := Lib.hid hS
    clear hv hT hS
    by_cases he : S = s
    · have hnum : numM s.data.toList = some v := by
        rw [HSS.out] at he
        rw [← str_of.1 he]
        exact numM_decI HF.out.1 HF.out.2
      rw [hnum]
      have HE := Lib.hid he
      clear hp hnum he
      go_enter Tryz.func113, Tryz.ntmps113
      go_wp2_with fail
      refine HP.out.mono ?_
      rintro e W ⟨rfl, hw⟩
      have hb : Below w.heap.size w W := by
        rcases hw with rfl | ⟨t, rfl⟩
        · exact Below.refl _ _
        · exact Lib.bytesWorld_below _ _ _
      have HB := Lib.hid hb
      clear hw hb
      go_wp2_with fail
      refine (format_any v HF.out.1 HF.out.2 W (HT.out.grew HB.out)).mono ?_
      rintro e W2 ⟨rfl, hb2⟩
      rw [← HSS.out, HE.out]
      have HB2 := Lib.hid (HB.out.trans (Below.mono hb2 HB.out.size))
      clear hb2
      go_wp2
      go_ret2
      exact ⟨rfl, HB2.out⟩
    · have hnum : numM s.data.toList = none := by
        cases hn : numM s.data.toList with
        | none => rfl
        | some u =>
          obtain ⟨h1, h2⟩ := numM_some hn
          rw [hp] at h1
          cases h1
          rw [itoa_dec] at h2
          exact absurd (HSS.out.trans (str_of.2 h2)) he
      rw [hnum]
      have hne : ¬ S.toList = s.toList := fun h => he (toList_inj9.1 h)
      have hneb : (S.toList == s.toList) = false := by simpa using hne
      clear hp hnum
      go_enter Tryz.func113, Tryz.ntmps113
      go_wp2_with fail
      refine HP.out.mono ?_
      rintro e W ⟨rfl, hw⟩
      have hb : Below w.heap.size w W := by
        rcases hw with rfl | ⟨t, rfl⟩
        · exact Below.refl _ _
        · exact Lib.bytesWorld_below _ _ _
      have HB := Lib.hid hb
      clear hw hb
      go_wp2_with fail
      refine (format_any v HF.out.1 HF.out.2 W (HT.out.grew HB.out)).mono ?_
      rintro e W2 ⟨rfl, hb2⟩
      rw [← HSS.out]
      have HB2 := Lib.hid (HB.out.trans (Below.mono hb2 HB.out.size))
      clear hb2
      go_wp2
      go_ret2
      exact ⟨rfl, HB2.out⟩
  | range =>
    have hnum : numM s.data.toList = none := by
      cases hn : numM s.data.toList with
      | none => rfl
      | some u => have h1 := (numM_some hn).1; rw [hp] at h1; cases h1
    obtain ⟨tp, p, hv⟩ := hT.ran
    have HP := Lib.hid (lay_strconv_ParseInt_10_at64_range_var s (by omega) hp tp p w hv)
    rw [hnum]
    clear hp hnum hv hT
    go_enter Tryz.func113, Tryz.ntmps113
    go_wp2_with fail
    refine HP.out.mono ?_
    rintro e W ⟨N, rfl, _, _, hb⟩
    have HB := Lib.hid hb
    clear hb
    go_wp2
    go_ret2
    exact ⟨rfl, HB.out⟩
  | _ =>
    have hnum : numM s.data.toList = none := by
      cases hn : numM s.data.toList with
      | none => rfl
      | some u => have h1 := (numM_some hn).1; rw [hp] at h1; cases h1
    obtain ⟨tp, p, hv⟩ := hT.syn
    have HP := Lib.hid (lay_strconv_ParseInt_10_at64_else_var s (by omega) ⟨by rw [hp]; exact (fun h => by cases h), fun v => by rw [hp]; exact (fun h => by cases h)⟩ tp p w hv)
    rw [hnum]
    clear hp hnum hv hT
    go_enter Tryz.func113, Tryz.ntmps113
    go_wp2_with fail
    refine HP.out.mono ?_
    rintro e W ⟨N, rfl, _, _, hb⟩
    have HB := Lib.hid hb
    clear hb
    go_wp2
    go_ret2
    exact ⟨rfl, HB.out⟩
theorem wrap_i64 {x : Int} (h0 : -9223372036854775808 ≤ x) (h1 : x ≤ 9223372036854775807) : IntKind.i64.wrap x = x := by
  simp [IntKind.wrap, IntKind.bits, IntKind.signed]
  omega
theorem wrap_over {x : Int} (h0 : 9223372036854775807 < x) (h1 : x < 18446744073709551616) : IntKind.i64.wrap x = x - 18446744073709551616 := by
  simp [IntKind.wrap, IntKind.bits, IntKind.signed]
  omega
theorem wrap_under {x : Int} (h0 : x < -9223372036854775808) (h1 : -18446744073709551616 ≤ x) : IntKind.i64.wrap x = x + 18446744073709551616 := by
  simp [IntKind.wrap, IntKind.bits, IntKind.signed]
  omega
def sumB (a b : Int) : Option Int := if -9223372036854775808 ≤ a + b ∧ a + b ≤ 9223372036854775807 then some (a + b) else none
set_option maxRecDepth 100000 in
theorem sum_any (a b : Int) (ha : -9223372036854775808 ≤ a ∧ a ≤ 9223372036854775807) (hb : -9223372036854775808 ≤ b ∧ b ≤ 9223372036854775807) (w : World) :
    Calls Tryz.prog 114 #[.int .i64 a, .int .i64 b] w fun e W' => e = .returned (.tuple #[.int .i64 ((sumB a b).getD 0), .bool (sumB a b).isSome]) ∧ W' = w := by
  obtain ⟨t, ht⟩ : ∃ t, IntKind.i64.wrap (a + b) = t := ⟨_, rfl⟩
  by_cases hr : -9223372036854775808 ≤ a + b ∧ a + b ≤ 9223372036854775807
  · rw [show sumB a b = some (a + b) from if_pos hr]
    have hw : IntKind.i64.wrap (a + b) = a + b := wrap_i64 hr.1 hr.2
    by_cases h0 : 0 < b
    · have h1 : decide (a < a + b) = true := by simp; omega
      have h2 : decide (0 < b) = true := by simpa using h0
      clear ht ha hb hr h0
      go_enter Tryz.func114, Tryz.ntmps114
      go_wp2
      go_ret2
      exact ⟨rfl, rfl⟩
    · have h1 : decide (a < a + b) = false := by simp; omega
      have h2 : decide (0 < b) = false := by simpa using h0
      clear ht ha hb hr h0
      go_enter Tryz.func114, Tryz.ntmps114
      go_wp2
      go_ret2
      exact ⟨rfl, rfl⟩
  · rw [show sumB a b = none from if_neg hr]
    by_cases h0 : 0 < b
    · have h1 : decide (a < t) = false := by
        have : t = a + b - 18446744073709551616 := by rw [← ht]; exact wrap_over (by omega) (by omega)
        simp; omega
      have h2 : decide (0 < b) = true := by simpa using h0
      clear ha hb hr h0
      go_enter Tryz.func114, Tryz.ntmps114
      go_wp2
      go_ret2
      exact ⟨rfl, rfl⟩
    · have h1 : decide (a < t) = true := by
        have : t = a + b + 18446744073709551616 := by rw [← ht]; exact wrap_under (by omega) (by omega)
        simp; omega
      have h2 : decide (0 < b) = false := by simpa using h0
      clear ha hb hr h0
      go_enter Tryz.func114, Tryz.ntmps114
      go_wp2
      go_ret2
      exact ⟨rfl, rfl⟩
end Go.Proofs.YtfjmdkhemnmkpaaGreatDoor
