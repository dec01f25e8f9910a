/- The contract of the document's own taking of a frame. -/
import Derived.Test.YtbhncffeoolhfaaDoorRefFrR
import Derived.Test.YtbhncffeoolhfaaDoorRefTake
namespace Go.Proofs.YtbhncffeoolhfaaDoor
open Go.RowKit

/-- What taking a frame gives back: contents, size and no error, or nothing and the error. -/
def TakePost (w : World) (bs : List UInt8) (e : Ending) (W' : World) : Prop :=
  (∃ x n v, tk bs = .ok x n ∧ e = .returned (.tuple #[v, .int .i64 (n : Int), .int .i64 0]) ∧ IsB W' v x ∧ Below w.heap.size w W') ∨
  (∃ (k : Nat) (v : Value), tk bs = .err k ∧ e = .returned (.tuple #[v, .int .i64 0, .int .i64 (k : Int)]) ∧ IsB W' v [] ∧ Below w.heap.size w W')
/-- A slice of the bytes X below block B. -/
def IsBat (B : Nat) (w : World) (v : Value) (X : List UInt8) : Prop := ∃ A L c, v = .slice A L c ∧ L = X.length ∧ HasA w B A X
theorem IsBat.below {B : Nat} {w w' : World} {v : Value} {X : List UInt8} (h : IsBat B w v X) (hb : Below B w w') : IsBat B w' v X := by
  obtain ⟨A, L, c, hv, hL, hA⟩ := h
  exact ⟨A, L, c, hv, hL, hA.below hb⟩
theorem IsBat.isB {B : Nat} {w : World} {v : Value} {X : List UInt8} (h : IsBat B w v X) (hB : B ≤ w.heap.size) : IsB w v X := by
  obtain ⟨A, L, c, hv, hL, hA⟩ := h
  exact ⟨A, L, c, hv, hL, hA.more hB⟩
theorem IsBat.slice {B : Nat} {w : World} {v : Value} {X : List UInt8} (h : IsBat B w v X) : v.oneCell' = true := by
  obtain ⟨A, L, c, rfl, _⟩ := h
  rfl
/-- The same, the contents lying in what came in. -/
def TakePostR (B : Nat) (w : World) (bs : List UInt8) (e : Ending) (W' : World) : Prop :=
  (∃ x n v, tk bs = .ok x n ∧ e = .returned (.tuple #[v, .int .i64 (n : Int), .int .i64 0]) ∧ IsBat B W' v x ∧ Below w.heap.size w W') ∨
  (∃ (k : Nat), tk bs = .err k ∧ e = .returned (.tuple #[.slice none 0 0, .int .i64 0, .int .i64 (k : Int)]) ∧ Below w.heap.size w W')
theorem IsB.none (w : World) : IsB w (.slice none 0 0) [] := ⟨_, _, _, rfl, rfl, HasA.nil _ _ _⟩

theorem frm_ne_iff (n : Nat) (rest x : List UInt8) (hx : x = (rest.drop 4).take n) (hl : 4 + n ≤ rest.length) : (frm x != (vb n ++ rest).take ((vb n).length + (4 + n))) = !(decide (rest.take 4 = leB 4 (crcSum x))) := by
  have hxl : x.length = n := by rw [hx, List.length_take, List.length_drop]; omega
  have e : (vb n ++ rest).take ((vb n).length + (4 + n)) = vb n ++ (rest.take 4 ++ x) := by
    rw [List.take_append, List.take_of_length_le (by omega), Nat.add_sub_cancel_left, List.take_add, ← hx]
  rw [e, frm, hxl, body, bne]
  congr 1
  by_cases h : rest.take 4 = leB 4 (crcSum x)
  · rw [h]; simp
  · have h2 : ¬ (vb n ++ (leB 4 (crcSum x) ++ x) = vb n ++ (rest.take 4 ++ x)) := fun e => h (List.append_cancel_right (List.append_cancel_left e)).symm
    rw [beq_eq_false_iff_ne.2 h2]
    simp [h]

set_option maxRecDepth 100000 in
set_option maxHeartbeats 2000000 in
theorem ref_FTake (A : Option Addr) (L c : Nat) (bs : List UInt8) (hL : L = bs.length) (hlen : L ≤ 1000000) (hcap : L ≤ c) (w : World) (B : Nat) (hBw : B ≤ w.heap.size) (hAB : HasA w B A bs) :
    Calls Tryd.prog 10 #[.slice A L c] w (TakePostR B w bs) := by
  have hA := hAB.more hBw
  have HAB := Lib.hid hAB
  have HL := Lib.hid hL
  have HA := Lib.hid hA
  clear hL hA hAB
  have hli : (L : Int) ≤ 1000000 := by omega
  cases hr : rdU bs with
  | short =>
    have HE := Lib.hid (tkV_short hr)
    have HT := Lib.hid (tk_of_short hr)
    clear hr
    go_enter Tryd.func10, Tryd.ntmps10
    go_wp2_with fail
    refine (ref_Take01 A L c bs HL.out hlen hcap w HA.out).mono ?_
    rintro e W1 ⟨rfl, hb1⟩
    rw [HE.out]
    have B1 := Lib.hid hb1
    clear hb1
    go_wp2
    go_ret3
    exact .inr ⟨10, HT.out, rfl, B1.out⟩
  | form r =>
    have HE := Lib.hid (tkV_form hr)
    have HT := Lib.hid (tk_of_form hr)
    clear hr
    go_enter Tryd.func10, Tryd.ntmps10
    go_wp2_with fail
    refine (ref_Take01 A L c bs HL.out hlen hcap w HA.out).mono ?_
    rintro e W1 ⟨rfl, hb1⟩
    rw [HE.out]
    have B1 := Lib.hid hb1
    clear hb1
    go_wp2
    go_ret3
    exact .inr ⟨11, HT.out, rfl, B1.out⟩
  | ok n rest =>
    obtain ⟨hbs, hn64⟩ := rdU_ok hr
    have hT := tk_of_ok hr
    have hE := tkV_ok hr
    have hkl : bs.length - rest.length = (vb n).length := by rw [hbs]; simp
    rw [hkl] at hE
    obtain ⟨k, hk⟩ : ∃ k, k = (vb n).length := ⟨_, rfl⟩
    have hk10 : k ≤ 10 := by rw [hk]; exact vb_len10 hn64
    have hkr : L = k + rest.length := by rw [HL.out, hbs, List.length_append, hk]
    rw [← hk] at hE
    have HE := Lib.hid hE
    have HB := Lib.hid hbs
    have HK := Lib.hid hk
    clear hE hbs hk hkl hr
    by_cases hn1 : n < 1
    · obtain rfl : n = 0 := by omega
      have HT := Lib.hid (hT.trans (show tkR 0 rest = .err 11 by unfold tkR; rw [if_pos (by omega)]))
      clear hT hkr
      go_enter Tryd.func10, Tryd.ntmps10
      go_wp2_with fail
      refine (ref_Take01 A L c bs HL.out hlen hcap w HA.out).mono ?_
      rintro e W1 ⟨rfl, hb1⟩
      rw [HE.out]
      have B1 := Lib.hid hb1
      clear hb1
      go_wp2
      go_ret3
      exact .inr ⟨11, HT.out, rfl, B1.out⟩
    · have hn1i : ¬ (n : Int) < 1 := by omega
      by_cases hn2 : 65536 < n
      · have hn2i : (65536 : Int) < n := by omega
        have HT := Lib.hid (hT.trans (show tkR n rest = .err 11 by unfold tkR; rw [if_pos (by omega)]))
        clear hT hkr
        go_enter Tryd.func10, Tryd.ntmps10
        go_wp2_with fail
        refine (ref_Take01 A L c bs HL.out hlen hcap w HA.out).mono ?_
        rintro e W1 ⟨rfl, hb1⟩
        rw [HE.out]
        have B1 := Lib.hid hb1
        clear hb1
        go_wp2
        go_ret3
        exact .inr ⟨11, HT.out, rfl, B1.out⟩
      · have hn2i : ¬ (65536 : Int) < n := by omega
        by_cases hsh : rest.length < 4 + n
        · have hshi : (L : Int) < (k : Int) + 4 + (n : Int) := by omega
          have HT := Lib.hid (hT.trans (show tkR n rest = .err 10 by unfold tkR; rw [if_neg (by omega), if_pos (by omega)]))
          clear hT hkr
          go_enter Tryd.func10, Tryd.ntmps10
          go_wp2_with fail
          refine (ref_Take01 A L c bs HL.out hlen hcap w HA.out).mono ?_
          rintro e W1 ⟨rfl, hb1⟩
          rw [HE.out]
          have B1 := Lib.hid hb1
          clear hb1
          go_wp2
          go_ret3
          exact .inr ⟨10, HT.out, rfl, B1.out⟩
        · have hshi : ¬ (L : Int) < (k : Int) + 4 + (n : Int) := by omega
          have hci : (k : Int) + 4 + (n : Int) ≤ c := by omega
          have hne : bs ≠ [] := by intro e; have := HL.out; rw [e] at this; simp at this; omega
          obtain ⟨b, o, hAe, hbB, hcell⟩ := HA.out hne
          subst hAe
          have HKR := Lib.hid hkr
          have HT := Lib.hid hT
          clear hcell hne hkr hT
          go_enter Tryd.func10, Tryd.ntmps10
          go_wp2_with fail
          refine (ref_Take01 _ L c bs HL.out hlen hcap w HA.out).mono ?_
          rintro e W1 ⟨rfl, hb1⟩
          rw [HE.out]
          have B1 := Lib.hid hb1
          clear hb1
          go_wp2
          rw [show k + 4 + n - (k + 4) = n by omega]
          obtain ⟨x, hx⟩ : ∃ x, x = (rest.drop 4).take n := ⟨_, rfl⟩
          have hxl : n = x.length := by rw [hx, List.length_take, List.length_drop]; omega
          have hdr : (bs.drop (k + 4)).take n = x := by
            rw [HB.out, hx, HK.out, ← List.drop_drop, List.drop_left]
          have hA2 : HasA W1 W1.heap.size (some ⟨b, o + (k + 4), none⟩) x := by
            rw [← hdr]
            exact ((HA.out.below' B1.out).cut b o (k + 4) rfl).take n
          have hA3 : HasA W1 B (some ⟨b, o + (k + 4), none⟩) x := by
            rw [← hdr]
            exact ((HAB.out.below (Below.mono B1.out hBw)).cut b o (k + 4) rfl).take n
          have hm : k + 4 + n = (bs.take (k + 4 + n)).length := by rw [List.length_take, ← HL.out, HKR.out]; omega
          have hcmp : (frm x != bs.take (k + 4 + n)) = !(decide (rest.take 4 = leB 4 (crcSum x))) := by
            have h := frm_ne_iff n rest x hx (by omega)
            rw [← HB.out, ← HK.out, show k + (4 + n) = k + 4 + n by omega] at h
            exact h
          refine rtake_region (some ⟨b, o, none⟩) (some ⟨b, o + (k + 4), none⟩) L c n (c - (k + 4)) (k + 4 + n) bs x hxl (by omega) hm (by omega) (by omega) _ W1 _ rfl rfl rfl rfl (HA.out.below' B1.out) hA2 ?_
          intro v40 W2 hv40 hg2
          rw [hcmp]
          have HX := Lib.hid hx
          have HXL := Lib.hid hxl
          have HA2 := Lib.hid hA3
          have HG2 := Lib.hid hg2
          clear hx hxl hdr hA2 hA3 hm hcmp hv40 hg2
          by_cases hsum : rest.take 4 = leB 4 (crcSum x)
          · have hd : decide (rest.take 4 = leB 4 (crcSum x)) = true := by simpa using hsum
            have HT2 := Lib.hid (HT.out.trans (show tkR n rest = .ok x (k + 4 + n) by
              unfold tkR
              rw [if_neg (by omega), if_neg hsh, ← HX.out, if_pos hsum, ← HK.out, Nat.add_assoc]))
            rw [hd]
            clear hsum hd
            simp only [puts, List.foldl_cons, List.foldl_nil, Act.put, List.setIfInBounds_toArray, List.set_cons_succ, List.set_cons_zero]
            go_wp2
            go_ret3
            refine .inl ⟨x, k + 4 + n, _, HT2.out, rfl, ⟨_, n, _, rfl, HXL.out, HA2.out.below (Below.mono HG2.out (Nat.le_trans hBw B1.out.size))⟩, B1.out.trans (Below.mono HG2.out B1.out.size)⟩
          · have hd : decide (rest.take 4 = leB 4 (crcSum x)) = false := by simpa using hsum
            have HT2 := Lib.hid (HT.out.trans (show tkR n rest = .err 12 by
              unfold tkR
              rw [if_neg (by omega), if_neg hsh, ← HX.out, if_neg hsum]))
            rw [hd]
            clear hsum hd
            simp only [puts, List.foldl_cons, List.foldl_nil, Act.put, List.setIfInBounds_toArray, List.set_cons_succ, List.set_cons_zero]
            go_wp2
            go_ret3
            exact .inr ⟨12, HT2.out, rfl, B1.out.trans (Below.mono HG2.out B1.out.size)⟩

theorem TakePostR.post {B : Nat} {w : World} {bs : List UInt8} {e : Ending} {W' : World} (hB : B ≤ w.heap.size) (h : TakePostR B w bs e W') : TakePost w bs e W' := by
  rcases h with ⟨x, n, v, h1, h2, h3, h4⟩ | ⟨k, h1, h2, h4⟩
  · exact .inl ⟨x, n, v, h1, h2, h3.isB (Nat.le_trans hB h4.size), h4⟩
  · exact .inr ⟨k, _, h1, h2, IsB.none _, h4⟩
end Go.Proofs.YtbhncffeoolhfaaDoor
