/- VotesPlay: near, and same. -/
import Derived.Test.YtnpkaljmncehhaaVoRn
namespace Go.Proofs.Ytnpkaljmncehhaa
open Go.RowKit

set_option maxRecDepth 100000 in
set_option maxHeartbeats 1000000 in
theorem near_any (w : World) (r : Int) (x y : Nat) (fr : Bool) (hx : x < 256) (hy : y < 256) : Calls Try.prog 9 #[.agg #[.int .i64 r, .int .u8 (x : Int), .int .u8 (y : Int), .bool fr]] w fun e W' => e = .returned (.tuple #[.int .i64 ((min (x % 200) (y % 200) : Nat) : Int), .int .i64 ((max (x % 200) (y % 200) : Nat) : Int)]) ∧ Below w.heap.size w W' := by
  have HX := Lib.hid (And.intro hx hy)
  clear hx hy
  go_enter Try.func9, Try.ntmps9
  go_upto_region 1 with (fail)
  obtain ⟨W1, hW1⟩ : ∃ V, V = w.alloc (.cells #[.int .i64 r, .int .u8 (x : Int), .int .u8 (y : Int), .bool fr] 33) := ⟨_, rfl⟩
  rw [← hW1]
  have b1 : Below w.heap.size w W1 := by rw [hW1]; exact (Below.refl _ _).alloc (Nat.le_refl _) _
  have k1 : W1.heap[w.heap.size]? = some (.cells #[.int .i64 r, .int .u8 (x : Int), .int .u8 (y : Int), .bool fr] 33 (0, 0)) := by rw [hW1]; exact World.alloc_heap_new w _
  refine near_r w.heap.size x y _ W1 _ rfl rfl (Array.getElem?_eq_some_iff.1 k1).1 HX.out.1 HX.out.2 (blk_cell k1 1) (blk_cell k1 2) ?_
  intro W2 b2
  have H2 := Lib.hid (b1.trans (Below.mono b2 b1.size))
  obtain ⟨X, hX⟩ : ∃ X, X = x % 200 := ⟨_, rfl⟩
  obtain ⟨Y, hY⟩ : ∃ Y, Y = y % 200 := ⟨_, rfl⟩
  rw [← hX, ← hY]
  have HXY := Lib.hid (And.intro hX hY)
  simp only [puts, List.foldl_cons, List.foldl_nil, Act.put, List.setIfInBounds_toArray, List.set_cons_succ, List.set_cons_zero]
  clear b1 k1 hW1 b2 hX hY
  have e1 := Lib.hid (show ((min X Y : Nat) : Int) = min (X : Int) Y by omega)
  have e2 := Lib.hid (show ((max X Y : Nat) : Int) = max (X : Int) Y by omega)
  go_wp2
  go_ret2
  exact ⟨by rw [← HXY.out.1, ← HXY.out.2, e1.out, e2.out]; rfl, H2.out⟩
theorem uptoR_ex (n F : Nat) (S : Nat → Nat → Bool) : ∀ d s, s + d = 200 → ∃ m, UptoR n F S s m
  | 0, s, h => ⟨s, Nat.le_refl _, by omega, fun x h1 h2 => by omega, fun h => by omega⟩
  | d + 1, s, h => by
    cases hc : chosenR n F S (s + 1) with
    | false => exact ⟨s, Nat.le_refl _, by omega, fun x h1 h2 => by omega, fun _ => hc⟩
    | true =>
      obtain ⟨m, hm⟩ := uptoR_ex n F S d (s + 1) (by omega)
      refine ⟨m, by have := hm.le; omega, hm.lt, fun x h1 h2 => ?_, hm.stop⟩
      by_cases e : x = s + 1
      · rw [e]; exact hc
      · exact hm.all x (by omega) h2
/-- Both tallies tell the same. -/
structure RelV (t : TM) (n F : Nat) (S : Nat → Nat → Bool) : Prop where
  en : t.n = n
  eF : t.F = F
  eS : ∀ r s, t.S r s = (decide (F < s) && S r s)
  lim : ∀ r s, S r s = true → s < 200
  low : F < 200
section
variable {t : TM} {n F : Nat} {S : Nat → Nat → Bool}
theorem RelV.has (h : RelV t n F S) (r s : Nat) : t.has r s = hasR F S r s := by
  unfold TM.has hasR
  rw [h.eF, h.eS]
  by_cases e : s ≤ F
  · simp [e]
  · have : F < s := by omega
    simp [e, this]
theorem RelV.chosen (h : RelV t n F S) (s : Nat) : t.chosen s = chosenR n F S s := by
  unfold TM.chosen chosenR TM.count
  rw [h.en, cntF_congr fun r _ => h.has r s]
theorem RelV.upto (h : RelV t n F S) (ht : t.ok) {s m : Nat} (hm : UptoR n F S (max s F) m) : UptoIs t s m := by
  refine UptoIs.floor ht ⟨by rw [h.eF]; exact hm.le, by have := hm.lt; omega, fun x h1 h2 => ?_, fun _ => ?_⟩
  · rw [h.chosen]
    rw [h.eF] at h1
    exact hm.all x h1 h2
  · rw [h.chosen]
    by_cases e : m < 200
    · exact hm.stop e
    · have e2 : m = 200 := by have := hm.lt; omega
      subst e2
      unfold chosenR
      rw [cntF_none fun r _ => ?_]
      · simp
      · unfold hasR
        have h1 : ¬ 200 + 1 ≤ F := by have := h.low; omega
        have h2 : S r (200 + 1) = false := by
          cases e3 : S r (200 + 1) with
          | false => rfl
          | true => have := h.lim _ _ e3; omega
        simp [h1, h2]
theorem RelV.spans (h : RelV t n F S) {r : Nat} {l : List (Nat × Nat)} (hl : SpTo (fun s => decide (F < s) && S r s) 201 l) : SpansOf l (t.S r) := ⟨hl.canon, fun s => by
  rw [hl.mem, h.eS]
  constructor
  · exact fun ⟨h1, _⟩ => h1
  · intro h1
    refine ⟨h1, ?_⟩
    rw [Bool.and_eq_true] at h1
    have := h.lim _ _ h1.2
    omega⟩
theorem RelV.lt (h : RelV t n F S) (r s : Nat) (hs : t.S r s = true) : s < 200 := by
  rw [h.eS, Bool.and_eq_true] at hs
  exact h.lim _ _ hs.2
theorem RelV.new {n : Nat} : RelV (TM.new n) n 0 fun _ _ => false := ⟨rfl, rfl, fun _ _ => by simp [TM.new], fun _ _ h => (by cases h), by decide⟩
theorem RelV.add (h : RelV t n F S) (r a b : Nat) (hb : b < 200) : RelV (t.add r a b) n F fun x y => if x = r ∧ a ≤ y ∧ y ≤ b then true else S x y := by
  refine ⟨h.en, h.eF, fun x y => ?_, fun x y hs => ?_, h.low⟩
  · have e : (t.add r a b).S x y = if x = r ∧ a ≤ y ∧ y ≤ b ∧ t.F < y then true else t.S x y := rfl
    rw [e, h.eS, h.eF]
    by_cases h1 : x = r ∧ a ≤ y ∧ y ≤ b
    · rw [if_pos h1]
      by_cases h2 : F < y
      · rw [if_pos ⟨h1.1, h1.2.1, h1.2.2, h2⟩]
        simp [h2]
      · rw [if_neg (fun h3 => h2 h3.2.2.2)]
        simp [h2]
    · rw [if_neg h1, if_neg (fun h3 => h1 ⟨h3.1, h3.2.1, h3.2.2.1⟩)]
  · split at hs
    · omega
    · exact h.lim _ _ hs
theorem RelV.release (h : RelV t n F S) (x : Nat) (hx : x < 200) : RelV (t.release x) n (max F x) S := by
  refine ⟨h.en, by show max t.F x = _; rw [h.eF], fun r s => ?_, h.lim, by have := h.low; omega⟩
  have e : (t.release x).S r s = (t.S r s && decide (max t.F x < s)) := rfl
  rw [e, h.eS, h.eF]
  by_cases h1 : max F x < s
  · have h2 : F < s := by omega
    simp [h1, h2]
  · simp [h1]
end
set_option maxRecDepth 100000 in
set_option maxHeartbeats 4000000 in
theorem same_any {T : World → Prop} {K : VotK T} {w W w0 : World} {R q g cap n F : Nat} {rb : Nat → Nat} {S : Nat → Nat → Bool} {t : TM} {P : Nat → Prop} (hL : LiveV K w R t P W) (hT : T w) (hR : RefV w0 q g cap rb n F S W) (hrel : RelV t n F S) (hc : t.c ≤ 1000) :
    Calls Try.prog 14 #[.pointer (some ⟨R, 0, none⟩), .pointer (some ⟨q, 0, none⟩)] W fun e W' => e = .returned (.bool true) ∧ Below W.heap.size W W' := by
  have h7 : n ≤ 7 := by have := hL.ok.n7; have := hrel.en; omega
  have h0 : 0 < n := by have := hL.ok.n0; have := hrel.en; omega
  have HL := Lib.hid (And.intro hL (And.intro hT (And.intro hR (And.intro hrel hc))))
  have HN := Lib.hid (And.intro h0 h7)
  have hni : (n : Int) ≤ 7 := by omega
  clear hL hT hR hrel hc h0 h7
  go_enter Try.func14, Try.ntmps14
  go_wp2
  go_loopw [5, 6, 7, 8] (fun v5 v6 v7 v8 wr => ∃ i : Nat, i ≤ n ∧ v5 = .int .i64 (i : Int) ∧ Hid (Below W.heap.size W wr)) (fun i _ _ _ _ => n - (intOf i).toNat)
  case atStart => exact ⟨0, Nat.zero_le _, rfl, Lib.hid (Below.refl _ _)⟩
  case round =>
    obtain ⟨i, hi, rfl, HB⟩ := hrel
    have hR := HL.out.2.2.1.below HB.out
    have x0 := blk_cell hR.kq 0
    simp at x0
    by_cases hlt : i < n
    · have hii : (i : Int) < n := by omega
      have HSP := Lib.hid ((HL.out.1.grew HB.out).spansX HL.out.2.1 HL.out.2.2.2.2 i (by rw [HL.out.2.2.2.1.en]; exact hlt))
      clear hR
      go_wp2_with fail
      refine HSP.out.mono ?_
      rintro e W3 ⟨Aa, ca, sp, rfl, hsp, hsl, hha, b3⟩
      have HB3 := Lib.hid (HB.out.trans (Below.mono b3 HB.out.size))
      have HSR := Lib.hid (refSpans_any (HL.out.2.2.1.below HB3.out) HN.out.2 (by have := HL.out.2.2.2.1.low; omega) i hlt)
      have HA3 := Lib.hid (And.intro hha (And.intro hsp hsl))
      clear hha hsp hsl b3 HSP x0
      go_wp2_with fail
      refine HSR.out.mono ?_
      rintro e W4 ⟨Ab, cb, sp', rfl, hsp', hhb, b4⟩
      obtain rfl : sp = sp' := HA3.out.2.1.unique (HL.out.2.2.2.1.spans hsp')
      have H4 : Hid (Below W.heap.size W W4 ∧ HasSp W4 Aa sp ∧ HasI2 W4 Ab sp) := Lib.hid ⟨HB3.out.trans (Below.mono b4 HB3.out.size), HA3.out.1.below b4, hhb⟩
      have HLT := Lib.hid (HA3.out.2.1.lt (M := 200) (fun s hs => HL.out.2.2.2.1.lt i s hs))
      obtain ⟨m, hm⟩ : ∃ m, m = sp.length := ⟨_, rfl⟩
      rw [← hm]
      have HM := Lib.hid hm
      have hmi : (m : Int) ≤ 100000 := by have := HA3.out.2.2; omega
      clear hsp' hhb b4 HSR HB3 HB hm
      go_wp2
      go_loopw [8] (fun v8 wr => ∃ k : Nat, k ≤ m ∧ v8 = .int .i64 (k : Int) ∧ Hid (Below W.heap.size W wr ∧ HasSp wr Aa sp ∧ HasI2 wr Ab sp)) (fun v _ => m - (intOf v).toNat)
      case atStart => exact ⟨0, Nat.zero_le _, rfl, H4⟩
      case round =>
        obtain ⟨k, hk, rfl, HZ⟩ := hrel
        by_cases hkm : k < m
        · have hki : (k : Int) < m := by omega
          have hkl : k < sp.length := by have := HM.out; omega
          obtain ⟨ab, ao, ea, la, fA⟩ := HZ.out.2.1 (by rintro rfl; simp at hkl)
          obtain ⟨bb, bo, eb, lb, fB⟩ := HZ.out.2.2 (by rintro rfl; simp at hkl)
          subst ea eb
          obtain ⟨x0, x1⟩ := fA k hkl
          obtain ⟨y0, y1⟩ := fB k hkl
          have hl2 := HLT.out _ (List.getElem_mem hkl)
          go_upto_region 10 with (fail)
          refine same_cmp ab ao ca bb bo cb m k sp[k].1 sp[k].2 _ wr _ rfl rfl rfl rfl la lb hkm (by omega) (by omega) x0 x1 y0 y1 ?_
          intro W6 b6
          have H6 : Hid (Below W.heap.size W W6 ∧ HasSp W6 (some ⟨ab, ao, none⟩) sp ∧ HasI2 W6 (some ⟨bb, bo, none⟩) sp) := Lib.hid ⟨HZ.out.1.trans (Below.mono b6 HZ.out.1.size), HZ.out.2.1.below b6, HZ.out.2.2.below b6⟩
          simp only [puts, List.foldl_cons, List.foldl_nil, Act.put, List.setIfInBounds_toArray, List.set_cons_succ, List.set_cons_zero]
          clear x0 x1 y0 y1 fA fB la lb hl2 b6 HZ
          go_wp2
          exact ⟨⟨k + 1, by omega, by congr 1, H6⟩, by simp only [intOf]; omega⟩
        · have hki : ¬ (k : Int) < m := by omega
          have H6 := Lib.hid HZ.out.1
          clear HZ
          go_wp2
          exact ⟨⟨i + 1, by omega, by congr 1, H6⟩, by simp only [intOf]; omega⟩
    · have hii : ¬ (i : Int) < n := by omega
      clear hR
      go_wp2
      clear x0
      go_loopw [9] (fun v9 wr => ∃ s : Nat, s ≤ 206 ∧ v9 = .int .i64 (s : Int) ∧ Hid (Below W.heap.size W wr)) (fun v _ => 206 - (intOf v).toNat)
      case atStart => exact ⟨0, Nat.zero_le _, rfl, HB⟩
      case round =>
        obtain ⟨s, hs, rfl, HZ⟩ := hrel
        by_cases hsl : s < 200
        · have hsi : (s : Int) < 200 := by omega
          obtain ⟨m, hm⟩ := uptoR_ex n F S (200 - max s F) (max s F) (by have := HL.out.2.2.2.1.low; omega)
          have hkq := (HL.out.2.2.1.below HZ.out).kq
          have hF := HL.out.2.2.2.1.low
          have hq : s % n < n := Nat.mod_lt _ HN.out.1
          have hz : ∀ V, Grew wr V → Below W.heap.size W V := fun V hV => HZ.out.trans (Below.mono hV HZ.out.size)
          have hup := HL.out.2.2.2.1.upto HL.out.1.ok hm
          go_upto_region 15 with (fail)
          refine same_tell R q g cap n F s m (t.chosen s) (t.has (s % n) s) _ wr _ rfl rfl rfl rfl hkq HN.out.1 (by omega) (by have := hm.lt; omega) ?_ ?_ ?_ ?_ ?_ ?_ ?_
          · exact fun V hV => (HL.out.1.grew (hz V hV)).chosen HL.out.2.1 HL.out.2.2.2.2 s (by omega)
          · exact fun V hV => (refChosen_any (HL.out.2.2.1.below (hz V hV)) HN.out.2 (by omega) s (by omega)).mono fun e W' ⟨he, hw⟩ => ⟨by rw [he, HL.out.2.2.2.1.chosen], by rw [hw]; exact Below.refl _ _⟩
          · exact fun V hV => (HL.out.1.grew (hz V hV)).has HL.out.2.1 HL.out.2.2.2.2 (s % n) s (by rw [HL.out.2.2.2.1.en]; exact hq) (by omega)
          · exact fun V hV => (refHas_any (HL.out.2.2.1.below (hz V hV)) HN.out.2 (by omega) (s % n) s hq (by omega)).mono fun e W' ⟨he, hw⟩ => ⟨by rw [he, HL.out.2.2.2.1.has], by rw [hw]; exact Below.refl _ _⟩
          · exact fun V hV => (HL.out.1.grew (hz V hV)).upto HL.out.2.1 HL.out.2.2.2.2 s m (by omega) hup
          · exact fun V hV => (refUpto_any (HL.out.2.2.1.below (hz V hV)) HN.out.2 (by omega) (max s F) (by omega)).mono fun e W' ⟨⟨m', hm', he⟩, hw⟩ => ⟨by rw [he, (HL.out.2.2.2.1.upto HL.out.1.ok hm').unique hup], by rw [hw]; exact Below.refl _ _⟩
          intro W6 b6
          have H6 : Hid (Below W.heap.size W W6) := Lib.hid (HZ.out.trans (Below.mono b6 HZ.out.size))
          simp only [puts, List.foldl_cons, List.foldl_nil, Act.put, List.setIfInBounds_toArray, List.set_cons_succ, List.set_cons_zero]
          clear hup hm hkq b6 HZ hz hq hF
          go_wp2
          exact ⟨⟨s + 7, by omega, by congr 1, H6⟩, by simp only [intOf]; omega⟩
        · have hsi : ¬ (s : Int) < 200 := by omega
          go_wp2
          go_ret
          exact ⟨rfl, HZ.out⟩
end Go.Proofs.Ytnpkaljmncehhaa
