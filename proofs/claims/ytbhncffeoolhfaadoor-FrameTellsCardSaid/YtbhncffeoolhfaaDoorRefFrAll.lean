/- The contract of the document's own taking of all frames. -/
import Derived.Test.YtbhncffeoolhfaaDoorRefFrTake
namespace Go.Proofs.YtbhncffeoolhfaaDoor
open Go.RowKit

theorem infoB : (Tryd.prog.info? 22).map (fun i => (i.zero, i.size, i.bytes)) = some (some (.slice none 0 0), 1, 24) := by kernel_rfl
theorem infoB_parts : ∃ i, Tryd.prog.info? 22 = some i ∧ i.zero = some (.slice none 0 0) ∧ i.size = 1 ∧ i.bytes = 24 := by
  obtain ⟨i, hi, h⟩ := Option.map_eq_some_iff.1 infoB
  simp only [Prod.mk.injEq] at h
  exact ⟨i, hi, h.1, h.2.1, h.2.2⟩

/-- v is a slice of slices of the bytes Xs. -/
def IsBB (w : World) (v : Value) (Xs : List (List UInt8)) : Prop := ∃ A L c, v = .slice A L c ∧ L = Xs.length ∧
  (Xs ≠ [] → ∃ b o, A = some ⟨b, o, none⟩ ∧ b < w.heap.size ∧ ∀ i (h : i < Xs.length), ∃ u, w.cell? ⟨b, o + i, none⟩ = some u ∧ IsB w u Xs[i])
theorem IsBB.grew {w w' : World} {v : Value} {Xs : List (List UInt8)} (h : IsBB w v Xs) (hg : Grew w w') : IsBB w' v Xs := by
  obtain ⟨A, L, c, hv, hL, hA⟩ := h
  refine ⟨A, L, c, hv, hL, fun hn => ?_⟩
  obtain ⟨b, o, hAe, hb, hc⟩ := hA hn
  refine ⟨b, o, hAe, Nat.lt_of_lt_of_le hb (Below.size hg), fun i hi => ?_⟩
  obtain ⟨u, hu, hI⟩ := hc i hi
  exact ⟨u, (Below.cell hg (p := ⟨b, o + i, none⟩) hb).trans hu, hI.grew hg⟩
/-- Values that are slices of bytes, one by one. -/
def AllB (P : Value → List UInt8 → Prop) (vs : List Value) (Xs : List (List UInt8)) : Prop := vs.length = Xs.length ∧ ∀ i (h : i < vs.length) (h' : i < Xs.length), P vs[i] Xs[i]
theorem AllB.nil {P : Value → List UInt8 → Prop} : AllB P [] [] := ⟨rfl, fun i h => by simp at h⟩
theorem AllB.snoc {P : Value → List UInt8 → Prop} {vs : List Value} {Xs : List (List UInt8)} {v : Value} {X : List UInt8} (h : AllB P vs Xs) (hv : P v X) : AllB P (vs ++ [v]) (Xs ++ [X]) := by
  refine ⟨by simp [h.1], fun i hi hi' => ?_⟩
  by_cases hl : i < vs.length
  · have hl' : i < Xs.length := by rw [← h.1]; exact hl
    rw [List.getElem_append_left hl, List.getElem_append_left hl']
    exact h.2 i hl hl'
  · have e : i = vs.length := by simp at hi; omega
    subst e
    have e2 : vs.length = Xs.length := h.1
    simp only [e2, List.getElem_concat_length]
    exact hv
theorem AllB.mono {P P' : Value → List UInt8 → Prop} {vs : List Value} {Xs : List (List UInt8)} (h : AllB P vs Xs) (hp : ∀ v X, P v X → P' v X) : AllB P' vs Xs := ⟨h.1, fun i h1 h2 => hp _ _ (h.2 i h1 h2)⟩
theorem IsBB.own {w : World} {base n : Nat} {e : TypeId} {v : Value} {vs : List Value} {Xs : List (List UInt8)} (h : w.ownsRow base e 1 v n vs) (hb : AllB (IsB w) vs Xs) : IsBB w v Xs := by
  have hl : vs.length = n := by have := h.1; simpa using this
  rcases h.2 with ⟨rfl, h0⟩ | ⟨g, cap, cur, rfl, _⟩
  · refine ⟨none, 0, 0, rfl, by have := hb.1; omega, fun hn => absurd (List.eq_nil_of_length_eq_zero (by have := hb.1; omega)) hn⟩
  · refine ⟨_, n, cap, rfl, by have := hb.1; omega, fun hn => ⟨g, 0, rfl, (h.lt g rfl).2, fun i hi => ?_⟩⟩
    have hi' : i < vs.length := by rw [hb.1]; exact hi
    refine ⟨vs[i], ?_, hb.2 i hi' hi⟩
    have := h.cells (g := g) rfl i vs[i] (by simp [hi'])
    rwa [addr_add] at this

theorem tk_err_pos (bs : List UInt8) : tk bs ≠ .err 0 := by
  unfold tk
  split
  · intro h; cases h
  · intro h; cases h
  · unfold tkR
    repeat' split
    all_goals (intro h; cases h)

/-- What taking all frames gives back. -/
def AllPost (w : World) (bs : List UInt8) (e : Ending) (W' : World) : Prop :=
  ∃ v, e = .returned (.tuple #[v, .int .i64 ((al bs).2.1 : Int), .int .i64 ((al bs).2.2 : Int)]) ∧ IsBB W' v (al bs).1 ∧ Below w.heap.size w W'

/-- What the loop keeps. -/
def FA (w : World) (bs : List UInt8) (v : Value) (p : Nat) (W : World) : Prop :=
  ∃ vs dn, W.ownsRow w.heap.size 22 1 v dn.length vs ∧ AllB (IsBat w.heap.size W) vs dn ∧ al bs = (dn ++ (al (bs.drop p)).1, p + (al (bs.drop p)).2.1, (al (bs.drop p)).2.2) ∧ Below w.heap.size w W

theorem al_count (bs : List UInt8) : (al bs).1.length ≤ bs.length := by
  induction hn : bs.length using Nat.strongRecOn generalizing bs with
  | ind n ih =>
    by_cases hb : bs = []
    · subst hb; rw [al_nil]; simp
    · cases h : tk bs with
      | err e => rw [al_err hb h]; simp
      | ok x m =>
        have := tk_pos h
        have := ih (bs.drop m).length (by rw [List.length_drop]; omega) (bs.drop m) rfl
        rw [al_ok h]
        simp only [List.length_cons]
        rw [List.length_drop] at this
        omega

set_option maxRecDepth 100000 in
set_option maxHeartbeats 2000000 in
theorem ref_FAll (A : Option Addr) (L c : Nat) (bs : List UInt8) (hL : L = bs.length) (hlen : L ≤ 1000000) (hcap : L ≤ c) (w : World) (hA : HasA w w.heap.size A bs) :
    Calls Tryd.prog 12 #[.slice A L c] w (AllPost w bs) := by
  obtain ⟨iB, hi, hz0, hz1, hz2⟩ := infoB_parts
  have HL := Lib.hid hL
  have HA := Lib.hid hA
  clear hL hA
  have hli : (L : Int) ≤ 1000000 := by omega
  go_enter Tryd.func12, Tryd.ntmps12
  go_wp2
  go_loopw [5, 6] (fun v i wr => ∃ p : Nat, p ≤ L ∧ i = .int .i64 (p : Int) ∧ Hid (FA w bs v p wr)) (fun _ i _ => L - (intOf i).toNat)
  case atStart =>
    refine ⟨0, Nat.zero_le _, rfl, Lib.hid ⟨[], [], World.ownsRow_nil _ _ _ _, AllB.nil, by simp, Below.refl _ _⟩⟩
  case round =>
    obtain ⟨p, hp, rfl, hfa⟩ := hrel
    by_cases hlt : p < L
    · have hpi : (p : Int) < L := by omega
      have hci : (L : Int) ≤ c := by omega
      have hbl := HL.out
      have hne : bs ≠ [] := by rintro rfl; simp at hbl; omega
      obtain ⟨b, o, hAe, hbB, -⟩ := HA.out hne
      subst hAe
      clear hne hbl
      obtain ⟨vs, dn, hown, hall, hal, hB⟩ := hfa.out
      have HD := Lib.hid (show L - p = (bs.drop p).length by rw [List.length_drop, HL.out])
      have HA2 := Lib.hid ((HA.out.below hB).cut b o p rfl)
      have hsz := hB.size
      have HO := Lib.hid hown
      have HALL := Lib.hid hall
      have HAL := Lib.hid hal
      have B0 := Lib.hid hB
      clear hown hall hal hB hfa
      have HD2 := Lib.hid (show L - p ≤ 1000000 by omega)
      cases htk : tk (bs.drop p) with
      | err e =>
        have HTK := Lib.hid htk
        clear htk
        go_wp2_with fail
        refine (ref_FTake _ (L - p) (c - p) (bs.drop p) HD.out HD2.out (by omega) wr w.heap.size hsz HA2.out).mono ?_
        rintro e1 W1 (⟨x, n, v, h1, h2, h3, h4⟩ | ⟨k, h1, rfl, h4⟩)
        · rw [HTK.out] at h1; cases h1
        · rw [HTK.out] at h1
          cases h1
          have hek : ((e : Int) != 0) = true := by
            rcases Nat.eq_zero_or_pos e with h0 | h0
            · subst h0; exact absurd HTK.out (tk_err_pos _)
            · simp; omega
          have B1 := Lib.hid (B0.out.trans (Below.mono h4 hsz))
          have HO1 := Lib.hid (own_below HO.out h4)
          have HALL1 := Lib.hid (HALL.out.mono fun v X h => h.below (Below.mono h4 hsz))
          have HAL1 := Lib.hid (HAL.out.trans (by rw [al_err (by intro h0; have := congrArg List.length h0; rw [List.length_drop, ← HL.out] at this; simp at this; omega) HTK.out]))
          clear h4
          go_wp2
          go_ret3
          refine ⟨u5, ?_, ?_, B1.out⟩
          · rw [HAL1.out]; simp
          · rw [HAL1.out]
            simpa using IsBB.own HO1.out (HALL1.out.mono fun v X h => h.isB B1.out.size)
      | ok x n =>
        have htp := tk_pos htk
        have hcnt := al_count bs
        rw [HAL.out, ← HL.out] at hcnt
        simp only [List.length_append] at hcnt
        have hdl : dn.length ≤ 1000000 := by omega
        have hnp : n ≤ L - p := by rw [HD.out]; exact htp.2
        have hn5 := htp.1
        have hni : (p : Int) + (n : Int) ≤ 1000000 := by omega
        have HTK := Lib.hid htk
        clear htk htp hcnt
        go_wp2_with fail
        refine (ref_FTake _ (L - p) (c - p) (bs.drop p) HD.out HD2.out (by omega) wr w.heap.size hsz HA2.out).mono ?_
        rintro e1 W1 (⟨x', n', v, h1, rfl, h3, h4⟩ | ⟨k, h1, rfl, h4⟩)
        · rw [HTK.out] at h1
          cases h1
          have B1 := Lib.hid (B0.out.trans (Below.mono h4 hsz))
          have HO1 := Lib.hid (own_below HO.out h4)
          have HALL1 := Lib.hid (HALL.out.mono fun v X h => h.below (Below.mono h4 hsz))
          have H3 := Lib.hid h3
          obtain ⟨Ax, Lx, cx, rfl, -⟩ := h3
          clear h4
          go_wp2_with (at_builtin; refine wpList_append_own _ rfl (.tmp 27) (.tmp 29) 30 rfl w.heap.size 22 iB (.slice none 0 0) 1 24 Tryd.underlying30 hi hz0 hz1 hz2 rfl (by decide) _ dn.length vs rfl (HO1.out.alloc _) ⟨W1.heap.size, 0, none⟩ 1 1 [.slice Ax Lx cx] rfl rfl (cell_one_new _ _ _) (fun u hu => by rw [List.mem_singleton.1 hu]; exact H3.out.slice) (by simp only [maxLen]; omega) (by omega) (by have := B1.out.size; simp; omega) ?_; intro v2 W2 hown2 hg2 _)
          have hB2 : Below w.heap.size w W2 := (B1.out.alloc B1.out.size _).grown hg2 (by have := B1.out.size; simp; omega) (fun k e => (HO1.out.lt k e).1)
          have hB12 : Below w.heap.size W1 W2 := ((Below.refl w.heap.size W1).alloc B1.out.size _).grown hg2 (by have := B1.out.size; simp; omega) (fun k e => (HO1.out.lt k e).1)
          refine ⟨⟨p + n, by omega, by congr 1, Lib.hid ⟨vs ++ [.slice Ax Lx cx], dn ++ [x], ?_, ?_, ?_, hB2⟩⟩, by simp only [intOf]; omega⟩
          · rw [List.length_append]; exact hown2
          · exact (HALL1.out.mono fun v X h => h.below hB12).snoc (H3.out.below hB12)
          · rw [HAL.out, al_ok HTK.out, List.drop_drop]
            simp [Nat.add_assoc]
        · rw [HTK.out] at h1; cases h1
    · obtain rfl : p = L := by omega
      obtain ⟨vs, dn, hown, hall, hal, hB⟩ := hfa.out
      have hd : bs.drop p = [] := List.drop_of_length_le (by rw [← HL.out]; exact Nat.le_refl _)
      rw [hd, al_nil] at hal
      have HO := Lib.hid hown
      have HALL := Lib.hid hall
      have HAL := Lib.hid hal
      have B0 := Lib.hid hB
      clear hown hall hal hB hfa hd
      go_wp2
      go_ret3
      refine ⟨u5, ?_, ?_, B0.out⟩
      · rw [HAL.out]; simp
      · rw [HAL.out]
        simpa using IsBB.own HO.out (HALL.out.mono fun v X h => h.isB B0.out.size)
end Go.Proofs.YtbhncffeoolhfaaDoor
