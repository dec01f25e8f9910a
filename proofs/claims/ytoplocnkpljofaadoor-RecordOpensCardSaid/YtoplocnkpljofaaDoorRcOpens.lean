/- The walk of the law on opening a log. -/
import Derived.Test.YtoplocnkpljofaaDoorRcR13
import Derived.Test.YtoplocnkpljofaaDoorMRc
namespace Go.Proofs.YtoplocnkpljofaaDoor
open Go.RowKit

theorem opn_count (b : List UInt8) (n : Nat) : (opn b n).1.length ≤ b.length := by
  unfold opn
  split
  · have h1 := al_count (b.take n)
    have h2 := al_count (b.drop n)
    rw [List.length_take] at h1
    rw [List.length_drop] at h2
    simp only [List.length_append]
    omega
  · simp

/-- A disk that came since w, and bytes that lie apart from it. -/
structure LiveA (P : DiskK) (w : World) (R : Nat) (s : DS) (A : Option Addr) (W : World) : Prop where
  ex : ∃ F, P.Pl F W R s ∧ (∀ k, F k → w.heap.size ≤ k) ∧ ∀ b o, A = some ⟨b, o, none⟩ → ¬ F b
  below : Below w.heap.size w W
section
variable {P : DiskK} {w W W' : World} {R : Nat} {s : DS} {A : Option Addr}
theorem LiveA.disk (h : LiveA P w R s A W) : LiveD P w R s W := by
  obtain ⟨F, h1, h2, h3⟩ := h.ex
  exact ⟨⟨F, h1, h2⟩, h.below⟩
theorem LiveA.grew (h : LiveA P w R s A W) (hb : Below W.heap.size W W') : LiveA P w R s A W' := by
  obtain ⟨F, h1, h2, h3⟩ := h.ex
  exact ⟨⟨F, P.keep h1 (Only.of_grew (F := fun _ => False) hb) (fun _ _ => id), h2, h3⟩, h.below.trans (Below.mono hb h.below.size)⟩
theorem LiveD.read (h : LiveD P w R s W) : Calls Tryd.prog 10 #[.pointer (some ⟨R, 0, none⟩)] W fun e W' => ∃ A L c, e = .returned (.slice A L c) ∧ W'.ownsRow W.heap.size 5 1 (.slice A L c) L (s.A.map enc) ∧ LiveA P w R s A W' := by
  obtain ⟨F, h1, h2⟩ := h.ex
  refine (P.bytes h1).mono ?_
  rintro e W' ⟨v, L, he, ho, hb⟩
  obtain ⟨A, c, rfl⟩ := own_form ho
  refine ⟨A, L, c, he, ho, ⟨F, P.keep h1 (Only.of_grew (F := fun _ => False) hb) (fun _ _ => id), h2, fun b o e hf => ?_⟩, h.below.trans (Below.mono hb h.below.size)⟩
  subst e
  rcases ho.2 with ⟨hv, _⟩ | ⟨g, cap, cur, hv, hg, _⟩
  · cases hv
  · cases hv
    exact absurd (P.lt h1 _ hf) (Nat.not_lt.2 hg)
theorem LiveA.opens (K : RecK P) (h : LiveA P w R s A W) (hT : Tab w) (hd : s.dead = false) (ho : (opn s.A s.y).2.2 = 0) (hl : s.A.length ≤ 100000) (X : List UInt8) (hA : HasA W W.heap.size A X) : Calls Tryd.prog 12 #[.pointer (some ⟨R, 0, none⟩)] W fun e W' => ∃ B v N, e = .returned (.tuple #[.pointer (some ⟨B, 0, none⟩), v, .int .i64 0]) ∧
    BBn N W' v (opn s.A s.y).1 ∧ LiveL K w R B s.opened W' ∧ HasA W' W'.heap.size A X := by
  obtain ⟨F, h1, h2, h3⟩ := h.ex
  refine (K.opens (hT.grew h.below) h1 hd ho hl (fun k hk => Nat.lt_of_lt_of_le hT.1 (h2 k hk))).mono ?_
  rintro e W' ⟨B, v, F', G, he, k1, k2, k3, k4, k5, k6⟩
  have h7 : ∀ k, F' k ∨ G k → w.heap.size ≤ k := by
    rintro k (hk | hk)
    · rcases k5 k hk with h' | h'
      · exact h2 k h'
      · exact Nat.le_trans h.below.size h'
    · exact Nat.le_trans h.below.size (k6 k hk).1
  refine ⟨B, v, _, he, k3, ⟨⟨F', G, k1, k2, fun k hk => (k6 k hk).2, h7⟩, h.below.trans (k4.below h.below.size h2)⟩, fun hn => ?_⟩
  obtain ⟨b, o, e, hb, hc⟩ := hA hn
  exact ⟨b, o, e, Nat.lt_of_lt_of_le hb k4.size, fun i hi => (World.cell?_of_block (k4.block b hb (h3 b o e))).trans (hc i hi)⟩
end

set_option maxRecDepth 100000 in
set_option maxHeartbeats 8000000 in
theorem Opens_any (P : DiskK) (T : TurnK P) (K : RecK P) (A : Option Addr) (L c : Nat) (l : List ActD) (hL : L = l.length) (hLm : L ≤ 140737488351232) (w : World) (hT : Tab w) (hA : InActsD w A l) :
    Calls Tryd.prog 3 #[.slice A L c] w fun e W' => e = .returned (.bool true) ∧ Below w.heap.size w W' := by
  have HL := Lib.hid hL
  have HA := Lib.hid hA
  have HT := Lib.hid hT
  have KT := Lib.hid T
  clear hL hA hT T
  go_enter Tryd.func3, Tryd.ntmps3
  go_wp2_with fail
  refine (Great_any A L c l HL.out hLm w HA.out).mono ?_
  rintro e w' ⟨rfl, rfl⟩
  cases hgr : great l with
  | true =>
    clear hgr
    go_wp2_with fail
    refine (wakes6 P KT.out K w HT.out).mono ?_
    rintro e W1 ⟨rfl, hb⟩
    have HB := Lib.hid hb
    clear hb
    go_wp2
    go_ret
    exact ⟨rfl, HB.out⟩
  | false =>
    have hgl : l.length ≤ 200 ∧ sumTo l l.length ≤ 10000 := by
      simp [great] at hgr; exact hgr
    have hL200 : (L : Int) ≤ 200 := by rw [HL.out]; omega
    have HG := Lib.hid hgl
    clear hgr hgl
    go_wp2_with fail
    refine (LiveD.new P w).mono ?_
    rintro e W1 ⟨R, rfl, hl1⟩
    have H1 := Lib.hid hl1
    clear hl1
    go_wp2
    go_loopw [4] (fun i wr => ∃ k : Nat, k ≤ L ∧ i = .int .i64 (k : Int) ∧ Hid (∃ s, LiveD P w R s wr ∧ s.A.length ≤ sumTo l k)) (fun i _ => L - (intOf i).toNat)
    case atStart => exact ⟨0, Nat.zero_le _, rfl, Lib.hid ⟨DS.new, H1.out, Nat.zero_le _⟩⟩
    case round =>
      obtain ⟨k, hk, rfl, hs⟩ := hrel
      by_cases hlt : k < L
      · have hki : (k : Int) < L := by omega
        have hkl : k < l.length := by rw [← HL.out]; exact hlt
        obtain ⟨lb, lo, e, hlb, hc⟩ := HA.out (by rintro rfl; simp at hkl)
        subst e
        obtain ⟨s, hl, hsl⟩ := hs.out
        obtain ⟨f0, f1, f2, hok⟩ := hc k hkl
        obtain ⟨a, ha⟩ : ∃ a, a = l[k] := ⟨_, rfl⟩
        rw [← ha] at f0 f1 f2 hok
        have hsm : sumTo l k + a.L = sumTo l (k + 1) := by rw [ha, sumTo_succ l k hkl]
        have hsT : sumTo l (k + 1) ≤ 10000 := Nat.le_trans (sumTo_le l (k + 1) (by omega)) HG.out.2
        have g0 := (hl.below.cell (p := ⟨lb, lo + k * 3, none⟩) hlb).trans f0
        have g1 := (hl.below.cell (p := ⟨lb, lo + k * 3 + 1, none⟩) hlb).trans f1
        have g2 := (hl.below.cell (p := ⟨lb, lo + k * 3 + 2, none⟩) hlb).trans f2
        have HS := Lib.hid (And.intro hl hsl)
        have HM := Lib.hid (And.intro hsm hsT)
        have HOK := Lib.hid hok
        clear hl hsl hc hok ha f0 f1 f2 hsm hsT
        go_wp2_with fail
        refine (Does_all P KT.out w R s wr HS.out.1 a HOK.out (by have := HS.out.2; have := HM.out; have := HOK.out.2.2.1; omega)).mono ?_
        rintro e W2 ⟨rfl, hl2⟩
        have HS2 := Lib.hid (And.intro hl2 (Nat.le_trans (act_len s a) (show s.A.length + a.x.length ≤ sumTo l (k + 1) by have := HS.out.2; have := HM.out; have := HOK.out.2.2.1; omega)))
        clear hl2
        go_wp2
        exact ⟨⟨k + 1, by omega, by congr 1, Lib.hid ⟨_, HS2.out.1, HS2.out.2⟩⟩, by simp only [intOf]; omega⟩
      · obtain rfl : k = L := by omega
        obtain ⟨s, hl, hsl⟩ := hs.out
        have hA10 : s.A.length ≤ 10000 := by
          rw [HL.out] at hsl
          exact Nat.le_trans hsl HG.out.2
        obtain ⟨y, hy⟩ : ∃ y, y = s.y := ⟨_, rfl⟩
        have hyA : y ≤ s.A.length := by rw [hy]; exact hl.sy
        have HSL := Lib.hid (And.intro hl (And.intro hA10 (And.intro hy hyA)))
        clear hl hsl hA10 hy hyA hs HA hlt hk
        go_wp2_with fail
        refine HSL.out.1.read.mono ?_
        rintro e W2 ⟨A5, M, c5, rfl, ho5, hl2⟩
        have hM5 := own_len ho5
        have HM5 := Lib.hid (And.intro hM5 (And.intro (own_cap ho5) (HasA.of_own ho5)))
        have hM10 : M ≤ 10000 := by rw [hM5]; exact HSL.out.2.1
        have hyM : y ≤ M := by rw [hM5]; exact HSL.out.2.2.2
        have L2 := Lib.hid hl2
        clear hl2 ho5 hM5
        go_wp2_with fail
        refine L2.out.disk.synced.mono ?_
        rintro e W3 ⟨he, -, hb3⟩
        rw [← HSL.out.2.2.1] at he
        subst he
        have L3 := Lib.hid (L2.out.grew hb3)
        have HA5 := Lib.hid (HM5.out.2.2.below' hb3)
        clear hb3 L2
        cases hd : s.dead with
        | true =>
          go_wp2_with fail
          refine (L3.out.disk.openDead K HT.out hd (by have := HSL.out.2.1; omega)).mono ?_
          rintro e W4 ⟨v8, rfl, hv8, hl4, -⟩
          obtain ⟨A8, L8, c8, rfl, -, -, -⟩ := hv8
          have L4 := Lib.hid hl4
          clear hl4 L3
          go_wp2_with fail
          refine L4.out.isdead.mono ?_
          rintro e W5 ⟨he, hl5, -⟩
          rw [hd] at he
          subst he
          have L5 := Lib.hid hl5
          clear hl5 L4 hd
          go_wp2_with fail
          refine (wakes6 P KT.out K W5 (HT.out.grew L5.out.below)).mono ?_
          rintro e W6 ⟨rfl, hb6⟩
          have HB := Lib.hid (L5.out.below.trans (Below.mono hb6 L5.out.below.size))
          clear hb6
          go_wp2
          go_ret
          exact ⟨rfl, HB.out⟩
        | false =>
          rcases opn_err s.A s.y with her | her
          · -- the log is whole
            obtain ⟨st, hst⟩ : ∃ st, st = (opn s.A s.y).2.1 := ⟨_, rfl⟩
            obtain ⟨Xs, hXs⟩ : ∃ Xs, Xs = (opn s.A s.y).1 := ⟨_, rfl⟩
            have hstM : st ≤ M := by rw [hst, HM5.out.1]; exact opn_le (by rw [← HSL.out.2.2.1]; exact HSL.out.2.2.2)
            have HST := Lib.hid (And.intro hst hXs)
            have HER := Lib.hid her
            have HSO := Lib.hid (show s.opened = { s with A := s.A.take st, y := st } by rw [hst]; rfl)
            clear hst hXs her
            go_wp2_with fail
            refine (L3.out.opens K HT.out hd HER.out (by have := HSL.out.2.1; omega) s.A HA5.out).mono ?_
            rintro e W4 ⟨B, v8, N, rfl, hv8, hl4, ha4⟩
            rw [← HST.out.2] at hv8
            rw [HSO.out] at hl4
            obtain ⟨A8, L8, c8, rfl, hL8⟩ := id hv8
            have HV8 := Lib.hid hv8.isBB
            have hXL : Xs.length ≤ s.A.length := by rw [HST.out.2]; exact opn_count _ _
            have HXL := Lib.hid hXL
            clear hXL
            have L4 := Lib.hid hl4
            have HA4 := Lib.hid ha4
            clear hv8 hL8 hl4 ha4 L3 HA5
            go_wp2_with fail
            refine L4.out.disk.isdead.mono ?_
            rintro e W5 ⟨he, -, hb5⟩
            obtain rfl : e = .returned (.bool false) := he.trans (by rw [show ({ s with A := s.A.take st, y := st } : DS).dead = s.dead from rfl, hd])
            have L5 := Lib.hid (L4.out.grew hb5)
            have HV5 := Lib.hid (HV8.out.grew hb5)
            have HA5' := Lib.hid (HA4.out.below' hb5)
            clear hb5 L4 HV8 HA4
            go_wp2_with fail
            refine (ref_Open6 A5 M c5 y s.A hyM HM5.out.1 (by omega) HM5.out.2.1 W5 HA5'.out).mono ?_
            rintro e W6 ⟨v10, he, hv10, hb6⟩
            rw [HSL.out.2.2.1, HER.out, ← HST.out.1] at he
            subst he
            rw [HSL.out.2.2.1, ← HST.out.2] at hv10
            obtain ⟨A10, L10, c10, rfl, hL10, -⟩ := id hv10
            have L6 := Lib.hid (L5.out.grew hb6)
            have HV6 := Lib.hid (And.intro (HV5.out.grew hb6) hv10)
            have HA6 := Lib.hid (HA5'.out.below' hb6)
            clear hb6 L5 HV5 HA5' hv10 hL10
            go_upto_region 13 with (fail)
            refine opens_cmp P w R { s with A := s.A.take st, y := st } (.slice A8 L8 c8) (.slice A10 L10 c10) Xs A5 M c5 st 0 s.A (by have h1 := HSL.out.2.1; have h2 := HXL.out; omega) HM5.out.1 hstM HM5.out.2.1 (by omega) rfl _ _ _ rfl rfl rfl rfl rfl rfl rfl rfl L6.out.disk HV6.out.1 HV6.out.2 HA6.out ?_
            intro v68 W7 _ hg7
            simp only [puts, List.foldl_cons, List.foldl_nil, Act.put, List.setIfInBounds_toArray, List.set_cons_succ, List.set_cons_zero]
            have L7 := Lib.hid (L6.out.grew hg7)
            clear hg7 L6 HV6 HA6
            go_wp2_with fail
            refine L7.out.disk.synced.mono ?_
            rintro e W8 ⟨he, -, hb8⟩
            obtain rfl : e = .returned (.int .i64 (st : Int)) := he
            have L8 := Lib.hid (L7.out.grew hb8)
            clear hb8 L7
            go_wp2_with fail
            refine (wakes6 P KT.out K W8 (HT.out.grew L8.out.below)).mono ?_
            rintro e W9 ⟨rfl, hb9⟩
            have HB := Lib.hid (L8.out.below.trans (Below.mono hb9 L8.out.below.size))
            clear hb9
            go_wp2
            go_ret
            exact ⟨rfl, HB.out⟩
          · -- the log is corrupt
            have hob : opn s.A s.y = ([], M, 22) := by
              rw [HM5.out.1]
              unfold opn at her ⊢
              split
              · rename_i h; rw [if_pos h] at her; cases her
              · rfl
            have HOB := Lib.hid hob
            have HER := Lib.hid her
            clear her hob
            go_wp2_with fail
            refine (L3.out.disk.openBad K HT.out hd HER.out (by have := HSL.out.2.1; omega)).mono ?_
            rintro e W4 ⟨v8, rfl, hv8, hl4, hb4⟩
            obtain ⟨A8, L8, c8, rfl, hL8, -, -⟩ := id hv8
            obtain rfl : L8 = 0 := hL8
            have HV8 := Lib.hid hv8.isBB
            have L4 := Lib.hid (And.intro hl4 hb4)
            clear hv8 hl4 hb4 L3
            go_wp2_with fail
            refine L4.out.1.isdead.mono ?_
            rintro e W5 ⟨he, -, hb5⟩
            obtain rfl : e = .returned (.bool false) := he.trans (by rw [hd])
            have L5 := Lib.hid (L4.out.1.grew hb5)
            have HV5 := Lib.hid (HV8.out.grew hb5)
            have HA5' := Lib.hid (HA5.out.below' (L4.out.2.trans (Below.mono hb5 (Below.size L4.out.2))))
            clear hb5 L4 HV8 HA5
            go_wp2_with fail
            refine (ref_Open6 A5 M c5 y s.A hyM HM5.out.1 (by omega) HM5.out.2.1 W5 HA5'.out).mono ?_
            rintro e W6 ⟨v10, he, hv10, hb6⟩
            rw [HSL.out.2.2.1, HOB.out] at he
            subst he
            rw [HSL.out.2.2.1, HOB.out] at hv10
            obtain ⟨A10, L10, c10, rfl, hL10, -⟩ := id hv10
            have L6 := Lib.hid (L5.out.grew hb6)
            have HV6 := Lib.hid (And.intro (HV5.out.grew hb6) hv10)
            have HA6 := Lib.hid (HA5'.out.below' hb6)
            clear hb6 L5 HV5 HA5' hv10 hL10
            go_upto_region 13 with (fail)
            refine opens_cmp P w R s (.slice A8 0 c8) (.slice A10 L10 c10) [] A5 M c5 M 22 s.A (by simp) HM5.out.1 (Nat.le_refl _) HM5.out.2.1 (by omega) (by rw [HM5.out.1, List.take_length]) _ _ _ rfl rfl rfl rfl rfl rfl rfl rfl L6.out HV6.out.1 HV6.out.2 HA6.out ?_
            intro v68 W7 _ hg7
            simp only [puts, List.foldl_cons, List.foldl_nil, Act.put, List.setIfInBounds_toArray, List.set_cons_succ, List.set_cons_zero]
            have L7 := Lib.hid (L6.out.grew hg7)
            clear hg7 L6 HV6 HA6
            go_wp2_with fail
            refine L7.out.synced.mono ?_
            rintro e W8 ⟨he, -, hb8⟩
            obtain rfl : e = .returned (.int .i64 (y : Int)) := he.trans (by rw [HSL.out.2.2.1])
            have L8 := Lib.hid (L7.out.grew hb8)
            clear hb8 L7
            go_wp2_with fail
            refine (wakes6 P KT.out K W8 (HT.out.grew L8.out.below)).mono ?_
            rintro e W9 ⟨rfl, hb9⟩
            have HB := Lib.hid (L8.out.below.trans (Below.mono hb9 L8.out.below.size))
            clear hb9
            go_wp2
            go_ret
            exact ⟨rfl, HB.out⟩
end Go.Proofs.YtoplocnkpljofaaDoor
