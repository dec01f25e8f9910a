/- KeysetTells' walk; that the law's wakes returns true is handed in. -/
import Derived.Test.YtooaobadnainkaaKsRw
import Derived.Test.YtooaobadnainkaaKsKg
import Derived.Deep.DeepCutAuto
namespace Go.Proofs.Ytooaobadnainkaa
open Go.RowKit

theorem great_noT {l : List CmdV} (h : GreatB l = false) : l.length ≤ 100 ∧ ∀ v ∈ l, ¬ v.great := by
  have h' : ¬ GreatC l := fun hg => by rw [GreatB_iff.2 hg] at h; cases h
  refine ⟨Nat.le_of_not_lt fun hh => h' (.inl hh), fun v hv hg => ?_⟩
  obtain ⟨j, hj, rfl⟩ := List.mem_iff_getElem.1 hv
  exact h' (.inr ⟨j, hj, hg⟩)
/-- How many waves the first commands have. -/
def tops (l : List CM) (n : Nat) : Nat := (topW l n + 1).toNat
theorem tops_succ {l : List CM} (n : Nat) : tops l (n + 1) = max (tops l n) (waveI l n + 1) := by
  have h1 := topW_lo l n
  unfold tops
  simp only [topW]
  omega
theorem tops_le {l : List CM} : ∀ n, n ≤ l.length → tops l n ≤ n
  | 0, _ => by simp [tops, topW]
  | n + 1, h => by
    have := tops_le n (l := l) (by omega)
    have h2 := waveI_le (l := l) n (by omega)
    rw [tops_succ]
    omega
/-- The group of a wave up to a place. -/
def grpN (l : List CM) (w i : Nat) : Nat := ((List.range i).filter fun j => decide (waveI l j = w)).length
theorem grpN_succ (l : List CM) (w i : Nat) : grpN l w (i + 1) = grpN l w i + if waveI l i = w then 1 else 0 := by
  unfold grpN
  rw [filt_succ]
  simp only [decide_eq_true_eq]
theorem grpN_le (l : List CM) (w i : Nat) : grpN l w i ≤ i := by
  unfold grpN
  exact Nat.le_trans (List.length_filter_le _ _) (by simp)
theorem grp_full {l : List CM} {w : Nat} (h : w < (groupsM l).length) : (groupsM l)[w].length = grpN l w l.length := by rw [groups_get]; rfl
theorem grp_at {l : List CM} {w i : Nat} (h : w < (groupsM l).length) (hi : i < l.length) (hw : waveI l i = w) : ∃ h2 : grpN l w i < (groupsM l)[w].length, (groupsM l)[w][grpN l w i] = i := by
  have h1 := filt_at (fun j => decide (waveI l j = w)) hi (by simpa using hw)
  rw [groups_get]
  obtain ⟨h2, h3⟩ := List.getElem?_eq_some_iff.1 h1
  exact ⟨h2, h3⟩
set_option maxRecDepth 100000 in
set_option maxHeartbeats 8000000 in
theorem KeysetTells_any {T : World → Prop} (K : KsK T) (G : KsG K) (hWakes : ∀ w, T w → Calls Try.prog 6 #[] w fun e W' => e = .returned (.bool true) ∧ Below w.heap.size w W')
    (A : Option Addr) (L c : Nat) (l : List CmdV) (w : World) (hT : T w) (hl : L = l.length) (hL : L ≤ 140737488351232) (hA : HasC w A l) :
    Calls Try.prog 3 #[.slice A L c] w fun e W' => e = .returned (.bool true) ∧ Below w.heap.size w W' := by
  have HL := Lib.hid (And.intro hl hL)
  have HA := Lib.hid hA
  have HT := Lib.hid hT
  have HWK := Lib.hid hWakes
  clear hl hL hA hT hWakes
  go_enter Try.func3, Try.ntmps3
  go_wp2_with fail
  refine (GreatC_any A L c l HL.out.1 HL.out.2 w HA.out).mono ?_
  rintro e V1 ⟨he, hb⟩
  have B1 := Lib.hid hb
  clear hb
  cases hg : GreatB l with
  | true =>
    rw [hg] at he
    subst he
    go_wp2_with fail
    refine (HWK.out V1 (K.grew HT.out B1.out)).mono ?_
    rintro e V2 ⟨rfl, hb2⟩
    have B2 := Lib.hid (B1.out.trans (Below.mono hb2 B1.out.size))
    clear hb2
    go_wp2
    go_ret
    exact ⟨rfl, B2.out⟩
  | false =>
    rw [hg] at he
    subst he
    obtain ⟨hlen, hng⟩ := great_noT hg
    have NG := Lib.hid hng
    have hL100 : L ≤ 100 := by have := HL.out.1; omega
    have hLi : (L : Int) ≤ 100 := by omega
    have HW := Lib.hid (K.waves A L c l V1 (K.grew HT.out B1.out) HL.out.1 hL100 (HA.out.below B1.out) NG.out)
    clear hlen hng hg
    go_wp2_with fail
    refine HW.out.mono ?_
    rintro e V2 ⟨A2, c2, rfl, hc2, hi2, hb2⟩
    have B2 := Lib.hid (B1.out.trans (Below.mono hb2 B1.out.size))
    have HI2 := Lib.hid hi2
    have HF := Lib.hid (refWaves_any A L c l V2 HL.out.1 hL100 (HA.out.below (B1.out.trans (Below.mono hb2 B1.out.size))) NG.out)
    clear hb2 hi2 HW B1
    go_wp2_with fail
    refine HF.out.mono ?_
    rintro e V3 ⟨x3, rfl, ho3, hb3⟩
    obtain ⟨A3, c3, rfl, hc3⟩ := ho3.form
    have hwl : (wavesI (l.map (·.m))).length = L := by rw [wavesI_len, List.length_map]; exact HL.out.1.symm
    rw [hwl] at ho3 hc3 ⊢
    have B3 := Lib.hid (B2.out.trans (Below.mono hb3 B2.out.size))
    have HI := Lib.hid (And.intro (HI2.out.below hb3) ho3.has)
    have HC := Lib.hid (HA.out.below (B2.out.trans (Below.mono hb3 B2.out.size)))
    obtain ⟨ms, hms⟩ : ∃ ms, ms = l.map (·.m) := ⟨_, rfl⟩
    rw [← hms] at HI hwl
    have hmsl : ms.length = L := by rw [hms, List.length_map]; exact HL.out.1.symm
    have HM := Lib.hid (And.intro hms (And.intro hmsl hwl))
    clear hb3 ho3 hc2 hc3 HF HI2 B2 hms hmsl hwl HA
    go_wp2
    go_loopw [5, 6] (fun t i wr => ∃ n : Nat, n ≤ L ∧ i = .int .i64 (n : Int) ∧ t = .int .i64 (tops ms n : Int) ∧ Hid (Below V3.heap.size V3 wr)) (fun _ i _ => L - (intOf i).toNat)
    case atStart => exact ⟨0, Nat.zero_le _, rfl, by simp [tops, topW], Lib.hid (Below.refl _ _)⟩
    case round =>
      obtain ⟨n, hn, rfl, rfl, HS⟩ := hrel
      by_cases hlt : n < L
      · have hni : (n : Int) < L := by omega
        have hml := HM.out.2.1
        have hwl := HM.out.2.2
        obtain ⟨va, vo, e2, hva, fA⟩ := HI.out.1 (by rintro h; rw [h] at hwl; simp at hwl; omega)
        obtain ⟨vb, vp, e3, hvb, fB⟩ := HI.out.2 (by rintro h; rw [h] at hwl; simp at hwl; omega)
        have hln : n < l.length := by have := HL.out.1; omega
        obtain ⟨b, o, e1, hb0, fC⟩ := HC.out (by rintro rfl; simp at hln)
        subst e1 e2 e3
        have hw0 : Below w.heap.size w wr := B3.out.trans (Below.mono HS.out B3.out.size)
        obtain ⟨y, hy⟩ : ∃ y, y = l[n] := ⟨_, rfl⟩
        have oky : y.ok V3 := by rw [hy]; exact (fC n hln).2
        have ny : ¬ y.great := NG.out y (by rw [hy]; exact List.getElem_mem hln)
        have ly : y.L ≤ 1000 := by have h3 := oky.len; unfold CmdV.great at ny; omega
        have cy : ∀ j u, y.cells[j]? = some u → V3.cell? ⟨b, o + n * 7 + j, none⟩ = some u := fun j u hu => (fC n hln).1 j u (by rw [← hy]; exact hu)
        have ca := fA n (by omega)
        have cb := fB n (by omega)
        rw [wavesI_at] at ca cb
        have hts := tops_succ (l := ms) n
        have htl := tops_le (l := ms) n (by omega)
        have hwle := waveI_le (l := ms) n (by omega)
        obtain ⟨v, hv⟩ : ∃ v, v = waveI ms n := ⟨_, rfl⟩
        rw [← hv] at ca cb hts hwle
        obtain ⟨r, hr⟩ : ∃ r, r = loneM y.m := ⟨_, rfl⟩
        have hK : ∀ w', Grew wr w' → Calls Try.prog 9 #[y.val] w' fun e W' => e = .returned (.bool r) ∧ Below w'.heap.size w' W' := fun w' h => by
          rw [hr]
          exact K.lone y w' (K.grew HT.out (hw0.trans (Below.mono h hw0.size))) (oky.below (HS.out.trans (Below.mono h HS.out.size))) ny
        have hF : ∀ w', Grew wr w' → Calls Try.prog 10 #[y.val] w' fun e W' => e = .returned (.bool r) ∧ Below w'.heap.size w' W' := fun w' h => by
          rw [hr]
          exact refLone_any y w' (oky.below (HS.out.trans (Below.mono h HS.out.size))) ly
        have hbw : b < wr.heap.size := Nat.lt_of_lt_of_le hb0 HS.out.size
        have hvaw : va < wr.heap.size := Nat.lt_of_lt_of_le hva HS.out.size
        have hvbw : vb < wr.heap.size := Nat.lt_of_lt_of_le hvb HS.out.size
        have cyw : ∀ j u, y.cells[j]? = some u → wr.cell? ⟨b, o + n * 7 + j, none⟩ = some u := fun j u hu => (HS.out.cell (p := ⟨b, o + n * 7 + j, none⟩) hb0).trans (cy j u hu)
        have caw := (HS.out.cell (p := ⟨va, vo + n, none⟩) hva).trans ca
        have cbw := (HS.out.cell (p := ⟨vb, vp + n, none⟩) hvb).trans cb
        have KF := Lib.hid (And.intro hK hF)
        have WX := Lib.hid (And.intro hbw (And.intro hvaw (And.intro hvbw (And.intro cyw (And.intro caw cbw)))))
        have VX := Lib.hid (And.intro hb0 (And.intro fC (And.intro hvb cb)))
        have YX := Lib.hid (And.intro hy (And.intro oky (And.intro ny (And.intro ly cy))))
        have TS := Lib.hid hts
        have TL := Lib.hid (And.intro htl hwle)
        clear hml hwl hva fA hvb fB hb0 fC hw0 hy oky ny ly cy ca cb hts htl hwle hv hr hK hF hbw hvaw hvbw cyw caw cbw
        go_upto_region 10 with (fail)
        refine ktlone b o L c n va vo c2 vb vp c3 v y r hlt _ wr _ rfl rfl rfl rfl rfl WX.out.1 WX.out.2.2.2.1 WX.out.2.1 WX.out.2.2.1 WX.out.2.2.2.2.1 WX.out.2.2.2.2.2 KF.out.1 KF.out.2 ?_
        intro w7 hg7
        have h7 : Below V3.heap.size V3 w7 := HS.out.trans (Below.mono hg7 HS.out.size)
        have H7 := Lib.hid h7
        have cb7 : w7.cell? ⟨vb, vp + n, none⟩ = some (.int .i64 (v : Int)) := (h7.cell (p := ⟨vb, vp + n, none⟩) VX.out.2.2.1).trans VX.out.2.2.2
        clear hg7 h7 KF WX
        simp only [puts, List.foldl_cons, List.foldl_nil, Act.put, List.setIfInBounds_toArray, List.set_cons_succ, List.set_cons_zero]
        obtain ⟨t0, ht0⟩ : ∃ t, t = tops ms n := ⟨_, rfl⟩
        obtain ⟨t1, ht1⟩ : ∃ t, t = tops ms (n + 1) := ⟨_, rfl⟩
        have hts := TS.out
        rw [← ht0, ← ht1] at hts
        have htl := TL.out
        rw [← ht0] at htl ⊢
        have T1 := Lib.hid ht1
        have hmax : max (t0 : Int) ((v : Int) + 1) = (t1 : Int) := by omega
        have TB : Hid (v ≤ n ∧ t0 ≤ n) := Lib.hid ⟨htl.2, htl.1⟩
        have hv1 : IntKind.i64.wrap ((v : Int) + 1) = (v : Int) + 1 := by
          have := TB.out
          simp [IntKind.wrap, IntKind.bits, IntKind.signed]
          omega
        clear ht0 ht1 hts htl TS TL
        go_upto_region 13 with (fail)
        clear cb7 hmax hv1
        go_wp2
        go_loopw [7] (fun k7 wx => ∃ k : Nat, k ≤ n ∧ k7 = .int .i64 (k : Int) ∧ Hid (Below V3.heap.size V3 wx)) (fun k7 _ => n - (intOf k7).toNat)
        case atStart => exact ⟨0, Nat.zero_le _, rfl, H7⟩
        case round =>
          obtain ⟨k, hk, rfl, HX⟩ := hrel
          by_cases hkn : k < n
          · have hkni : (k : Int) < n := by omega
            by_cases hk20 : k < 20
            · have hk20i : (k : Int) < 20 := by omega
              have hk1 : k < l.length := by omega
              have hml := HM.out.2.1
              obtain ⟨x, hx⟩ : ∃ x, x = l[k] := ⟨_, rfl⟩
              have hw0 : Below w.heap.size w wr := B3.out.trans (Below.mono HX.out B3.out.size)
              have okx : x.ok V3 := by rw [hx]; exact (VX.out.2.1 k hk1).2
              have nx : ¬ x.great := NG.out x (by rw [hx]; exact List.getElem_mem hk1)
              have lx : x.L ≤ 1000 := by have h3 := okx.len; unfold CmdV.great at nx; omega
              have cx : ∀ j u, x.cells[j]? = some u → wr.cell? ⟨b, o + k * 7 + j, none⟩ = some u := fun j u hu => (HX.out.cell (p := ⟨b, o + k * 7 + j, none⟩) VX.out.1).trans ((VX.out.2.1 k hk1).1 j u (by rw [← hx]; exact hu))
              have cy : ∀ j u, y.cells[j]? = some u → wr.cell? ⟨b, o + n * 7 + j, none⟩ = some u := fun j u hu => (HX.out.cell (p := ⟨b, o + n * 7 + j, none⟩) VX.out.1).trans (YX.out.2.2.2.2 j u hu)
              obtain ⟨s, hs⟩ : ∃ s, s = wayM y.m x.m := ⟨_, rfl⟩
              have hs2 : s = wayM x.m y.m := by rw [hs, wayM_symm]
              have gr : ∀ {w' : World}, Grew wr w' → Below w.heap.size w w' ∧ Below V3.heap.size V3 w' := fun h => ⟨hw0.trans (Below.mono h hw0.size), HX.out.trans (Below.mono h HX.out.size)⟩
              have hK1 : ∀ w', Grew wr w' → Calls Try.prog 11 #[y.val, x.val] w' fun e W' => e = .returned (.bool s) ∧ Below w'.heap.size w' W' := fun w' h => by
                rw [hs]
                exact K.way y x w' (K.grew HT.out (gr h).1) (YX.out.2.1.below (gr h).2) (okx.below (gr h).2) YX.out.2.2.1 nx
              have hK2 : ∀ w', Grew wr w' → Calls Try.prog 11 #[x.val, y.val] w' fun e W' => e = .returned (.bool s) ∧ Below w'.heap.size w' W' := fun w' h => by
                rw [hs2]
                exact K.way x y w' (K.grew HT.out (gr h).1) (okx.below (gr h).2) (YX.out.2.1.below (gr h).2) nx YX.out.2.2.1
              have hF : ∀ w', Grew wr w' → Calls Try.prog 12 #[y.val, x.val] w' fun e W' => e = .returned (.bool s) ∧ Below w'.heap.size w' W' := fun w' h => by
                rw [hs]
                exact refWay_any y x w' (YX.out.2.1.below (gr h).2) (okx.below (gr h).2) YX.out.2.2.2.1 lx
              have hbw : b < wr.heap.size := Nat.lt_of_lt_of_le VX.out.1 HX.out.size
              have WX := Lib.hid (And.intro hbw (And.intro cx (And.intro cy (And.intro hK1 (And.intro hK2 hF)))))
              clear hml hx hw0 okx nx lx cx cy hs hs2 gr hK1 hK2 hF hbw hk1
              go_upto_region 16 with (fail)
              refine ktway b o L c k n x y s (by omega) hlt _ wr _ rfl rfl rfl rfl WX.out.1 WX.out.2.1 WX.out.2.2.1 WX.out.2.2.2.1 WX.out.2.2.2.2.1 WX.out.2.2.2.2.2 ?_
              intro w8 hg8
              have H8 : Hid (Below V3.heap.size V3 w8) := Lib.hid (HX.out.trans (Below.mono hg8 HX.out.size))
              clear hg8 WX
              simp only [puts, List.foldl_cons, List.foldl_nil, Act.put, List.setIfInBounds_toArray, List.set_cons_succ, List.set_cons_zero]
              go_wp2
              exact ⟨⟨k + 1, by omega, by congr 1, H8⟩, by simp only [intOf]; omega⟩
            · have hk20i : ¬ (k : Int) < 20 := by omega
              go_wp2
              exact ⟨⟨n + 1, by omega, by congr 1, by rw [T1.out], HX⟩, by simp only [intOf]; omega⟩
          · have hkni : ¬ (k : Int) < n := by omega
            go_wp2
            exact ⟨⟨n + 1, by omega, by congr 1, by rw [T1.out], HX⟩, by simp only [intOf]; omega⟩
      · have hni : ¬ (n : Int) < L := by omega
        obtain rfl : n = L := by omega
        have hw0 : Below w.heap.size w wr := B3.out.trans (Below.mono HS.out B3.out.size)
        have HG := Lib.hid (G.groups A n c l wr (K.grew HT.out hw0) HL.out.1 hL100 (HC.out.below HS.out) NG.out)
        have W0 := Lib.hid hw0
        clear hw0
        go_wp2_with fail
        refine HG.out.mono ?_
        rintro e V4 ⟨A8, N, c8, rfl, hN, hc8, hr8, hb8⟩
        rw [← HM.out.1] at hN hr8
        have hml := HM.out.2.1
        have htN : tops ms n = N := by rw [hN, ← hml]; rfl
        have hNL : N ≤ n := by rw [← htN]; exact tops_le (l := ms) n (by omega)
        rw [htN]
        have hgl := groups_len ms
        rw [← hN] at hgl
        have B4 := Lib.hid (W0.out.trans (Below.mono hb8 W0.out.size))
        have V34 := Lib.hid (HS.out.trans (Below.mono hb8 HS.out.size))
        have HR := Lib.hid (And.intro hr8 hgl)
        have hNi : (N : Int) ≤ 100 := by omega
        clear hr8 hb8 hN hml htN hNL hgl hc8 HG W0 HS hni
        go_wp2
        go_loopw [9] (fun s9 wx => ∃ t : Nat, t ≤ N ∧ s9 = .int .i64 (t : Int) ∧ Hid (Below V4.heap.size V4 wx)) (fun s9 _ => N - (intOf s9).toNat)
        case atStart => exact ⟨0, Nat.zero_le _, rfl, Lib.hid (Below.refl _ _)⟩
        case round =>
          obtain ⟨t, ht, rfl, HX⟩ := hrel
          by_cases htN : t < N
          · have hti : (t : Int) < N := by omega
            have hgl := HR.out.2
            obtain ⟨gb, gk, e8, hgb, fR⟩ := HR.out.1 (by intro e; rw [e] at hgl; simp at hgl; omega)
            subst e8
            have hgt : t < (groupsM ms).length := by rw [HR.out.2]; exact htN
            obtain ⟨Ag, cg, kg, hcg, hIg⟩ := fR t hgt
            obtain ⟨M, hM⟩ : ∃ M, M = ((groupsM ms)[t]'hgt).length := ⟨_, rfl⟩
            rw [← hM] at kg hcg
            have hfull : M = grpN ms t n := by rw [hM, grp_full, HM.out.2.1]
            have GR := Lib.hid (And.intro hgb (And.intro kg (And.intro hIg (And.intro hM hfull))))
            obtain ⟨wo, rfl⟩ : ∃ x, x = wr := ⟨_, rfl⟩
            clear hgl hgb fR hcg kg hIg hM hfull
            go_wp2
            go_loopw [10, 11] (fun s10 i wx => ∃ j : Nat, j ≤ n ∧ i = .int .i64 (j : Int) ∧ s10 = .int .i64 (grpN ms t j : Int) ∧ Hid (Below V4.heap.size V4 wx)) (fun _ i _ => n - (intOf i).toNat)
            case atStart => exact ⟨0, Nat.zero_le _, rfl, by simp [grpN], HX⟩
            case round =>
              obtain ⟨j, hj, rfl, rfl, HY⟩ := hrel
              have kgw : wr.cell? ⟨gb, gk + t, none⟩ = some (.slice Ag M cg) := (HY.out.cell (p := ⟨gb, gk + t, none⟩) GR.out.1).trans GR.out.2.1
              by_cases hjn : j < n
              · have hji : (j : Int) < n := by omega
                have hwl := HM.out.2.2
                obtain ⟨vb, vp, e3, hvb, fB⟩ := HI.out.2 (by rintro h; rw [h] at hwl; simp at hwl; omega)
                subst e3
                have cb := fB j (by omega)
                rw [wavesI_at] at cb
                have cbw := ((V34.out.trans (Below.mono HY.out V34.out.size)).cell (p := ⟨vb, vp + j, none⟩) hvb).trans cb
                have hgs := grpN_succ ms t j
                have hgle := grpN_le ms t j
                by_cases hw : waveI ms j = t
                · have hat := grp_at (l := ms) (w := t) (i := j) (by have := HR.out.2; omega) (by have := HM.out.2.1; omega) hw
                  obtain ⟨h2, h3⟩ := hat
                  rw [← GR.out.2.2.2.1] at h2
                  obtain ⟨gg, gq, eg, hgg, fI⟩ := GR.out.2.2.1 (by intro e; rw [GR.out.2.2.2.1, e] at h2; simp at h2)
                  subst eg
                  have ci := fI (grpN ms t j) (by rw [← GR.out.2.2.2.1]; exact h2)
                  rw [h3] at ci
                  have ciw := (HY.out.cell (p := ⟨gg, gq + grpN ms t j, none⟩) hgg).trans ci
                  rw [hw] at cbw
                  rw [if_pos hw] at hgs
                  obtain ⟨q, hq⟩ : ∃ q, q = grpN ms t j := ⟨_, rfl⟩
                  rw [← hq] at ciw h2 hgs hgle ⊢
                  have h2i : ¬ (M : Int) ≤ q := by omega
                  have h2j : (q : Int) < M := by omega
                  have HQ := Lib.hid hgs
                  have HB := Lib.hid (And.intro h2 hgle)
                  have hq1 : IntKind.i64.wrap ((q : Int) + 1) = ((q + 1 : Nat) : Int) := by
                    have := HB.out
                    simp [IntKind.wrap, IntKind.bits, IntKind.signed]
                    omega
                  clear hwl hvb fB cb hw hgs hgle h2 h3 hgg fI ci hq
                  go_wp2
                  exact ⟨⟨j + 1, by omega, by congr 1, by rw [HQ.out]; congr 1, HY⟩, by simp only [intOf]; omega⟩
                · have hwi : ¬ (waveI ms j : Int) = t := by omega
                  obtain ⟨v, hv⟩ : ∃ v, v = waveI ms j := ⟨_, rfl⟩
                  rw [if_neg hw] at hgs
                  rw [← hv] at cbw hwi
                  have hwb : ((v : Int) == t) = false := by simpa using hwi
                  have HQ := Lib.hid hgs
                  clear hwl hvb fB cb hw hgs hgle hv
                  go_wp2
                  exact ⟨⟨j + 1, by omega, by congr 1, by rw [HQ.out, Nat.add_zero], HY⟩, by simp only [intOf]; omega⟩
              · have hji : ¬ (j : Int) < n := by omega
                obtain rfl : j = n := by omega
                rw [← GR.out.2.2.2.2]
                go_wp2
                exact ⟨⟨t + 1, by omega, by congr 1, HY⟩, by simp only [intOf]; omega⟩
          · have hti : ¬ (t : Int) < N := by omega
            have hw0 : Below w.heap.size w wr := B4.out.trans (Below.mono HX.out B4.out.size)
            have HWW := Lib.hid (HWK.out wr (K.grew HT.out hw0))
            have W0 := Lib.hid hw0
            clear hw0
            go_wp2_with fail
            refine HWW.out.mono ?_
            rintro e W9 ⟨rfl, hb9⟩
            have B9 := Lib.hid (W0.out.trans (Below.mono hb9 W0.out.size))
            clear hb9
            go_wp2
            go_ret
            exact ⟨rfl, B9.out⟩
end Go.Proofs.Ytooaobadnainkaa
