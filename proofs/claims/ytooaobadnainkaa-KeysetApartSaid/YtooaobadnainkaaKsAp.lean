/- KeysetApart's walk; that the law's wakes returns true is handed in. -/
import Derived.Test.YtooaobadnainkaaKsApR
import Derived.Maps.OwnSet
import Derived.Maps.Views
import Derived.Deep.DeepCutAuto
namespace Go.Proofs.Ytooaobadnainkaa
open Go.RowKit
open Go.Maps (Keyed int_keyed keyOf_int_mk)

def kI (k : Nat) : Lit := .int .i64 (k : Int)
theorem kI_ne {k j : Nat} (h : k ≠ j) : kI k ≠ kI j := by
  intro e
  injection e with _ e
  omega
theorem keyedI : Keyed Try.prog 3 := int_keyed Try.underlying3
theorem keyI {k : Nat} (h : k < 1000000) : keyOf Try.prog 3 (.int .i64 (k : Int)) = some (kI k) :=
  keyOf_int_mk Try.underlying3 (by simp [Lit.wf, IntKind.min, IntKind.max, IntKind.signed, IntKind.bits]; omega)
/-- Block tb is a map in which the numbers up to t stand. -/
structure Sn (W : World) (tb m : Nat) (t : Int) : Prop where
  ex : ∃ D : DataW Nat, W.ownsMap Try.prog 3 (plainElem (H := Nat) Try.prog 4) tb m D ∧ (∀ k, k < 1000000 → Maps.has D (kI k) = decide ((k : Int) ≤ t)) ∧ (Maps.size D : Int) = t + 1
section
variable {W W' : World} {tb m : Nat} {t : Int}
theorem Sn.lt (h : Sn W tb m t) : tb < W.heap.size := by obtain ⟨D, h, _⟩ := h.ex; exact h.lt
theorem Sn.keep (h : Sn W tb m t) (hb : W'.heap[tb]? = W.heap[tb]?) : Sn W' tb m t := by
  obtain ⟨D, ⟨es, ck, h1, h2⟩, h3⟩ := h.ex
  exact ⟨D, ⟨es, ck, hb.trans h1, h2⟩, h3⟩
theorem Sn.new (w : World) : Sn (w.alloc (.map #[] 0)) w.heap.size 0 (-1) :=
  ⟨.map [], World.ownsMap_made _ _ _ _, fun k _ => by have : ¬ (k : Int) ≤ -1 := by omega
                                                      simp [Maps.has, this], rfl⟩
theorem Sn.put (h : Sn W tb m t) (v : Nat) (hv : (v : Int) ≤ t + 1) (hm : m < 1000000) (hvm : v < 1000000) : ∃ W', (Instr.mapUpdate 35 (.map (some tb)) (.int .i64 (v : Int)) (.bool true)).run Try.prog W = .ok () W' ∧ Sn W' tb (m + 1) (max t v) ∧ W.grownBy W' (some tb) := by
  obtain ⟨D, hown, hD, hs⟩ := h.ex
  obtain ⟨W', hrun, h1, h2⟩ := hown.store keyedI Try.underlying35 (by simp only [maxLen]; omega) (keyI hvm) (plainElem_bool (H := Nat) Try.underlying4 true)
  refine ⟨W', hrun, ⟨_, h1, fun k hk => ?_, ?_⟩, h2.grown⟩
  · by_cases hj : k = v
    · subst hj
      rw [Maps.has_put_same hown.isMap (keyedI.key (keyI hk))]
      exact (decide_eq_true (by omega)).symm
    · rw [Maps.has_put_other (kI_ne hj), hD k hk]
      congr 1
      apply propext
      omega
  · rw [Maps.size_put (hown.tidy keyedI), hD v hvm]
    by_cases hle : (v : Int) ≤ t
    · rw [if_pos (decide_eq_true hle), hs]
      omega
    · rw [if_neg (by simpa using hle)]
      push_cast
      omega
theorem Sn.len (h : Sn W tb m t) (ty : TypeId) : (Builtin.len_ #[35] ty #[.map (some tb)]).run Try.prog W = .ok (.int .i64 (t + 1)) W := by
  obtain ⟨D, hown, _, hs⟩ := h.ex
  rw [hown.len Try.underlying35 ty, hs]
end
theorem wave_step {l : List CM} {n : Nat} (h : n < l.length) : (waveI l n : Int) ≤ topW l n + 1 := by
  rcases Nat.eq_zero_or_pos (waveI l n) with e | e
  · have := topW_lo l n; omega
  · obtain ⟨k, h1, h2⟩ := wave_prev h e
    have := topW_ge l n k h1
    omega
theorem topW_hi (l : List CM) : ∀ (n : Nat), n ≤ l.length → topW l n ≤ (n : Int)
  | 0, _ => by simp [topW]
  | n + 1, h => by
    have h1 := topW_hi l n (by omega)
    have h2 := waveI_le (l := l) n (by omega)
    simp only [topW]
    omega
theorem great_no {l : List CmdV} (h : GreatB l = false) : l.length ≤ 100 ∧ ∀ v ∈ l, ¬ v.great := by
  have h' : ¬ GreatC l := fun hg => by rw [GreatB_iff.2 hg] at h; cases h
  refine ⟨Nat.le_of_not_lt fun hh => h' (.inl hh), fun v hv hg => ?_⟩
  obtain ⟨j, hj, rfl⟩ := List.mem_iff_getElem.1 hv
  exact h' (.inr ⟨j, hj, hg⟩)

set_option maxRecDepth 100000 in
set_option maxHeartbeats 4000000 in
theorem KeysetApart_any {T : World → Prop} (K : KsK T) (hWakes : ∀ w, T w → Calls Try.prog 6 #[] w fun e W' => e = .returned (.bool true) ∧ Below w.heap.size w W')
    (A : Option Addr) (L c : Nat) (l : List CmdV) (w : World) (hT : T w) (hl : L = l.length) (hL : L ≤ 140737488351232) (hA : HasC w A l) :
    Calls Try.prog 4 #[.slice A L c] w fun e W' => e = .returned (.bool true) ∧ Below w.heap.size w W' := by
  have HL := Lib.hid (And.intro hl hL)
  have HA := Lib.hid hA
  have HT := Lib.hid hT
  have HWK := Lib.hid hWakes
  clear hl hL hA hT hWakes
  go_enter Try.func4, Try.ntmps4
  go_wp2_with fail
  refine (GreatC_any A L c l HL.out.1 HL.out.2 w HA.out).mono ?_
  rintro e V1 ⟨he, hb⟩
  have B1 := Lib.hid hb
  clear hb
  cases hg : GreatB l with
  | true =>
    rw [hg] at he
    subst he
    go_wp2_with fail
    refine (HWK.out V1 (K.grew HT.out B1.out)).mono ?_
    rintro e V2 ⟨rfl, hb2⟩
    have B2 := Lib.hid (B1.out.trans (Below.mono hb2 B1.out.size))
    clear hb2
    go_wp2
    go_ret
    exact ⟨rfl, B2.out⟩
  | false =>
    rw [hg] at he
    subst he
    obtain ⟨hlen, hng⟩ := great_no hg
    have NG := Lib.hid hng
    have hL100 : L ≤ 100 := by have := HL.out.1; omega
    have hLi : (L : Int) ≤ 100 := by omega
    have HW := Lib.hid (K.waves A L c l V1 (K.grew HT.out B1.out) HL.out.1 hL100 (HA.out.below B1.out) NG.out)
    clear hlen hng hg
    go_wp2_with fail
    refine HW.out.mono ?_
    rintro e V2 ⟨A2, c2, rfl, hc2, hi2, hb2⟩
    have B2 := Lib.hid (B1.out.trans (Below.mono hb2 B1.out.size))
    have HI := Lib.hid hi2
    have HC := Lib.hid (HA.out.below (B1.out.trans (Below.mono hb2 B1.out.size)))
    clear hb2 hi2 hc2 HW HA B1
    have hmk := run_makeMap (P := Try.prog) 35 V2
    have hs0 := Sn.new V2
    obtain ⟨tb, htb⟩ : ∃ tb, tb = V2.heap.size := ⟨_, rfl⟩
    rw [← htb] at hmk hs0
    obtain ⟨V3, hV3⟩ : ∃ V3, V3 = V2.alloc (.map #[] 0) := ⟨_, rfl⟩
    rw [← hV3] at hs0 hmk
    have hb3 : Below tb V2 V3 := by rw [htb, hV3]; exact (Below.refl _ V2).alloc (Nat.le_refl _) _
    have S3 := Lib.hid hs0
    have B3 := Lib.hid hb3
    have TB := Lib.hid htb
    clear hs0 hb3 htb hV3
    go_wp2
    go_loopw [5, 6] (fun t i wr => ∃ n : Nat, n ≤ L ∧ i = .int .i64 (n : Int) ∧ t = .int .i64 (topW (l.map (·.m)) n) ∧ Hid (Sn wr tb n (topW (l.map (·.m)) n) ∧ Below tb V2 wr)) (fun _ i _ => L - (intOf i).toNat)
    case atStart => exact ⟨0, Nat.zero_le _, rfl, rfl, Lib.hid ⟨S3.out, B3.out⟩⟩
    case round =>
      obtain ⟨n, hn, rfl, rfl, HS⟩ := hrel
      by_cases hlt : n < L
      · have hni : (n : Int) < L := by omega
        have hlm : (l.map (·.m)).length = L := by rw [List.length_map]; exact HL.out.1.symm
        have hwl : (wavesI (l.map (·.m))).length = L := by rw [wavesI_len, hlm]
        obtain ⟨vb, vo, e2, hvb, fI⟩ := HI.out (by rintro h; rw [h] at hwl; simp at hwl; omega)
        obtain ⟨b, o, e1, hb0, fC⟩ := HC.out (by rintro h; rw [h] at hlm; simp at hlm; omega)
        subst e1 e2
        have hI : ∀ j, j < L → V2.cell? ⟨vb, vo + j, none⟩ = some (.int .i64 (waveI (l.map (·.m)) j : Int)) := fun j hj => by
          have h1 := fI j (by omega)
          rw [wavesI_at] at h1
          exact h1
        have FI := Lib.hid (And.intro hvb hI)
        have FC := Lib.hid (And.intro hb0 fC)
        have HLM := Lib.hid hlm
        have hstep := wave_step (l := l.map (·.m)) (n := n) (by omega)
        have hwle := waveI_le (l := l.map (·.m)) n (by omega)
        obtain ⟨W4, hrun, hs4, hg4⟩ := HS.out.1.put (waveI (l.map (·.m)) n) hstep (by omega) (by omega)
        have hb4 : Below tb V2 W4 := HS.out.2.grown hg4 (by rw [TB.out]; exact HS.out.2.size) (fun k e => by cases e; exact Nat.le_refl _)
        have c0 : wr.cell? ⟨vb, vo + n, none⟩ = some (.int .i64 (waveI (l.map (·.m)) n : Int)) := (HS.out.2.cell (p := ⟨vb, vo + n, none⟩) (by rw [TB.out]; exact hvb)).trans (hI n hlt)
        have c4 : W4.cell? ⟨vb, vo + n, none⟩ = some (.int .i64 (waveI (l.map (·.m)) n : Int)) := (hb4.cell (p := ⟨vb, vo + n, none⟩) (by rw [TB.out]; exact hvb)).trans (hI n hlt)
        have htop : topW (l.map (·.m)) (n + 1) = max (topW (l.map (·.m)) n) (waveI (l.map (·.m)) n : Int) := rfl
        rw [← htop] at hs4
        obtain ⟨t0, ht0⟩ : ∃ t, t = topW (l.map (·.m)) n := ⟨_, rfl⟩
        obtain ⟨x0, hx0⟩ : ∃ x, x = waveI (l.map (·.m)) n := ⟨_, rfl⟩
        obtain ⟨t1, ht1⟩ : ∃ t, t = topW (l.map (·.m)) (n + 1) := ⟨_, rfl⟩
        rw [← ht0, ← hx0, ← ht1] at htop
        rw [← ht1] at hs4
        rw [← hx0] at hrun c0 c4
        rw [← ht0]
        have S4 := Lib.hid (And.intro hs4 hb4)
        have T0 := Lib.hid ht0
        have X0 := Lib.hid hx0
        have T1 := Lib.hid ht1
        have TOP := Lib.hid htop
        clear hlm hwl hvb fI hb0 fC hI hstep hwle hs4 hg4 hb4 ht0 hx0 ht1 htop HS
        go_upto_region 13 with (fail)
        rw [← TOP.out]
        obtain ⟨Wn, hWn⟩ : ∃ Wn, Wn = W4 := ⟨_, rfl⟩
        rw [← hWn] at S4 ⊢
        clear hrun c0 c4 hWn
        go_wp2
        go_loopw [7] (fun k7 wx => ∃ k : Nat, k ≤ n ∧ k7 = .int .i64 (k : Int) ∧ Hid (Sn wx tb (n + 1) t1 ∧ Below tb V2 wx)) (fun k7 _ => n - (intOf k7).toNat)
        case atStart => exact ⟨0, Nat.zero_le _, rfl, S4⟩
        case round =>
          obtain ⟨k, hk, rfl, HS⟩ := hrel
          by_cases hkn : k < n
          · have hkni : (k : Int) < n := by omega
            have hk1 : k < l.length := by have := HL.out.1; omega
            have hn1 : n < l.length := by have := HL.out.1; omega
            have hV : Below V2.heap.size V2 wr := by
              have := HS.out.2
              rw [TB.out] at this
              exact this
            have hw0 : Below w.heap.size w wr := B2.out.trans (Below.mono hV B2.out.size)
            obtain ⟨x, hx⟩ : ∃ x, x = l[k] := ⟨_, rfl⟩
            obtain ⟨y, hy⟩ : ∃ y, y = l[n] := ⟨_, rfl⟩
            have okx : x.ok wr := by rw [hx]; exact (FC.out.2 k hk1).2.below hV
            have oky : y.ok wr := by rw [hy]; exact (FC.out.2 n hn1).2.below hV
            have nx : ¬ x.great := NG.out x (by rw [hx]; exact List.getElem_mem hk1)
            have ny : ¬ y.great := NG.out y (by rw [hy]; exact List.getElem_mem hn1)
            have cx : ∀ j u, x.cells[j]? = some u → wr.cell? ⟨b, o + k * 7 + j, none⟩ = some u := fun j u hu => (hV.cell (p := ⟨b, o + k * 7 + j, none⟩) FC.out.1).trans ((FC.out.2 k hk1).1 j u (by rw [← hx]; exact hu))
            have cy : ∀ j u, y.cells[j]? = some u → wr.cell? ⟨b, o + n * 7 + j, none⟩ = some u := fun j u hu => (hV.cell (p := ⟨b, o + n * 7 + j, none⟩) FC.out.1).trans ((FC.out.2 n hn1).1 j u (by rw [← hy]; exact hu))
            obtain ⟨r, hr⟩ : ∃ r, r = wayM x.m y.m := ⟨_, rfl⟩
            have hway : ∀ w', Grew wr w' → Calls Try.prog 11 #[x.val, y.val] w' fun e W' => e = .returned (.bool r) ∧ Below w'.heap.size w' W' := fun w' h => by
              rw [hr]
              exact K.way x y w' (K.grew HT.out (hw0.trans (Below.mono h hw0.size))) (okx.below h) (oky.below h) nx ny
            have hlone : ∀ (z : CmdV), z.ok wr → ¬ z.great → ∀ w', Grew wr w' → Calls Try.prog 9 #[z.val] w' fun e W' => e = .returned (.bool (loneM z.m)) ∧ Below w'.heap.size w' W' := fun z hz hg w' h =>
              K.lone z w' (K.grew HT.out (hw0.trans (Below.mono h hw0.size))) (hz.below h) hg
            have hlm : (l.map (·.m)).length = L := HLM.out
            have hxm : (l.map (·.m))[k]'(by omega) = x.m := by rw [List.getElem_map, ← hx]
            have hym : (l.map (·.m))[n]'(by omega) = y.m := by rw [List.getElem_map, ← hy]
            obtain ⟨vk, hvk⟩ : ∃ v, v = waveI (l.map (·.m)) k := ⟨_, rfl⟩
            have ck : V2.cell? ⟨vb, vo + k, none⟩ = some (.int .i64 (vk : Int)) := by rw [hvk]; exact FI.out.2 k (by omega)
            have cn : V2.cell? ⟨vb, vo + n, none⟩ = some (.int .i64 (x0 : Int)) := by rw [X0.out]; exact FI.out.2 n (by omega)
            have hw1 : r = true → vk < x0 := fun h => by
              rw [hvk, X0.out]
              exact wave_lt hkn (by omega) (by rw [hxm, hym, ← hr]; exact h)
            have hw2 : vk = x0 → loneM x.m = false ∧ loneM y.m = false := fun h => by
              rw [hvk, X0.out] at h
              constructor
              · cases hz : loneM x.m
                · rfl
                · have := wave_lone hkn (l := l.map (·.m)) (by omega) (.inr (by rw [hxm]; exact hz)); omega
              · cases hz : loneM y.m
                · rfl
                · have := wave_lone hkn (l := l.map (·.m)) (by omega) (.inl (by rw [hym]; exact hz)); omega
            have hbw : b < wr.heap.size := Nat.lt_of_lt_of_le FC.out.1 hV.size
            have hW1 := Lib.hid hw1
            have hW2 := Lib.hid hw2
            have WAY := Lib.hid hway
            have LONE := Lib.hid hlone
            have CXY := Lib.hid (And.intro cx cy)
            have OK := Lib.hid (And.intro okx (And.intro oky (And.intro nx ny)))
            have CKN := Lib.hid (And.intro ck cn)
            have HV := Lib.hid hV
            have HBW := Lib.hid hbw
            clear hV hw0 hx hy okx oky nx ny cx cy hr hway hlone hlm hxm hym hvk ck cn hw1 hw2 hbw hk1 hn1
            go_upto_region 16 with (fail)
            refine ksway b o L c k n x y r (by omega) hlt _ wr _ rfl rfl rfl rfl HBW.out CXY.out.1 CXY.out.2 WAY.out ?_
            intro w7 hg7
            have H7 : Hid (Sn w7 tb (n + 1) t1 ∧ Below tb V2 w7) := Lib.hid ⟨HS.out.1.keep (hg7.block tb HS.out.1.lt), HS.out.2.trans (Below.mono hg7 (Nat.le_of_lt HS.out.1.lt))⟩
            have G7 := Lib.hid hg7
            have hvw : vb < w7.heap.size := by have := FI.out.1; have := HV.out.size; have := hg7.size; omega
            have ck7 : w7.cell? ⟨vb, vo + k, none⟩ = some (.int .i64 (vk : Int)) := ((HV.out.trans (Below.mono hg7 HV.out.size)).cell (p := ⟨vb, vo + k, none⟩) FI.out.1).trans CKN.out.1
            have cn7 : w7.cell? ⟨vb, vo + n, none⟩ = some (.int .i64 (x0 : Int)) := ((HV.out.trans (Below.mono hg7 HV.out.size)).cell (p := ⟨vb, vo + n, none⟩) FI.out.1).trans CKN.out.2
            have hbw7 : b < w7.heap.size := Nat.lt_of_lt_of_le HBW.out hg7.size
            have cx7 : ∀ j u, x.cells[j]? = some u → w7.cell? ⟨b, o + k * 7 + j, none⟩ = some u := fun j u hu => (hg7.cell (p := ⟨b, o + k * 7 + j, none⟩) HBW.out).trans (CXY.out.1 j u hu)
            have cy7 : ∀ j u, y.cells[j]? = some u → w7.cell? ⟨b, o + n * 7 + j, none⟩ = some u := fun j u hu => (hg7.cell (p := ⟨b, o + n * 7 + j, none⟩) HBW.out).trans (CXY.out.2 j u hu)
            have C7 := Lib.hid (And.intro ck7 (And.intro cn7 (And.intro cx7 cy7)))
            have D7 := Lib.hid (And.intro hvw hbw7)
            clear hg7 ck7 cn7 cx7 cy7 hvw hbw7
            simp only [puts, List.foldl_cons, List.foldl_nil, Act.put, List.setIfInBounds_toArray, List.set_cons_succ, List.set_cons_zero]
            cases r with
            | true =>
              have hlt2 := hW1.out rfl
              go_upto_region 17 with (fail)
              refine ksKW b o L c k n vb vo L c2 vk x0 x y (by omega) hlt hlt2 _ w7 _ rfl rfl rfl rfl rfl D7.out.1 C7.out.1 C7.out.2.1 ?_
              intro w8 hg8
              have H8 : Hid (Sn w8 tb (n + 1) t1 ∧ Below tb V2 w8) := Lib.hid ⟨H7.out.1.keep (hg8.block tb H7.out.1.lt), H7.out.2.trans (Below.mono hg8 (Nat.le_of_lt H7.out.1.lt))⟩
              clear hg8
              simp only [puts, List.foldl_cons, List.foldl_nil, Act.put, List.setIfInBounds_toArray, List.set_cons_succ, List.set_cons_zero]
              go_wp2
              exact ⟨⟨k + 1, by omega, by congr 1, H8⟩, by simp only [intOf]; omega⟩
            | false =>
              by_cases heq : vk = x0
              · have hl2 := hW2.out heq
                have LX : Hid (∀ w', Grew w7 w' → Calls Try.prog 9 #[x.val] w' fun e W' => e = .returned (.bool false) ∧ Below w'.heap.size w' W') := Lib.hid fun w' h => by
                  have := LONE.out x OK.out.1 OK.out.2.2.1 w' (G7.out.trans h)
                  rw [hl2.1] at this
                  exact this
                have LY : Hid (∀ w', Grew w7 w' → Calls Try.prog 9 #[y.val] w' fun e W' => e = .returned (.bool false) ∧ Below w'.heap.size w' W') := Lib.hid fun w' h => by
                  have := LONE.out y OK.out.2.1 OK.out.2.2.2 w' (G7.out.trans h)
                  rw [hl2.2] at this
                  exact this
                clear hl2
                go_upto_region 17 with (fail)
                refine ksKE b o L c k n vb vo L c2 vk x0 x y (by omega) hlt heq (by omega) hlt _ w7 _ rfl rfl rfl rfl rfl rfl D7.out.1 C7.out.1 C7.out.2.1 D7.out.2 C7.out.2.2.1 C7.out.2.2.2 LX.out LY.out ?_
                intro w8 hg8
                have H8 : Hid (Sn w8 tb (n + 1) t1 ∧ Below tb V2 w8) := Lib.hid ⟨H7.out.1.keep (hg8.block tb H7.out.1.lt), H7.out.2.trans (Below.mono hg8 (Nat.le_of_lt H7.out.1.lt))⟩
                clear hg8
                simp only [puts, List.foldl_cons, List.foldl_nil, Act.put, List.setIfInBounds_toArray, List.set_cons_succ, List.set_cons_zero]
                go_wp2
                exact ⟨⟨k + 1, by omega, by congr 1, H8⟩, by simp only [intOf]; omega⟩
              · go_upto_region 17 with (fail)
                refine ksKN b o L c k n vb vo L c2 vk x0 x y (by omega) hlt heq _ w7 _ rfl rfl rfl rfl rfl D7.out.1 C7.out.1 C7.out.2.1 ?_
                intro w8 hg8
                have H8 : Hid (Sn w8 tb (n + 1) t1 ∧ Below tb V2 w8) := Lib.hid ⟨H7.out.1.keep (hg8.block tb H7.out.1.lt), H7.out.2.trans (Below.mono hg8 (Nat.le_of_lt H7.out.1.lt))⟩
                clear hg8
                simp only [puts, List.foldl_cons, List.foldl_nil, Act.put, List.setIfInBounds_toArray, List.set_cons_succ, List.set_cons_zero]
                go_wp2
                exact ⟨⟨k + 1, by omega, by congr 1, H8⟩, by simp only [intOf]; omega⟩
          · have hkni : ¬ (k : Int) < n := by omega
            go_wp2
            exact ⟨⟨n + 1, by omega, by congr 1, by rw [T1.out], by rw [← T1.out]; exact HS⟩, by simp only [intOf]; omega⟩
      · have hni : ¬ (n : Int) < L := by omega
        obtain rfl : n = L := by omega
        have hln := fun ty => HS.out.1.len ty
        have hw0 : Below w.heap.size w wr := B2.out.trans (Below.mono HS.out.2 (by rw [TB.out]; exact B2.out.size))
        have hlo := topW_lo (l.map (·.m)) n
        have hhi := topW_hi (l.map (·.m)) n (by rw [List.length_map]; have := HL.out.1; omega)
        obtain ⟨t, ht⟩ : ∃ t, t = topW (l.map (·.m)) n := ⟨_, rfl⟩
        rw [← ht] at hln hlo hhi ⊢
        obtain ⟨u, hu⟩ : ∃ u, u = t + 1 := ⟨_, rfl⟩
        rw [← hu] at hln
        have hadd : IntKind.i64.wrap (t + 1) = u := by
          rw [hu]
          simp [IntKind.wrap, IntKind.bits, IntKind.signed]
          omega
        have HB := Lib.hid hw0
        have hT := K.grew HT.out hw0
        have HWW := Lib.hid (HWK.out wr hT)
        clear hw0 hT ht hu hlo hhi hni
        have hnn : ¬ (n : Int) < (n : Int) := by omega
        go_wp2_with fail
        refine HWW.out.mono ?_
        rintro e W9 ⟨rfl, hb9⟩
        have B9 := Lib.hid (HB.out.trans (Below.mono hb9 HB.out.size))
        clear hb9
        go_wp2
        go_ret
        exact ⟨rfl, B9.out⟩
end Go.Proofs.Ytooaobadnainkaa
