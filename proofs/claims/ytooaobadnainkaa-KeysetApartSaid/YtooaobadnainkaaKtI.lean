/- The program's Groups; its package keyset as the walks want it. -/
import Derived.Test.YtooaobadnainkaaKtH
namespace Go.Proofs.Ytooaobadnainkaa
open Go.RowKit

/-- The groups of the first commands. -/
def gsN (ms : List CM) (n : Nat) : List (List Nat) := (List.range (numW ms)).map fun w => (List.range n).filter fun i => decide (waveI ms i = w)
theorem gsN_all (ms : List CM) : gsN ms ms.length = groupsM ms := rfl
theorem gsN_len (ms : List CM) (n : Nat) : (gsN ms n).length = numW ms := by simp [gsN]
theorem gsN_zero (ms : List CM) : gsN ms 0 = List.replicate (numW ms) [] := by
  apply List.ext_getElem?
  intro i
  simp only [gsN, List.getElem?_map, List.getElem?_replicate]
  by_cases h : i < numW ms
  · simp [h]
  · simp [h]
theorem gsN_at (ms : List CM) (n : Nat) {v : Nat} (h : v < numW ms) : (gsN ms n)[v]? = some ((List.range n).filter fun i => decide (waveI ms i = v)) := by
  simp [gsN, h]
theorem gsN_succ (ms : List CM) (n : Nat) {g : List Nat} (h : (gsN ms n)[waveI ms n]? = some g) : gsN ms (n + 1) = (gsN ms n).set (waveI ms n) (g ++ [n]) := by
  have hv : waveI ms n < numW ms := by
    have := (List.getElem?_eq_some_iff.1 h).1
    rwa [gsN_len] at this
  rw [gsN_at ms n hv] at h
  obtain rfl := Option.some.inj h
  apply List.ext_getElem?
  intro i
  rw [List.getElem?_set]
  by_cases hi : i < numW ms
  · rw [gsN_at ms (n + 1) hi, gsN_at ms n hi, gsN_len, List.range_succ, List.filter_append]
    by_cases he : waveI ms n = i
    · subst he
      rw [if_pos rfl, if_pos hv]
      simp
    · rw [if_neg he]
      simp [he]
  · have h1 : (gsN ms (n + 1))[i]? = none := List.getElem?_eq_none (by rw [gsN_len]; omega)
    have h2 : (gsN ms n)[i]? = none := List.getElem?_eq_none (by rw [gsN_len]; omega)
    rw [h1, h2, gsN_len, if_neg (by omega)]
section
variable {base : Nat} {W W' : World} {G N c : Nat} {vs : List Value} {gs : List (List Nat)}
/-- A number behind one of the rows. -/
theorem GrQ.app (h : GrQ base W (.slice (some ⟨G, 0, none⟩) N c) vs gs) {j : Nat} {u u' : Value} {g : List Nat} {x : Nat} (hj : vs[j]? = some u) (hgj : gs[j]? = some g) (hu : OwnI base W' u' (g ++ [x])) (hg : W.grownBy W' u.ownBlock) (hb : u'.ownBlock = u.ownBlock ∨ u'.ownBlock = some W.heap.size) :
    GrQ base (W'.setCell ⟨G, j, none⟩ u') (.slice (some ⟨G, 0, none⟩) N c) (vs.set j u') (gs.set j (g ++ [x])) := by
  have hui := h.own j u g hj hgj
  have hN : N = vs.length := by
    obtain ⟨A, c', e, _⟩ := h.row.form
    injection e
  have hrow : OwnL base W' (.slice (some ⟨G, 0, none⟩) N c) vs := h.row.kept hg (fun k hk e => hui.apartL h.row e hk rfl)
  have hst : OwnL base (W'.setCell ⟨G, j, none⟩ u') (.slice (some ⟨G, 0, none⟩) N c) (vs.set j u') := by
    have h1 := hrow
    unfold OwnL at h1 ⊢
    rw [List.length_set]
    rw [← hN] at h1 ⊢
    exact (World.ownsRow.stored h1 j u').1
  have oth : ∀ y l, OwnI base W' y l → OwnI base (W'.setCell ⟨G, j, none⟩ u') y l := fun y l hy => ownsRow_setCell_other (a := ⟨G, j, none⟩) hy (fun e => hy.apartL hrow e rfl rfl) u'
  have old : ∀ i y l, i ≠ j → vs[i]? = some y → OwnI base W y l → OwnI base W' y l := fun i y l hi hy ho => ho.kept hg (fun k hk e => h.ne i j y u hy hj hi (hk.trans e.symm))
  have hjl := (List.getElem?_eq_some_iff.1 hj).1
  have hne : ∀ i y, i ≠ j → vs[i]? = some y → u'.ownBlock ≠ y.ownBlock := fun i y hi hy => by
    rcases hb with e | e
    · rw [e]
      exact h.ne j i u y hj hy (Ne.symm hi)
    · intro e2
      obtain ⟨l, _, hl⟩ := h.get hy
      have := hl.lt (k := W.heap.size) (by rw [← e2, e])
      omega
  refine ⟨hst, by rw [List.length_set, List.length_set]; exact h.len, fun i y l h1 h2 => ?_, fun i k y y' h1 h2 hik => ?_⟩
  · rw [List.getElem?_set] at h1 h2
    by_cases hi : j = i
    · subst hi
      rw [if_pos rfl, if_pos hjl] at h1
      rw [if_pos rfl, if_pos (by rw [← h.len]; exact hjl)] at h2
      obtain rfl := Option.some.inj h1
      obtain rfl := Option.some.inj h2
      exact oth _ _ hu
    · rw [if_neg hi] at h1 h2
      exact oth _ _ (old i y l (Ne.symm hi) h1 (h.own i y l h1 h2))
  · rw [List.getElem?_set] at h1 h2
    by_cases hi : j = i
    · subst hi
      rw [if_pos rfl, if_pos hjl] at h1
      rw [if_neg hik] at h2
      obtain rfl := Option.some.inj h1
      exact hne k y' (Ne.symm hik) h2
    · rw [if_neg hi] at h1
      by_cases hk : j = k
      · subst hk
        rw [if_pos rfl, if_pos hjl] at h2
        obtain rfl := Option.some.inj h2
        exact Ne.symm (hne i y hik h1)
      · rw [if_neg hk] at h2
        exact h.ne i k y y' h1 h2 hik
end
theorem OwnL.blk {base : Nat} {W : World} {v : Value} {vs : List Value} (h : OwnL base W v vs) (hl : 0 < vs.length) : ∃ g c, v = .slice (some ⟨g, 0, none⟩) vs.length c ∧ base ≤ g ∧ g < W.heap.size ∧ vs.length ≤ c ∧ (∀ j u, vs[j]? = some u → W.cell? ⟨g, j, none⟩ = some u) ∧ ∀ j, W.frozen? ⟨g, j, none⟩ = false := by
  rcases h.2 with ⟨_, h0⟩ | ⟨g, cap, cur, e, hb, hg, hn, _⟩
  · omega
  · subst e
    refine ⟨g, cap, rfl, hb, (Array.getElem?_eq_some_iff.1 hg).1, hn, fun j u hj => ?_, fun j => World.ownsRow.frozenAt h j⟩
    have c0 := World.ownsRow.cells h (g := g) rfl j u hj
    rwa [addr_add, Nat.zero_add] at c0
theorem GrQ.has {base : Nat} {W : World} {A : Option Addr} {N c : Nat} {vs : List Value} {gs : List (List Nat)} (h : GrQ base W (.slice A N c) vs gs) : HasR W A gs := fun hne => by
  have hl : 0 < vs.length := by rw [h.len]; exact List.length_pos_iff.2 hne
  obtain ⟨g, c', e, _, hlt, _, hc, _⟩ := h.row.blk hl
  injection e with e1 _ _
  subst e1
  refine ⟨g, 0, rfl, hlt, fun j hj => ?_⟩
  have hjv : j < vs.length := by rw [h.len]; exact hj
  have ho := h.own j vs[j] gs[j] (List.getElem?_eq_getElem hjv) (List.getElem?_eq_getElem hj)
  obtain ⟨A', c', e, hc'⟩ := ho.form
  have hx := hc j vs[j] (List.getElem?_eq_getElem hjv)
  rw [e] at hx ho
  exact ⟨A', c', by rw [Nat.zero_add]; exact hx, hc', ho.has⟩
set_option maxRecDepth 100000 in
set_option maxHeartbeats 8000000 in
theorem groups_anyK (A : Option Addr) (L c : Nat) (l : List CmdV) (w : World) (hl : L = l.length) (hL : L ≤ 100) (hA : HasC w A l) (hng : ∀ v ∈ l, ¬ v.great) :
    Calls Try.prog 13 #[.slice A L c] w fun e W' => ∃ A' N c', e = .returned (.slice A' N c') ∧ N = numW (l.map (·.m)) ∧ N ≤ c' ∧ HasR W' A' (groupsM (l.map (·.m))) ∧ Below w.heap.size w W' := by
  have HWV := Lib.hid (waves_anyK A L c l w hl hL hA hng)
  obtain ⟨ms, hms⟩ : ∃ ms, ms = l.map (·.m) := ⟨_, rfl⟩
  rw [← hms] at HWV ⊢
  have hmsl : ms.length = L := by rw [hms, List.length_map]; exact hl.symm
  have HM := Lib.hid hmsl
  have hLi : (L : Int) ≤ 100 := by omega
  clear hms hmsl hl hA hng
  go_enter Try.func13, Try.ntmps13
  go_wp2_with fail
  refine HWV.out.mono ?_
  rintro e W1 ⟨x, rfl, hown, hb1⟩
  obtain ⟨A1, c1, rfl, hc1⟩ := hown.form
  have hwl : (wavesI ms).length = L := by rw [wavesI_len, HM.out]
  rw [hwl]
  have HE := Lib.hid (empty_any A1 L c1 ms W1 HM.out.symm (by omega) hown.has)
  have HW1 := Lib.hid (And.intro hown.has hb1)
  clear hown hc1 hwl hb1
  go_wp2_with fail
  refine HE.out.mono ?_
  rintro e W2 ⟨x, rfl, ⟨vs0, hgr⟩, hb2⟩
  obtain ⟨A2, c2, rfl, hc2⟩ := hgr.row.form
  have hvl : vs0.length = numW ms := by rw [hgr.len, List.length_replicate]
  rw [hvl] at hgr hc2 ⊢
  obtain ⟨N, hN⟩ : ∃ N, N = numW ms := ⟨_, rfl⟩
  rw [← hN] at hc2 ⊢
  obtain ⟨B, hB⟩ : ∃ B, B = W1.heap.size := ⟨_, rfl⟩
  have H2 : Hid (GrQ B W2 (.slice A2 N c2) vs0 (gsN ms 0) ∧ Below B W1 W2 ∧ B ≤ W2.heap.size) := Lib.hid ⟨by rw [gsN_zero, hB, hN]; exact hgr, by rw [hB]; exact hb2, by rw [hB]; exact hb2.size⟩
  have hN1 : N ≤ 100 := by rw [hN, ← topN_num]; exact Nat.le_trans (topN_le ms _ (Nat.le_refl _)) (by have := HM.out; omega)
  have HN := Lib.hid (And.intro hN (And.intro hc2 (And.intro hB hN1)))
  clear hgr hb2 hvl hB hc2 hN hN1
  go_wp2
  go_loopw [13] (fun i wr => ∃ (n : Nat) (vs : List Value), n ≤ L ∧ i = .int .i64 (n : Int) ∧ Hid (GrQ B wr (.slice A2 N c2) vs (gsN ms n) ∧ Below B W1 wr ∧ B ≤ wr.heap.size)) (fun i _ => L - (intOf i).toNat)
  case atStart => exact ⟨0, vs0, Nat.zero_le _, rfl, H2⟩
  case round =>
    obtain ⟨n, vs, hn, rfl, HO⟩ := hrel
    by_cases hlt : n < L
    · have hni : (n : Int) < L := by omega
      have hnm : n < ms.length := by have := HM.out; omega
      have hnw : n < (wavesI ms).length := by rw [wavesI_len]; exact hnm
      obtain ⟨bb, o, e1, l1, f1⟩ := HW1.out.1 (by intro e; rw [e] at hnw; simp at hnw)
      subst e1
      have g1 := (HO.out.2.1.cell (p := ⟨bb, o + n, none⟩) (by have := HN.out.2.2.1; show bb < B; omega)).trans (f1 n hnw)
      rw [wavesI_at hnw] at g1
      have hvN : waveI ms n < N := by rw [HN.out.1]; exact wave_num hnm
      have hgat := gsN_at ms n (v := waveI ms n) (by rw [← HN.out.1]; exact hvN)
      have hsucc := gsN_succ ms n hgat
      obtain ⟨v, hv⟩ : ∃ v, v = waveI ms n := ⟨_, rfl⟩
      rw [← hv] at g1 hvN hgat hsucc
      obtain ⟨g, hg⟩ : ∃ g, g = (List.range n).filter fun i => decide (waveI ms i = v) := ⟨_, rfl⟩
      have hgl : g.length ≤ n := by rw [hg]; exact Nat.le_trans (List.length_filter_le _ _) (by simp)
      rw [← hg] at hgat hsucc
      have hvl : vs.length = N := by rw [HO.out.1.len, gsN_len, HN.out.1]
      have hvv : v < vs.length := by omega
      obtain ⟨u, hu⟩ : ∃ u, u = vs[v] := ⟨_, rfl⟩
      have hju : vs[v]? = some u := by rw [hu]; exact List.getElem?_eq_getElem hvv
      have hou := HO.out.1.own v u g hju hgat
      obtain ⟨A5, c5, rfl, hc5⟩ := hou.form
      obtain ⟨G, c6, e6, hbG, hlG, hcG, kG, zG⟩ := HO.out.1.row.blk (by omega)
      obtain ⟨rfl, rfl⟩ : A2 = some ⟨G, 0, none⟩ ∧ c2 = c6 := by injection e6 with a b c; exact ⟨a, c⟩
      have x4 := kG v _ hju
      obtain ⟨gl, hglq⟩ : ∃ gl, gl = g.length := ⟨_, rfl⟩
      rw [← hglq] at x4 hou hc5 hju
      have hvi : (v : Int) < N := by omega
      have hbx : Below wr.heap.size wr (wr.alloc (.cells #[.int .i64 (n : Int)] 3)) := (Below.refl _ wr).alloc (Nat.le_refl _) _
      have hc1 := cell_one_new wr (.int .i64 (n : Int)) 3 0 _ rfl
      have hfz : ∀ W4, (wr.alloc (.cells #[.int .i64 (n : Int)] 3)).grownBy W4 (Value.slice A5 gl c5).ownBlock → W4.frozen? ⟨G, v, none⟩ = false ∧ W4.cell? ⟨G, v, none⟩ = some (.slice A5 gl c5) := fun W4 hg4 => by
        have hr0 := HO.out.1.row.below hbx
        have hr := hr0.kept hg4 (fun k hk e => (hou.below hbx).apartL hr0 e hk rfl)
        obtain ⟨G', c', e', _, _, _, k', z'⟩ := hr.blk (by omega)
        injection e' with e1 _ _
        injection e1 with e1
        injection e1 with e1
        subst e1
        exact ⟨z' v, k' v _ hju⟩
      have HU := Lib.hid (And.intro hou (And.intro hju (And.intro hgat (And.intro hsucc (And.intro hc1 (And.intro hfz (And.intro hbx (And.intro hgl (And.intro hglq hbG)))))))))
      clear f1 hnw hv hg hgl hvl hvv hu hou hc5 e6 hlG hcG kG zG hglq hbx hc1 hfz hju hgat hsucc hbG hnm
      go_wp2_with (at_builtin; refine wpList_append_I2 rfl (.tmp 23) (.tmp 25) rfl B (.slice A5 gl c5) g rfl (HU.out.1.below HU.out.2.2.2.2.2.2.1) wr.heap.size 1 n rfl HU.out.2.2.2.2.1 (by have := HU.out.2.2.2.2.2.2.2.1; have := HO.out.2.2; omega) (by have := HO.out.2.2; simp; omega) ?_; intro v4 W4 ho4 hg4 hbk4; obtain ⟨z4, y4⟩ := HU.out.2.2.2.2.2.1 W4 hg4; obtain ⟨A4, c4, rfl, _⟩ := ho4.form; have H4 := Lib.hid (And.intro ho4 (And.intro hg4 hbk4)); clear ho4 hg4 hbk4)
      have hgq := (HO.out.1.below HU.out.2.2.2.2.2.2.1).app HU.out.2.1 HU.out.2.2.1 H4.out.1 H4.out.2.1 H4.out.2.2
      rw [← HU.out.2.2.2.1] at hgq
      have hb4 : Below B W1 W4 := (HO.out.2.1.alloc HO.out.2.2 _).grown H4.out.2.1 (Nat.le_trans HO.out.2.2 (by simp)) (fun k hk => (HU.out.1.typ hk).1)
      refine ⟨⟨n + 1, vs.set v (.slice A4 (g.length + 1) c4), by omega, by congr 1, Lib.hid ⟨by simpa using hgq, hb4.setCell (p := ⟨G, v, none⟩) HU.out.2.2.2.2.2.2.2.2.2 _, ?_⟩⟩, by simp only [intOf]; omega⟩
      have h5 := H4.out.2.1.size
      have h6 := HO.out.2.2
      simp at h5 ⊢
      omega
    · have hni : ¬ (n : Int) < L := by omega
      obtain rfl : n = L := by omega
      clear hlt
      have hfin := HO.out.1
      rw [← HM.out, gsN_all] at hfin
      have HF := Lib.hid hfin.has
      have HBB := Lib.hid (HW1.out.2.trans (Below.mono (by have := HO.out.2.1; rwa [HN.out.2.2.1] at this) HW1.out.2.size))
      clear hfin
      go_wp2
      go_ret
      exact ⟨A2, N, c2, rfl, HN.out.1, HN.out.2.1, HF.out, HBB.out⟩
end Go.Proofs.Ytooaobadnainkaa
