/- Parts of the proof: KtI, WxGoS, WxIter, WvFn. -/
import Derived.Test.YtfjmdkhemnmkpaaGreatDoorA26
import Derived.Test.YtfjmdkhemnmkpaaGreatDoorA21
import Derived.Test.YtfjmdkhemnmkpaaGreatDoorA23
import Derived.Test.YtfjmdkhemnmkpaaGreatDoorA24
import Derived.RangeFuncSeq
import Derived.Shelf.AbstractIn
import Derived.Test.YtfjmdkhemnmkpaaGreatDoorA01
namespace Go.Proofs.YtfjmdkhemnmkpaaGreatDoor
open Go.RowKit
def gsN (ms : List CM) (n : Nat) : List (List Nat) := (List.range (numW ms)).map fun w => (List.range n).filter fun i => decide (waveI ms i = w)
theorem gsN_all (ms : List CM) : gsN ms ms.length = groupsM ms := rfl
theorem gsN_len (ms : List CM) (n : Nat) : (gsN ms n).length = numW ms := by simp [gsN]
theorem gsN_zero (ms : List CM) : gsN ms 0 = List.replicate (numW ms) [] := by
  apply List.ext_getElem?
  intro i
  simp only [gsN, List.getElem?_map, List.getElem?_replicate]
  by_cases h : i < numW ms
  · simp [h]
  · simp [h]
theorem gsN_at (ms : List CM) (n : Nat) {v : Nat} (h : v < numW ms) : (gsN ms n)[v]? = some ((List.range n).filter fun i => decide (waveI ms i = v)) := by
  simp [gsN, h]
theorem gsN_succ (ms : List CM) (n : Nat) {g : List Nat} (h : (gsN ms n)[waveI ms n]? = some g) : gsN ms (n + 1) = (gsN ms n).set (waveI ms n) (g ++ [n]) := by
  have hv : waveI ms n < numW ms := by
    have := (List.getElem?_eq_some_iff.1 h).1
    rwa [gsN_len] at this
  rw [gsN_at ms n hv] at h
  obtain rfl := Option.some.inj h
  apply List.ext_getElem?
  intro i
  rw [List.getElem?_set]
  by_cases hi : i < numW ms
  · rw [gsN_at ms (n + 1) hi, gsN_at ms n hi, gsN_len, List.range_succ, List.filter_append]
    by_cases he : waveI ms n = i
    · subst he
      rw [if_pos rfl, if_pos hv]
      simp
    · rw [if_neg he]
      simp [he]
  · have h1 : (gsN ms (n + 1))[i]? = none := List.getElem?_eq_none (by rw [gsN_len]; omega)
    have h2 : (gsN ms n)[i]? = none := List.getElem?_eq_none (by rw [gsN_len]; omega)
    rw [h1, h2, gsN_len, if_neg (by omega)]
section
variable {base : Nat} {W W' : World} {G N c : Nat} {vs : List Value} {gs : List (List Nat)}
theorem GrQ.app (h : GrQ base W (.slice (some ⟨G, 0, none⟩) N c) vs gs) {j : Nat} {u u' : Value} {g : List Nat} {x : Nat} (hj : vs[j]? = some u) (hgj : gs[j]? = some g) (hu : OwnI base W' u' (g ++ [x])) (hg : W.grownBy W' u.ownBlock) (hb : u'.ownBlock = u.ownBlock ∨ u'.ownBlock = some W.heap.size) :
    GrQ base (W'.setCell ⟨G, j, none⟩ u') (.slice (some ⟨G, 0, none⟩) N c) (vs.set j u') (gs.set j (g ++ [x])) := by
  have hui := h.own j u g hj hgj
  have hN : N = vs.length := by
    obtain ⟨A, c', e, _⟩ := h.row.form
    injection e
  have hrow : OwnL base W' (.slice (some ⟨G, 0, none⟩) N c) vs := h.row.kept hg (fun k hk e => hui.apartL h.row e hk rfl)
  have hst : OwnL base (W'.setCell ⟨G, j, none⟩ u') (.slice (some ⟨G, 0, none⟩) N c) (vs.set j u') := by
    have h1 := hrow
    unfold OwnL at h1 ⊢
    rw [List.length_set]
    rw [← hN] at h1 ⊢
    exact (World.ownsRow.stored h1 j u').1
  have oth : ∀ y l, OwnI base W' y l → OwnI base (W'.setCell ⟨G, j, none⟩ u') y l := fun y l hy => ownsRow_setCell_other (a := ⟨G, j, none⟩) hy (fun e => hy.apartL hrow e rfl rfl) u'
  have old : ∀ i y l, i ≠ j → vs[i]? = some y → OwnI base W y l → OwnI base W' y l := fun i y l hi hy ho => ho.kept hg (fun k hk e => h.ne i j y u hy hj hi (hk.trans e.symm))
  have hjl := (List.getElem?_eq_some_iff.1 hj).1
  have hne : ∀ i y, i ≠ j → vs[i]? = some y → u'.ownBlock ≠ y.ownBlock := fun i y hi hy => by
    rcases hb with e | e
    · rw [e]
      exact h.ne j i u y hj hy (Ne.symm hi)
    · intro e2
      obtain ⟨l, _, hl⟩ := h.get hy
      have := hl.lt (k := W.heap.size) (by rw [← e2, e])
      omega
  refine ⟨hst, by rw [List.length_set, List.length_set]; exact h.len, fun i y l h1 h2 => ?_, fun i k y y' h1 h2 hik => ?_⟩
  · rw [List.getElem?_set] at h1 h2
    by_cases hi : j = i
    · subst hi
      rw [if_pos rfl, if_pos hjl] at h1
      rw [if_pos rfl, if_pos (by rw [← h.len]; exact hjl)] at h2
      obtain rfl := Option.some.inj h1
      obtain rfl := Option.some.inj h2
      exact oth _ _ hu
    · rw [if_neg hi] at h1 h2
      exact oth _ _ (old i y l (Ne.symm hi) h1 (h.own i y l h1 h2))
  · rw [List.getElem?_set] at h1 h2
    by_cases hi : j = i
    · subst hi
      rw [if_pos rfl, if_pos hjl] at h1
      rw [if_neg hik] at h2
      obtain rfl := Option.some.inj h1
      exact hne k y' (Ne.symm hik) h2
    · rw [if_neg hi] at h1
      by_cases hk : j = k
      · subst hk
        rw [if_pos rfl, if_pos hjl] at h2
        obtain rfl := Option.some.inj h2
        exact Ne.symm (hne i y hik h1)
      · rw [if_neg hk] at h2
        exact h.ne i k y y' h1 h2 hik
end
theorem OwnL.blk {base : Nat} {W : World} {v : Value} {vs : List Value} (h : OwnL base W v vs) (hl : 0 < vs.length) : ∃ g c, v = .slice (some ⟨g, 0, none⟩) vs.length c ∧ base ≤ g ∧ g < W.heap.size ∧ vs.length ≤ c ∧ (∀ j u, vs[j]? = some u → W.cell? ⟨g, j, none⟩ = some u) ∧ ∀ j, W.frozen? ⟨g, j, none⟩ = false := by
  rcases h.2 with ⟨_, h0⟩ | ⟨g, cap, cur, e, hb, hg, hn, _⟩
  · omega
  · subst e
    refine ⟨g, cap, rfl, hb, (Array.getElem?_eq_some_iff.1 hg).1, hn, fun j u hj => ?_, fun j => World.ownsRow.frozenAt h j⟩
    have c0 := World.ownsRow.cells h (g := g) rfl j u hj
    rwa [addr_add, Nat.zero_add] at c0
theorem GrQ.has {base : Nat} {W : World} {A : Option Addr} {N c : Nat} {vs : List Value} {gs : List (List Nat)} (h : GrQ base W (.slice A N c) vs gs) : HasR W A gs := fun hne => by
  have hl : 0 < vs.length := by rw [h.len]; exact List.length_pos_iff.2 hne
  obtain ⟨g, c', e, _, hlt, _, hc, _⟩ := h.row.blk hl
  injection e with e1 _ _
  subst e1
  refine ⟨g, 0, rfl, hlt, fun j hj => ?_⟩
  have hjv : j < vs.length := by rw [h.len]; exact hj
  have ho := h.own j vs[j] gs[j] (List.getElem?_eq_getElem hjv) (List.getElem?_eq_getElem hj)
  obtain ⟨A', c', e, hc'⟩ := ho.form
  have hx := hc j vs[j] (List.getElem?_eq_getElem hjv)
  rw [e] at hx ho
  exact ⟨A', c', by rw [Nat.zero_add]; exact hx, hc', ho.has⟩
def NewR (B : Nat) (w : World) (A : Option Addr) (gs : List (List Nat)) : Prop := gs ≠ [] → ∃ b o, A = some ⟨b, o, none⟩ ∧ B ≤ b ∧ ∀ j (h : j < gs.length), ∃ A' c', w.cell? ⟨b, o + j, none⟩ = some (.slice A' gs[j].length c') ∧ ∀ x i m, A' = some ⟨x, i, m⟩ → B ≤ x
theorem NewR.mono {B C : Nat} {w : World} {A : Option Addr} {gs : List (List Nat)} (h : NewR B w A gs) (hc : C ≤ B) : NewR C w A gs := fun hne => by
  obtain ⟨b, o, e, h1, h2⟩ := h hne
  refine ⟨b, o, e, Nat.le_trans hc h1, fun j hj => ?_⟩
  obtain ⟨A', c', k1, k2⟩ := h2 j hj
  exact ⟨A', c', k1, fun x i m e => Nat.le_trans hc (k2 x i m e)⟩
theorem GrQ.new {base : Nat} {W : World} {A : Option Addr} {N c : Nat} {vs : List Value} {gs : List (List Nat)} (h : GrQ base W (.slice A N c) vs gs) : NewR base W A gs := fun hne => by
  have hl : 0 < vs.length := by rw [h.len]; exact List.length_pos_iff.2 hne
  obtain ⟨g, c', e, hbg, hlt, _, hc, _⟩ := h.row.blk hl
  injection e with e1 _ _
  subst e1
  refine ⟨g, 0, rfl, hbg, fun j hj => ?_⟩
  have hjv : j < vs.length := by rw [h.len]; exact hj
  have ho := h.own j vs[j] gs[j] (List.getElem?_eq_getElem hjv) (List.getElem?_eq_getElem hj)
  obtain ⟨A', c', e, hc'⟩ := ho.form
  have hx := hc j vs[j] (List.getElem?_eq_getElem hjv)
  rw [e] at hx ho
  exact ⟨A', c', by rw [Nat.zero_add]; exact hx, fun x i m e => ho.ge x (by rw [e]; rfl)⟩
set_option maxRecDepth 100000 in
set_option maxHeartbeats 8000000 in
theorem groups_anyN (A : Option Addr) (L c : Nat) (l : List CmdV) (w : World) (hl : L = l.length) (hL : L ≤ 100) (hA : HasC w A l) (hng : ∀ v ∈ l, ¬ v.great) :
    Calls Tryz.prog 48 #[.slice A L c] w fun e W' => ∃ A' N c', e = .returned (.slice A' N c') ∧ N = numW (l.map (·.m)) ∧ N ≤ c' ∧ HasR W' A' (groupsM (l.map (·.m))) ∧ Below w.heap.size w W' ∧ NewR w.heap.size W' A' (groupsM (l.map (·.m))) := by
  have HWV := Lib.hid (waves_anyK A L c l w hl hL hA hng)
  obtain ⟨ms, hms⟩ : ∃ ms, ms = l.map (·.m) := ⟨_, rfl⟩
  rw [← hms] at HWV ⊢
  have hmsl : ms.length = L := by rw [hms, List.length_map]; exact hl.symm
  have HM := Lib.hid hmsl
  have hLi : (L : Int) ≤ 100 := by omega
  clear hms hmsl hl hA hng
  go_enter Tryz.func48, Tryz.ntmps48
  go_wp2_with fail
  refine HWV.out.mono ?_
  rintro e W1 ⟨x, rfl, hown, hb1⟩
  obtain ⟨A1, c1, rfl, hc1⟩ := hown.form
  have hwl : (wavesI ms).length = L := by rw [wavesI_len, HM.out]
  rw [hwl]
  have HE := Lib.hid (empty_any A1 L c1 ms W1 HM.out.symm (by omega) hown.has)
  have HW1 := Lib.hid (And.intro hown.has hb1)
  clear hown hc1 hwl hb1
  go_wp2_with fail
  refine HE.out.mono ?_
  rintro e W2 ⟨x, rfl, ⟨vs0, hgr⟩, hb2⟩
  obtain ⟨A2, c2, rfl, hc2⟩ := hgr.row.form
  have hvl : vs0.length = numW ms := by rw [hgr.len, List.length_replicate]
  rw [hvl] at hgr hc2 ⊢
  obtain ⟨N, hN⟩ : ∃ N, N = numW ms := ⟨_, rfl⟩
  rw [← hN] at hc2 ⊢
  obtain ⟨B, hB⟩ : ∃ B, B = W1.heap.size := ⟨_, rfl⟩
  have H2 : Hid (GrQ B W2 (.slice A2 N c2) vs0 (gsN ms 0) ∧ Below B W1 W2 ∧ B ≤ W2.heap.size) := Lib.hid ⟨by rw [gsN_zero, hB, hN]; exact hgr, by rw [hB]; exact hb2, by rw [hB]; exact hb2.size⟩
  have hN1 : N ≤ 100 := by rw [hN, ← topN_num]; exact Nat.le_trans (topN_le ms _ (Nat.le_refl _)) (by have := HM.out; omega)
  have HN := Lib.hid (And.intro hN (And.intro hc2 (And.intro hB hN1)))
  clear hgr hb2 hvl hB hc2 hN hN1
  go_wp2
  go_loopw [13] (fun i wr => ∃ (n : Nat) (vs : List Value), n ≤ L ∧ i = .int .i64 (n : Int) ∧ Hid (GrQ B wr (.slice A2 N c2) vs (gsN ms n) ∧ Below B W1 wr ∧ B ≤ wr.heap.size)) (fun i _ => L - (intOf i).toNat)
  case atStart => exact ⟨0, vs0, Nat.zero_le _, rfl, H2⟩
  case round =>
    obtain ⟨n, vs, hn, rfl, HO⟩ := hrel
    by_cases hlt : n < L
    · have hni : (n : Int) < L := by omega
      have hnm : n < ms.length := by have := HM.out; omega
      have hnw : n < (wavesI ms).length := by rw [wavesI_len]; exact hnm
      obtain ⟨bb, o, e1, l1, f1⟩ := HW1.out.1 (by intro e; rw [e] at hnw; simp at hnw)
      subst e1
      have g1 := (HO.out.2.1.cell (p := ⟨bb, o + n, none⟩) (by have := HN.out.2.2.1; show bb < B; omega)).trans (f1 n hnw)
      rw [wavesI_at hnw] at g1
      have hvN : waveI ms n < N := by rw [HN.out.1]; exact wave_num hnm
      have hgat := gsN_at ms n (v := waveI ms n) (by rw [← HN.out.1]; exact hvN)
      have hsucc := gsN_succ ms n hgat
      obtain ⟨v, hv⟩ : ∃ v, v = waveI ms n := ⟨_, rfl⟩
      rw [← hv] at g1 hvN hgat hsucc
      obtain ⟨g, hg⟩ : ∃ g, g = (List.range n).filter fun i => decide (waveI ms i = v) := ⟨_, rfl⟩
      have hgl : g.length ≤ n := by rw [hg]; exact Nat.le_trans (List.length_filter_le _ _) (by simp)
      rw [← hg] at hgat hsucc
      have hvl : vs.length = N := by rw [HO.out.1.len, gsN_len, HN.out.1]
      have hvv : v < vs.length := by omega
      obtain ⟨u, hu⟩ : ∃ u, u = vs[v] := ⟨_, rfl⟩
      have hju : vs[v]? = some u := by rw [hu]; exact List.getElem?_eq_getElem hvv
      have hou := HO.out.1.own v u g hju hgat
      obtain ⟨A5, c5, rfl, hc5⟩ := hou.form
      obtain ⟨G, c6, e6, hbG, hlG, hcG, kG, zG⟩ := HO.out.1.row.blk (by omega)
      obtain ⟨rfl, rfl⟩ : A2 = some ⟨G, 0, none⟩ ∧ c2 = c6 := by injection e6 with a b c; exact ⟨a, c⟩
      have x4 := kG v _ hju
      obtain ⟨gl, hglq⟩ : ∃ gl, gl = g.length := ⟨_, rfl⟩
      rw [← hglq] at x4 hou hc5 hju
      have hvi : (v : Int) < N := by omega
      have hbx : Below wr.heap.size wr (wr.alloc (.cells #[.int .i64 (n : Int)] 3)) := (Below.refl _ wr).alloc (Nat.le_refl _) _
      have hc1 := cell_one_new wr (.int .i64 (n : Int)) 3 0 _ rfl
      have hfz : ∀ W4, (wr.alloc (.cells #[.int .i64 (n : Int)] 3)).grownBy W4 (Value.slice A5 gl c5).ownBlock → W4.frozen? ⟨G, v, none⟩ = false ∧ W4.cell? ⟨G, v, none⟩ = some (.slice A5 gl c5) := fun W4 hg4 => by
        have hr0 := HO.out.1.row.below hbx
        have hr := hr0.kept hg4 (fun k hk e => (hou.below hbx).apartL hr0 e hk rfl)
        obtain ⟨G', c', e', _, _, _, k', z'⟩ := hr.blk (by omega)
        injection e' with e1 _ _
        injection e1 with e1
        injection e1 with e1
        subst e1
        exact ⟨z' v, k' v _ hju⟩
      have HU := Lib.hid (And.intro hou (And.intro hju (And.intro hgat (And.intro hsucc (And.intro hc1 (And.intro hfz (And.intro hbx (And.intro hgl (And.intro hglq hbG)))))))))
      clear f1 hnw hv hg hgl hvl hvv hu hou hc5 e6 hlG hcG kG zG hglq hbx hc1 hfz hju hgat hsucc hbG hnm
      go_wp2_with (at_builtin; refine wpList_append_I2 rfl (.tmp 23) (.tmp 25) rfl B (.slice A5 gl c5) g rfl (HU.out.1.below HU.out.2.2.2.2.2.2.1) wr.heap.size 1 n rfl HU.out.2.2.2.2.1 (by have := HU.out.2.2.2.2.2.2.2.1; have := HO.out.2.2; omega) (by have := HO.out.2.2; simp; omega) ?_; intro v4 W4 ho4 hg4 hbk4; obtain ⟨z4, y4⟩ := HU.out.2.2.2.2.2.1 W4 hg4; obtain ⟨A4, c4, rfl, _⟩ := ho4.form; have H4 := Lib.hid (And.intro ho4 (And.intro hg4 hbk4)); clear ho4 hg4 hbk4)
      have hgq := (HO.out.1.below HU.out.2.2.2.2.2.2.1).app HU.out.2.1 HU.out.2.2.1 H4.out.1 H4.out.2.1 H4.out.2.2
      rw [← HU.out.2.2.2.1] at hgq
      have hb4 : Below B W1 W4 := (HO.out.2.1.alloc HO.out.2.2 _).grown H4.out.2.1 (Nat.le_trans HO.out.2.2 (by simp)) (fun k hk => (HU.out.1.typ hk).1)
      refine ⟨⟨n + 1, vs.set v (.slice A4 (g.length + 1) c4), by omega, by congr 1, Lib.hid ⟨by simpa using hgq, hb4.setCell (p := ⟨G, v, none⟩) HU.out.2.2.2.2.2.2.2.2.2 _, ?_⟩⟩, by simp only [intOf]; omega⟩
      have h5 := H4.out.2.1.size
      have h6 := HO.out.2.2
      simp at h5 ⊢
      omega
    · have hni : ¬ (n : Int) < L := by omega
      obtain rfl : n = L := by omega
      clear hlt
      have hfin := HO.out.1
      rw [← HM.out, gsN_all] at hfin
      have HF := Lib.hid hfin.has
      have HNW := Lib.hid (hfin.new.mono (C := w.heap.size) (by have := HW1.out.2.size; have := HN.out.2.2.1; omega))
      have HBB := Lib.hid (HW1.out.2.trans (Below.mono (by have := HO.out.2.1; rwa [HN.out.2.2.1] at this) HW1.out.2.size))
      clear hfin
      go_wp2
      go_ret
      exact ⟨A2, N, c2, rfl, HN.out.1, HN.out.2.1, HF.out, HBB.out, HNW.out⟩
end Go.Proofs.YtfjmdkhemnmkpaaGreatDoor

namespace Go.Proofs.YtfjmdkhemnmkpaaGreatDoor
open Go.RowKit Go.Maps
section
variable {F : Nat → Prop} {w W W' : World} {R b r : Nat} {A : Option Addr} {L c : Nat} {f : Value} {a : AM} {T : Nat → DV} {t : Nat}
theorem RunQ.turns {B : Nat} {row : Option Nat} (h : RunQ F w R b r A L c f a T t W) (hB : w.heap.size ≤ B) (hg : W.grownBy W' row) (hr : ∀ k, row = some k → B ≤ k ∧ ∃ o : Obj, W.heap[k]? = some o ∧ isLD o = true) : RunQ F w R b r A L c f a T t W' := by
  obtain ⟨F', k1, k2, k3⟩ := h.go.ex
  have hn : ∀ {g : Nat} {cs : Array Value} {ty : TypeId} {z : Nat × Nat}, W.heap[g]? = some (.cells cs ty z) → some g ≠ row := fun hc e => by
    obtain ⟨_, o, h1, h2⟩ := hr _ e.symm
    rw [hc] at h1
    cases h1
    cases h2
  refine ⟨⟨⟨F', k1.keep (Only.of_grown (F := fun k => row = some k) hg (fun k e => e)) (fun k hk e => ?_), k2, k3⟩, h.go.only.grown hg (fun k e => .inr (Nat.le_trans hB (hr k e).1)), h.go.lo, (hg.block b h.go.lt (hn h.go.row)).trans h.go.row⟩, (hg.block r h.lt (hn h.cell)).trans h.cell, h.lo, h.ne⟩
  obtain ⟨_, o, h1, h2⟩ := hr k e
  rcases appQ_kindF k1 k hk with ⟨es, ck, h3⟩ | ⟨cs, ty, z, v, h3, _⟩ <;>
  · rw [h3] at h1
    cases h1
    cases h2
end
theorem HasR.turns {W W' : World} {B : Nat} {row : Option Nat} {gA : Option Addr} {gs : List (List Nat)} (h : HasR W gA gs) (hg : W.grownBy W' row) (hr : ∀ k, row = some k → B ≤ k ∧ ∃ o : Obj, W.heap[k]? = some o ∧ isLD o = true) : HasR W' gA gs := fun hne => by
  have hc : ∀ {p : Addr} {v : Value}, W.cell? p = some v → W'.cell? p = some v := fun h => hg.cell h fun e => by
    obtain ⟨_, o, h1, h2⟩ := hr _ e.symm
    unfold World.cell? at h
    rw [h1] at h
    cases o <;> simp [isLD] at h2 h
  obtain ⟨x, o, e, h1, h2⟩ := h hne
  refine ⟨x, o, e, Nat.lt_of_lt_of_le h1 hg.size, fun j hj => ?_⟩
  obtain ⟨A', c', k1, k2, k3⟩ := h2 j hj
  refine ⟨A', c', hc k1, k2, fun hl => ?_⟩
  obtain ⟨y, m, e', h3, h4⟩ := k3 hl
  exact ⟨y, m, e', Nat.lt_of_lt_of_le h3 hg.size, fun i hi => hc (h4 i hi)⟩
theorem HasR.far {r b : Nat} {W V : World} {A : Option Addr} {gs : List (List Nat)} {B : Nat} (h : HasR W A gs) (hf : FarW r b W V) (hn : NewR B W A gs) (hr : r < B) (hb : b < B) : HasR V A gs := fun hne => by
  obtain ⟨x, o, e, h1, h2⟩ := h hne
  obtain ⟨x', o', e', h3, h4⟩ := hn hne
  rw [e] at e'
  cases e'
  have hl0 : 0 < gs.length := List.length_pos_iff.2 hne
  have hx := hf.2 x h1 (by omega) (by omega) fun hk => by
    obtain ⟨A', c', k1, _, _⟩ := h2 0 hl0
    rcases hk.a.cell k1 with ⟨q, e⟩ | ⟨q, e⟩ | ⟨q, e⟩ <;> cases e
  refine ⟨x, o, e, Nat.lt_of_lt_of_le h1 hf.1, fun j hj => ?_⟩
  obtain ⟨A', c', k1, k2, k3⟩ := h2 j hj
  obtain ⟨A2, c2, m1, m2⟩ := h4 j hj
  rw [k1] at m1
  cases m1
  exact ⟨A', c', (World.cell?_of_block hx).trans k1, k2, k3.far hf fun y i m e => by have := m2 y i m e; exact ⟨by omega, by omega⟩⟩
theorem NewR.far {r b : Nat} {W V : World} {A : Option Addr} {gs : List (List Nat)} {B : Nat} (hn : NewR B W A gs) (h : HasR W A gs) (hf : FarW r b W V) (hr : r < B) (hb : b < B) : NewR B V A gs := fun hne => by
  obtain ⟨x, o, e, h1, h2⟩ := h hne
  obtain ⟨x', o', e', h3, h4⟩ := hn hne
  rw [e] at e'
  cases e'
  have hl0 : 0 < gs.length := List.length_pos_iff.2 hne
  have hx := hf.2 x h1 (by omega) (by omega) fun hk => by
    obtain ⟨A', c', k1, _, _⟩ := h2 0 hl0
    rcases hk.a.cell k1 with ⟨q, e⟩ | ⟨q, e⟩ | ⟨q, e⟩ <;> cases e
  refine ⟨x, o, e, h3, fun j hj => ?_⟩
  obtain ⟨A', c', k1, k2⟩ := h4 j hj
  exact ⟨A', c', (World.cell?_of_block hx).trans k1, k2⟩
theorem RunQ.keepsD {F : Nat → Prop} {w W V : World} {R b r : Nat} {A : Option Addr} {L c : Nat} {f : Value} {a : AM} {T : Nat → DV} {t B : Nat} (h : RunQ F w R b r A L c f a T t W) (hf : FarW r b W V) : KeepsD B W V :=
  ⟨hf.1, fun k o _ hk hl => (hf.2 k (Array.getElem?_eq_some_iff.1 hk).1 (fun e => by rw [e, h.cell] at hk; cases hk; cases hl) (fun e => by rw [e, h.go.row] at hk; cases hk; cases hl) (fun hT => by
    rcases hT with ⟨es, ck, h3⟩ | ⟨cs, ty, z, h3, _⟩ <;>
    · rw [h3] at hk
      cases hk
      cases hl)).trans hk⟩
theorem AbidesD.pure {B : Nat} (p : Prop) : AbidesD B (fun _ => p) := fun _ _ _ h _ _ => h
theorem cell_turns {W W' : World} {B : Nat} {row : Option Nat} (hg : W.grownBy W' row) (hr : ∀ k, row = some k → B ≤ k ∧ ∃ o : Obj, W.heap[k]? = some o ∧ isLD o = true) {p : Addr} {v : Value} (h : W.cell? p = some v) : W'.cell? p = some v := hg.cell h fun e => by
  obtain ⟨_, o, h1, h2⟩ := hr _ e.symm
  unfold World.cell? at h
  rw [h1] at h
  cases o <;> simp [isLD] at h2 h
theorem HasI.turns {W W' : World} {B : Nat} {row : Option Nat} {A : Option Addr} {l : List Nat} (h : HasI W A l) (hg : W.grownBy W' row) (hr : ∀ k, row = some k → B ≤ k ∧ ∃ o : Obj, W.heap[k]? = some o ∧ isLD o = true) : HasI W' A l := fun hne => by
  obtain ⟨x, o, e, h1, h2⟩ := h hne
  exact ⟨x, o, e, Nat.lt_of_lt_of_le h1 hg.size, fun j hj => cell_turns hg hr (h2 j hj)⟩
theorem NewR.turns {W W' : World} {B C : Nat} {row : Option Nat} {A : Option Addr} {gs : List (List Nat)} (h : NewR C W A gs) (hg : W.grownBy W' row) (hr : ∀ k, row = some k → B ≤ k ∧ ∃ o : Obj, W.heap[k]? = some o ∧ isLD o = true) : NewR C W' A gs := fun hne => by
  obtain ⟨x, o, e, h1, h2⟩ := h hne
  refine ⟨x, o, e, h1, fun j hj => ?_⟩
  obtain ⟨A', c', k1, k2⟩ := h2 j hj
  exact ⟨A', c', cell_turns hg hr k1, k2⟩
structure RunI (F : Nat → Prop) (w : World) (R b r : Nat) (A : Option Addr) (L c : Nat) (f : Value) (pk : Nat → Nat → Nat → Int) (ms : List CM) (a : AM) (W4 : World) (rv : Nat) (i : Nat) (W : World) : Prop where
  ex : ∃ t, (orderM pk ms).drop t = orderW pk i ((groupsM ms).drop i) ∧ RunT F w R b r A L c f pk ms a t W
  var : W.heap[rv]? = some (.cells #[.pointer (some ⟨r, 0, none⟩)] 68 (0, 0))
  far : FarW r b W4 W
structure RunJ (F : Nat → Prop) (w : World) (R b r : Nat) (A : Option Addr) (L c : Nat) (f : Value) (pk : Nat → Nat → Nat → Int) (ms : List CM) (a : AM) (W4 : World) (rv : Nat) (gA : Option Addr) (i : Nat) (W : World) : Prop where
  run : RunI F w R b r A L c f pk ms a W4 rv i W
  rows : HasR W gA (groupsM ms)
  new : NewR W4.heap.size W gA (groupsM ms)
section
variable {F : Nat → Prop} {w W4 W W' : World} {R b r : Nat} {A : Option Addr} {L c : Nat} {f : Value} {pk : Nat → Nat → Nat → Int} {ms : List CM} {a : AM} {rv i : Nat} {gA : Option Addr}
theorem RunI.abides (hw : w.heap.size ≤ W4.heap.size) : AbidesD W4.heap.size (RunI F w R b r A L c f pk ms a W4 rv i) := by
  intro W W' row h hg hr
  have hn : ∀ {g : Nat} {cs : Array Value} {ty : TypeId} {z : Nat × Nat}, W.heap[g]? = some (.cells cs ty z) → some g ≠ row := fun hc e => by
    obtain ⟨_, o, h1, h2⟩ := hr _ e.symm
    rw [hc] at h1
    cases h1
    cases h2
  obtain ⟨t, h1, h2⟩ := h.ex
  exact ⟨⟨t, h1, h2.turns hw hg hr⟩, (hg.block rv (Array.getElem?_eq_some_iff.1 h.var).1 (hn h.var)).trans h.var, Nat.le_trans h.far.1 hg.size, fun k e1 e2 e3 e4 => (hg.block k (Nat.lt_of_lt_of_le e1 h.far.1) (fun e => by have := (hr k e.symm).1; omega)).trans (h.far.2 k e1 e2 e3 e4)⟩
theorem RunJ.abides (hw : w.heap.size ≤ W4.heap.size) : AbidesD W4.heap.size (RunJ F w R b r A L c f pk ms a W4 rv gA i) := by
  intro W W' row h hg hr
  exact ⟨RunI.abides hw W W' row h.run hg hr, h.rows.turns hg hr, h.new.turns hg hr⟩
theorem RunI.grew (h : RunI F w R b r A L c f pk ms a W4 rv i W) (hb : Below W.heap.size W W') : RunI F w R b r A L c f pk ms a W4 rv i W' := by
  obtain ⟨t, h1, h2⟩ := h.ex
  exact ⟨⟨t, h1, h2.grew hb⟩, (hb.block rv (Array.getElem?_eq_some_iff.1 h.var).1).trans h.var, h.far.trans (FarW.below hb)⟩
theorem RunJ.next {t1 : Nat} (h : RunJ F w R b r A L c f pk ms a W4 rv gA i W) (hr : r < W4.heap.size) (hb : b < W4.heap.size)
    (h1 : (orderM pk ms).drop t1 = orderW pk (i + 1) ((groupsM ms).drop (i + 1))) (h2 : RunT F w R b r A L c f pk ms a t1 W') (h3 : FarW r b W W') : RunJ F w R b r A L c f pk ms a W4 rv gA (i + 1) W' := by
  obtain ⟨t, _, k2⟩ := h.run.ex
  have far : ∀ {g : Nat} {cs : Array Value} {ty : TypeId}, W.heap[g]? = some (.cells cs ty (0, 0)) → g ≠ r → g ≠ b → ty ≠ 92 → ty ≠ 126 → ty ≠ 130 → W'.heap[g]? = some (.cells cs ty (0, 0)) := fun hc e1 e2 n1 n2 n3 => (h3.2 _ (Array.getElem?_eq_some_iff.1 hc).1 e1 e2 (fun hk => by
    rcases hk with ⟨es, ck, h4⟩ | ⟨cs', ty', z, h4, h5, _⟩
    · rw [hc] at h4
      cases h4
    · rw [hc] at h4
      cases h4
      rcases h5 with e | e | e
      · exact n1 e
      · exact n2 e
      · exact n3 e)).trans hc
  have hrow := k2.go.row
  have hcel := k2.cell
  refine ⟨⟨⟨t1, h1, h2⟩, far h.run.var ?_ ?_ (by decide) (by decide) (by decide), h.run.far.trans h3⟩, h.rows.far h3 h.new hr hb, h.new.far h.rows h3 hr hb⟩
  · rintro rfl
    rw [h.run.var] at hcel
    simp at hcel
  · rintro rfl
    rw [h.run.var] at hrow
    simp at hrow
end
end Go.Proofs.YtfjmdkhemnmkpaaGreatDoor

namespace Go.Proofs.YtfjmdkhemnmkpaaGreatDoor
open Go.RowKit Go.Maps
attribute [local go_sem] Oper.semAt_some
structure GE where
  i : Nat
  E : Option Addr
  n : Nat
  c : Nat
  gA : Option Addr
def GE.args (x : GE) : Array Value := #[.int .i64 (x.i : Int), .slice x.E x.n x.c]
theorem KeepsD.grew {B : Nat} {W W' : World} (h : Below W.heap.size W W') : KeepsD B W W' := ⟨h.size, fun k _ _ hk _ => (h.block k (Array.getElem?_eq_some_iff.1 hk).1).trans hk⟩
set_option maxRecDepth 100000 in
set_option maxHeartbeats 4000000 in
theorem waves_seq (n : Nat) (hn : 1 ≤ n) (r N L c : Nat) (A : Option Addr) (gs : List (List Nat)) (I0 : World → Prop) (J : Option Addr → Nat → World → Prop) (hN : N = gs.length) (hN2 : N ≤ 1000)
    (hI : ∀ W, I0 W → W.cell? ⟨r, 1, none⟩ = some (.slice A L c) ∧ Calls Tryz.prog 48 #[.slice A L c] W fun e W' => ∃ gA gc, e = .returned (.slice gA N gc) ∧ Below W.heap.size W W' ∧ J gA 0 W')
    (hJ : ∀ gA i W, J gA i W → HasR W gA gs) (B : Nat) :
    TiedSeqD Fence.wide n Tryz.prog 28 #[.pointer (some ⟨r, 0, none⟩)] #[] GE.args B
      I0 (fun W => ∃ gA, J gA N W) (fun x W => J x.gA x.i W ∧ ∃ h : x.i < gs.length, x.n = gs[x.i].length ∧ x.n ≤ x.c ∧ HasI W x.E gs[x.i] ∧ ∃ gb go, x.gA = some ⟨gb, go, none⟩ ∧ W.cell? ⟨gb, go + x.i, none⟩ = some (.slice x.E x.n x.c)) (fun x W => J x.gA (x.i + 1) W) (fun _ _ => False) (fun _ _ => False) := by
  intro l G' Gx hG hGx hY W h0 hGW
  refine callsIn_of_wp Tryz.func28 rfl trivial ?_ rfl
  simp only [Tryz.ntmps28, List.size_toArray, List.length_cons, List.length_nil, Nat.reduceAdd, Nat.reduceSub, Array.replicate_succ, Array.replicate_zero, List.push_toArray, List.append_toArray, List.nil_append, List.cons_append, List.append_nil]
  obtain ⟨x1, hGr⟩ := hI W h0
  have hNi : (N : Int) ≤ 1000 := by omega
  have HGr := Lib.hid hGr
  have HY := Lib.hid hY
  have HJ := Lib.hid hJ
  have HN := Lib.hid hN
  have HGW := Lib.hid (And.intro hGW (fun A C h k => hG A C h k))
  clear hY h0 hJ hG hGx hN hI hGr hGW
  gi_wp2_with fail
  refine ⟨trivial, (callsIn_wide.2 HGr.out).mono ?_⟩
  rintro e W1 ⟨gA, gc, rfl, hb1, hJ0⟩
  have H1 := Lib.hid (And.intro hJ0 (HGW.out.2 _ _ HGW.out.1 (KeepsD.grew hb1)))
  clear hb1 hJ0 x1 HGr
  gi_wp2
  gi_loopw [12] (fun v wr => ∃ i : Nat, v = .int .i64 (i : Int) ∧ i ≤ N ∧ Hid (J gA i wr) ∧ Hid (G' wr))
    (fun v _ => N - (intOf v).toNat)
  case atStart => exact ⟨0, rfl, Nat.zero_le _, Lib.hid H1.out.1, Lib.hid H1.out.2⟩
  case round =>
    obtain ⟨i, rfl, hi, hj, hg⟩ := hrel
    by_cases hiE : i < N
    · have hii : (i : Int) < N := by omega
      have hil : i < gs.length := by have := HN.out; omega
      have hR := HJ.out gA i wr hj.out
      obtain ⟨gb, go, e, hlt, hc⟩ := hR (by rintro rfl; simp at hil)
      subst e
      obtain ⟨E, c', k1, k2, k3⟩ := hc i hil
      obtain ⟨m, hm⟩ : ∃ m, m = gs[i].length := ⟨_, rfl⟩
      have hyy := HY.out ⟨i, E, m, c', some ⟨gb, go, none⟩⟩ wr ⟨hj.out, hil, hm, by rw [hm]; exact k2, k3, gb, go, rfl, by rw [hm]; exact k1⟩ hg.out
      rw [← hm] at k1
      obtain ⟨fn, tmps, assign, body, hy, hRR⟩ := hyy
      replace hy := show (Instr.yield l #[.int .i64 (i : Int), .slice E m c']).run Tryz.prog wr = _ from hy
      have HRR := Lib.hid hRR
      clear hc hR k2 k3 hm hRR
      gi_wp2
      refine HRR.out.mono ?_
      rintro e W3 (⟨rfl, hIo, hG3⟩ | ⟨rfl, cc, hIx, hGx3⟩)
      · have HIo := Lib.hid hIo
        have HG3 := Lib.hid hG3
        clear hIo hG3 hy k1
        gi_wp2
        exact ⟨⟨i + 1, by congr 1, by omega, HIo, HG3⟩, by simp only [intOf]; omega⟩
      · exact hIx.elim
    · have hii : ¬ (i : Int) < N := by omega
      obtain rfl : i = N := by omega
      gi_wp2
      go_end0
      exact ⟨⟨_, rfl⟩, ⟨gA, hj.out⟩, hg.out⟩
end Go.Proofs.YtfjmdkhemnmkpaaGreatDoor

namespace Go.Proofs.YtfjmdkhemnmkpaaGreatDoor
open Go.RowKit
theorem eqIn_func (w : World) (d : Nat) (fn : Fn) (fi ca : Array Value) : (Op.equalIn (d + 1) 42 (.func fn fi ca) .nilFunc).run Tryz.prog w = .ok false w := by
  simp [Op.equalIn, run_underlying Tryz.underlying42]
theorem eqIn_nilf (w : World) (d : Nat) : (Op.equalIn (d + 1) 42 .nilFunc .nilFunc).run Tryz.prog w = .ok true w := by
  simp [Op.equalIn, run_underlying Tryz.underlying42]
theorem eq_func (w : World) (fn : Fn) (fi ca : Array Value) : (binOp .eql 42 (.func fn fi ca) .nilFunc).run Tryz.prog w = .ok (.bool false) w := by
  have h := eqIn_func w 9999 fn fi ca
  simp only [binOp, Op.equal]
  simp [show Op.maxDepth = 9999 + 1 from rfl, h]
theorem eq_nilf (w : World) : (binOp .eql 42 .nilFunc .nilFunc).run Tryz.prog w = .ok (.bool true) w := by
  have h := eqIn_nilf w 9999
  simp only [binOp, Op.equal]
  simp [show Op.maxDepth = 9999 + 1 from rfl, h]
end Go.Proofs.YtfjmdkhemnmkpaaGreatDoor
