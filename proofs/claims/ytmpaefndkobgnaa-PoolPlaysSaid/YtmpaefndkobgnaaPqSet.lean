/- The program's pool behind stores; Free. -/
import Derived.Test.YtmpaefndkobgnaaPq
import Derived.Test.YtmpaefndkobgnaaPaMath
namespace Go.Proofs.Ytmpaefndkobgnaa
open Go.RowKit

theorem set_get {cur : Array Value} {j : Nat} {u : Value} (hj : cur[j]? = some u) (k : Nat) (v : Value) : (cur.setIfInBounds j v)[k]? = if k = j then some v else cur[k]? := by
  have hlt := (Array.getElem?_eq_some_iff.1 hj).1
  rw [Array.getElem?_setIfInBounds]
  by_cases h : j = k
  · subst h; simp [hlt]
  · have : ¬ k = j := fun e => h e.symm
    simp [h, this]
theorem own_cut {w : World} {base g n c : Nat} {e : TypeId} {xs : List Value} {x : Value} (h : w.ownsRow base e 1 (.slice (some ⟨g, 0, none⟩) (n + 1) c) (n + 1) (xs ++ [x])) : w.ownsRow base e 1 (.slice (some ⟨g, 0, none⟩) n c) n xs := by
  have hl : xs.length = n := by have := h.1; simp at this; omega
  refine ⟨by rw [hl]; omega, .inr ?_⟩
  rcases h.2 with ⟨hv, _⟩ | ⟨g', cap, cur, hv, h1, h2, h3, h4, h5, h6⟩
  · cases hv
  · cases hv
    refine ⟨g, c, cur, rfl, h1, h2, by omega, h4, h5, ?_⟩
    have := congrArg (List.take n) h6
    rw [List.take_take] at this
    simp only [Nat.mul_one] at this ⊢
    rw [Nat.min_eq_left (by omega)] at this
    rw [this, ← hl]
    exact List.take_left
theorem own_keep' {W W' : World} {base n sz : Nat} {e : TypeId} {v : Value} {vs : List Value} (ho : W.ownsRow base e sz v n vs) (hk : ∀ x, v.ownBlock = some x → W'.heap[x]? = W.heap[x]?) : W'.ownsRow base e sz v n vs := by
  refine ⟨ho.1, ?_⟩
  rcases ho.2 with h2 | ⟨g, cap, cur, rfl, b, r, s⟩
  · exact .inl h2
  · exact .inr ⟨g, cap, cur, rfl, b, (hk g rfl).trans r, s⟩
section
variable {w w' : World} {R gU cU gB gF cF : Nat} {s : QS}
theorem LQ.ne (h : LQ w R gU cU gB gF cF s) : gU ≠ R ∧ gB ≠ R ∧ gF ≠ R ∧ gU ≠ gB ∧ gU ≠ gF ∧ gB ≠ gF := by
  obtain ⟨c1, h1, _⟩ := h.hU
  obtain ⟨c2, h2, _⟩ := h.hB
  obtain ⟨c3, h3⟩ := row_blk h.hF
  exact ⟨blk_ne h1 h.blk (by decide), blk_ne h2 h.blk (by decide), blk_ne h3 h.blk (by decide), blk_ne h1 h2 (by decide), blk_ne h1 h3 (by decide), blk_ne h2 h3 (by decide)⟩
theorem getD_set {α : Type} (l : List α) (i j : Nat) (x d : α) (hi : i < l.length) : (l.set i x).getD j d = if j = i then x else l.getD j d := by
  by_cases h : i = j
  · subst h; simp [List.getD, hi]
  · have : ¬ j = i := fun e => h e.symm
    simp [List.getD, List.getElem?_set, h, this]
theorem LQ.setL (h : LQ w R gU cU gB gF cF s) (i : Nat) (hi : i < s.n) (b : Bool) : LQ (w.setCell ⟨gU, i * 3 + 2, none⟩ (.bool b)) R gU cU gB gF cF { s with L := s.L.set i b } := by
  obtain ⟨n1, n2, n3, n4, n5, n6⟩ := h.ne
  obtain ⟨cur, hb, hc⟩ := h.hU
  obtain ⟨c2, hb2, hc2⟩ := h.hB
  refine ⟨blk_keep h.blk (Ne.symm n1), ⟨_, blk_set hb _ _, fun i' hi' => ?_⟩, ⟨c2, blk_keep hb2 (Ne.symm n4), hc2⟩, own_set h.hF (by simp [Value.ownBlock]; exact Ne.symm n5), h.lB, h.lG, by simp [h.lL], h.hBl, h.hn, h.hs0, h.hsz, h.hNl, h.hcF, h.hNn, h.hGl⟩
  obtain ⟨h1, h2, h3⟩ := hc i' hi'
  have k1 := set_get (hc i hi).2.2
  refine ⟨?_, ?_, ?_⟩
  · rw [k1, if_neg (by omega)]; exact h1
  · rw [k1, if_neg (by omega)]; exact h2
  · rw [k1]
    show _ = some (bV ((s.L.set i b).getD i' false))
    rw [getD_set _ _ _ _ _ (by rw [h.lL]; exact hi)]
    by_cases hii : i' = i
    · subst hii; rw [if_pos rfl, if_pos rfl]; rfl
    · rw [if_neg (by omega), if_neg hii]; exact h3
theorem LQ.setG (h : LQ w R gU cU gB gF cF s) (i : Nat) (hi : i < s.n) (g : Nat) (hg : g < 4294967296) : LQ (w.setCell ⟨gU, i * 3 + 1, none⟩ (.int .u32 (g : Int))) R gU cU gB gF cF { s with G := s.G.set i g } := by
  obtain ⟨n1, n2, n3, n4, n5, n6⟩ := h.ne
  obtain ⟨cur, hb, hc⟩ := h.hU
  obtain ⟨c2, hb2, hc2⟩ := h.hB
  refine ⟨blk_keep h.blk (Ne.symm n1), ⟨_, blk_set hb _ _, fun i' hi' => ?_⟩, ⟨c2, blk_keep hb2 (Ne.symm n4), hc2⟩, own_set h.hF (by simp [Value.ownBlock]; exact Ne.symm n5), h.lB, by simp [h.lG], h.lL, h.hBl, h.hn, h.hs0, h.hsz, h.hNl, h.hcF, h.hNn, fun x hx => ?_⟩
  · obtain ⟨h1, h2, h3⟩ := hc i' hi'
    have k1 := set_get (hc i hi).2.1
    refine ⟨?_, ?_, ?_⟩
    · rw [k1, if_neg (by omega)]; exact h1
    · rw [k1]
      show _ = some (gV ((s.G.set i g).getD i' 0))
      rw [getD_set _ _ _ _ _ (by rw [h.lG]; exact hi)]
      by_cases hii : i' = i
      · subst hii; rw [if_pos rfl, if_pos rfl]; rfl
      · rw [if_neg (by omega), if_neg hii]; exact h2
    · rw [k1, if_neg (by omega)]; exact h3
  · rcases List.mem_or_eq_of_mem_set hx with h' | h'
    · exact h.hGl x h'
    · rw [h']; exact hg
/-- A buffer's bytes become fewer: a beginning of what it bears. -/
theorem LQ.setB0 (h : LQ w R gU cU gB gF cF s) (i : Nat) (hi : i < s.n) : LQ (w.setCell ⟨gU, i * 3, none⟩ (.slice (some ⟨gB, i * s.sz, none⟩) 0 s.sz)) R gU cU gB gF cF { s with B := s.B.set i [] } := by
  obtain ⟨n1, n2, n3, n4, n5, n6⟩ := h.ne
  obtain ⟨cur, hb, hc⟩ := h.hU
  obtain ⟨c2, hb2, hs2, hc2⟩ := h.hB
  have hsB : ∀ i', (s.B.set i []).getD i' [] = if i' = i then [] else s.B.getD i' [] := fun i' => getD_set _ _ _ _ _ (by rw [h.lB]; exact hi)
  refine ⟨blk_keep h.blk (Ne.symm n1), ⟨_, blk_set hb _ _, fun i' hi' => ?_⟩, ⟨c2, blk_keep hb2 (Ne.symm n4), hs2, fun i' hi' j hj => ?_⟩, own_set h.hF (by simp [Value.ownBlock]; exact Ne.symm n5), by simp [h.lB], h.lG, h.lL, fun i' hi' => ?_, h.hn, h.hs0, h.hsz, h.hNl, h.hcF, h.hNn, h.hGl⟩
  · obtain ⟨h1, h2, h3⟩ := hc i' hi'
    have k1 := set_get (hc i hi).1
    refine ⟨?_, ?_, ?_⟩
    · rw [k1]
      show _ = some (Value.slice (some ⟨gB, i' * s.sz, none⟩) ((s.B.set i []).getD i' []).length s.sz)
      rw [hsB]
      by_cases hii : i' = i
      · subst hii; rw [if_pos rfl, if_pos rfl]; rfl
      · rw [if_neg (by omega), if_neg hii]; exact h1
    · rw [k1, if_neg (by omega)]; exact h2
    · rw [k1, if_neg (by omega)]; exact h3
  · by_cases hii : i' = i
    · subst hii
      have hj' : j < ((s.B.set i' []).getD i' []).length := hj
      rw [hsB, if_pos rfl] at hj'
      simp at hj'
    · have e : (s.B.set i []).getD i' [] = s.B.getD i' [] := by rw [hsB, if_neg hii]
      have := hc2 i' hi' j (by rw [← e]; exact hj)
      simpa only [e] using this
  · show ((s.B.set i []).getD i' []).length ≤ s.sz
    rw [hsB]
    by_cases hii : i' = i
    · rw [if_pos hii]; exact Nat.zero_le _
    · rw [if_neg hii]; exact h.hBl i' hi'
theorem LQ.moved (h : LQ w R gU cU gB gF cF s) (hk : ∀ k, k = R ∨ k = gU ∨ k = gB → w'.heap[k]? = w.heap[k]?) (gF' cF' : Nat) (N' : List Nat) (hN' : w'.ownsRow 0 3 1 (.slice (some ⟨gF', 0, none⟩) N'.length cF') N'.length (N'.reverse.map iV)) (hc : 0 < cF') (hl : N'.length ≤ s.n) (hn : ∀ i ∈ N', i < s.n) :
    LQ (w'.setCell ⟨R, 1, none⟩ (.slice (some ⟨gF', 0, none⟩) N'.length cF')) R gU cU gB gF' cF' { s with N := N' } := by
  obtain ⟨n1, n2, n3, n4, n5, n6⟩ := h.ne
  obtain ⟨cur, hb, hc'⟩ := h.hU
  obtain ⟨c2, hb2, hc2⟩ := h.hB
  have hbR := (hk R (.inl rfl)).trans h.blk
  have hbU := (hk gU (.inr (.inl rfl))).trans hb
  have hbB := (hk gB (.inr (.inr rfl))).trans hb2
  have hR : gF' ≠ R := by
    obtain ⟨c3, h3⟩ := row_blk hN'
    exact blk_ne h3 hbR (by decide)
  refine ⟨?_, ⟨cur, blk_keep hbU n1, hc'⟩, ⟨c2, blk_keep hbB n2, hc2⟩, own_set hN' (by simp [Value.ownBlock]; exact hR), h.lB, h.lG, h.lL, h.hBl, h.hn, h.hs0, h.hsz, hl, hc, hn, h.hGl⟩
  have := blk_set hbR 1 (.slice (some ⟨gF', 0, none⟩) N'.length cF')
  rw [this]; rfl
theorem LQ.setN (h : LQ w R gU cU gB gF cF s) (gF' cF' : Nat) (N' : List Nat) (hN' : w.ownsRow 0 3 1 (.slice (some ⟨gF', 0, none⟩) N'.length cF') N'.length (N'.reverse.map iV)) (hc : 0 < cF') (hl : N'.length ≤ s.n) (hn : ∀ i ∈ N', i < s.n) :
    LQ (w.setCell ⟨R, 1, none⟩ (.slice (some ⟨gF', 0, none⟩) N'.length cF')) R gU cU gB gF' cF' { s with N := N' } := h.moved (fun _ _ => rfl) gF' cF' N' hN' hc hl hn
end

set_option maxHeartbeats 1000000 in
theorem l_Free {w : World} {R gU cU gB gF cF : Nat} {s : QS} (h : LQ w R gU cU gB gF cF s) : Calls Try.prog 10 #[.pointer (some ⟨R, 0, none⟩)] w fun e w' => e = .returned (.int .i64 (s.N.length : Int)) ∧ Below w.heap.size w w' := by
  have f1 := blk_cell h.blk 1
  simp at f1
  obtain ⟨m, hm⟩ : ∃ m, m = s.N.length := ⟨_, rfl⟩
  rw [← hm] at f1 ⊢
  clear h hm
  go_enter Try.func10, Try.ntmps10
  go_wp2
  go_ret
  exact ⟨rfl, Below.refl _ _⟩
theorem l_Free_nil (w : World) : Calls Try.prog 10 #[.pointer none] w fun e w' => e = .returned (.int .i64 0) ∧ Below w.heap.size w w' := by
  go_enter Try.func10, Try.ntmps10
  go_wp2
  go_ret
  exact ⟨rfl, Below.refl _ _⟩
end Go.Proofs.Ytmpaefndkobgnaa
