/- The document's own tally, made. -/
import Derived.Test.YtnpkaljmncehhaaVoRnR
namespace Go.Proofs.Ytnpkaljmncehhaa
open Go.RowKit

def rbV (rb : Nat → Nat) (i : Nat) : List Value := (List.range i).map fun j => .slice (some ⟨rb j, 0, none⟩) 202 202
theorem rbV_succ (rb : Nat → Nat) (i : Nat) : rbV rb (i + 1) = rbV rb i ++ [.slice (some ⟨rb i, 0, none⟩) 202 202] := by simp [rbV, List.range_succ]
theorem rbV_congr {rb rb' : Nat → Nat} {i : Nat} (h : ∀ j, j < i → rb' j = rb j) : rbV rb' i = rbV rb i := by
  unfold rbV
  refine List.map_congr_left fun j hj => ?_
  rw [h j (List.mem_range.1 hj)]
/-- The tally with its first rows. -/
structure NewV (w : World) (q i : Nat) (rb : Nat → Nat) (v : Value) (W : World) : Prop where
  below : Below w.heap.size w W
  kq : W.heap[q]? = some (.cells #[v, .int .i64 0] 38 (0, 0))
  own : W.ownsRow w.heap.size 46 1 v i (rbV rb i)
  rows : ∀ j, j < i → W.heap[rb j]? = some (.cells falses 4 (0, 0))
  new : w.heap.size ≤ q ∧ ∀ j, j < i → w.heap.size ≤ rb j
  inj : ∀ j k, j < i → k < i → rb j = rb k → j = k
section
variable {w W : World} {q i : Nat} {rb : Nat → Nat} {v : Value}
theorem NewV.notQ (h : NewV w q i rb v W) : v.ownBlock ≠ some q := fun e => by
  rcases h.own.2 with ⟨e2, _⟩ | ⟨g', cap', cur, e2, _, hgg, _⟩
  · rw [e2] at e; cases e
  · rw [e2] at e
    have : g' = q := by simpa [Value.ownBlock] using e
    rw [this] at hgg
    have := hgg.symm.trans h.kq
    cases this
theorem NewV.notR (h : NewV w q i rb v W) {j : Nat} (hj : j < i) : v.ownBlock ≠ some (rb j) := fun e => by
  rcases h.own.2 with ⟨e2, _⟩ | ⟨g', cap', cur, e2, _, hgg, _⟩
  · rw [e2] at e; cases e
  · rw [e2] at e
    have : g' = rb j := by simpa [Value.ownBlock] using e
    rw [this] at hgg
    have := hgg.symm.trans (h.rows j hj)
    cases this
theorem NewV.up (h : NewV w q i rb v W) {w1 w' : World} {v' : Value} (hq : NewQ w.heap.size (rbV rb i) W.drew v v' i w1) (he : w' = w1.setCell ⟨q, 0, none⟩ v') : ∃ rb', NewV w q (i + 1) rb' v' w' := by
  obtain ⟨b, h1, h2, h3, h4, h5'⟩ := hq
  have h1 : W.heap.size ≤ b := h1
  have h4 : W.heap.size ≤ w1.heap.size := h4
  have h5 : W.grownBy w1 v.ownBlock := ⟨h5'.os, h5'.tape, h5'.output, h5'.size, h5'.block⟩
  have hW := h.below.size
  have hql := (Array.getElem?_eq_some_iff.1 h.kq).1
  have hrl : ∀ j, j < i → rb j < W.heap.size := fun j hj => (Array.getElem?_eq_some_iff.1 (h.rows j hj)).1
  have k1 : w1.heap[q]? = some (.cells #[v, .int .i64 0] 38 (0, 0)) := (h5.block q hql (Ne.symm h.notQ)).trans h.kq
  obtain ⟨rb', hrb⟩ : ∃ f : Nat → Nat, f = fun j => if j = i then b else rb j := ⟨_, rfl⟩
  have hri : rb' i = b := by rw [hrb]; simp
  have hrj : ∀ j, j < i → rb' j = rb j := fun j hj => by rw [hrb]; simp; omega
  have hset : ∀ k, k ≠ q → w'.heap[k]? = w1.heap[k]? := fun k hk => by rw [he]; exact Below.heap_setCell _ _ _ _ hk
  have hsz : w'.heap.size = w1.heap.size := by rw [he]; simp [World.setCell]
  have hqn : v'.ownBlock ≠ some q := fun e => by
    rcases h3.2 with ⟨e2, _⟩ | ⟨g', cap', cur, e2, _, hgg, _⟩
    · rw [e2] at e; cases e
    · rw [e2] at e
      have : g' = q := by simpa [Value.ownBlock] using e
      rw [this] at hgg
      have := hgg.symm.trans k1
      cases this
  refine ⟨rb', ⟨?_, ?_, ?_, fun j hj => ?_, ⟨h.new.1, fun j hj => ?_⟩, fun j k hj hk e => ?_⟩⟩
  · rw [he]
    exact (h.below.grown h5 hW fun k e => (h.own.lt k e).1).setCell (p := ⟨q, 0, none⟩) h.new.1 _
  · rw [he, blk_set k1 0]
    rfl
  · rw [rbV_succ, rbV_congr hrj, hri]
    refine ⟨h3.1, ?_⟩
    rcases h3.2 with hn | ⟨g, cap, cur, e, hb, hgg, rest⟩
    · exact .inl hn
    · refine .inr ⟨g, cap, cur, e, hb, ?_, rest⟩
      rw [hset g (fun e2 => hqn (by rw [e, e2]; rfl))]
      exact hgg
  · by_cases e : j = i
    · subst e
      rw [hri, hset b (by omega)]
      exact h2
    · have hj' : j < i := by omega
      rw [hrj j hj', hset _ (fun e2 => ?_), h5.block _ (hrl j hj') (Ne.symm (h.notR hj'))]
      · exact h.rows j hj'
      · have := h.rows j hj'
        rw [e2, h.kq] at this
        cases this
  · by_cases e : j = i
    · subst e
      rw [hri]
      omega
    · rw [hrj j (by omega)]
      exact h.new.2 j (by omega)
  · by_cases e1 : j = i
    · by_cases e2 : k = i
      · omega
      · have hk' : k < i := by omega
        rw [e1, hri, hrj k hk'] at e
        have := hrl k hk'
        omega
    · have hj' : j < i := by omega
      by_cases e2 : k = i
      · rw [e2, hri, hrj j hj'] at e
        have := hrl j hj'
        omega
      · have hk' : k < i := by omega
        rw [hrj j hj', hrj k hk'] at e
        exact h.inj j k hj' hk' e
theorem NewV.done {n : Nat} (h : NewV w q n rb v W) (hn : 0 < n) : ∃ g cap, RefV w q g cap rb n 0 (fun _ _ => false) W := by
  rcases h.own.2 with ⟨_, e⟩ | ⟨g, cap, cur, e, hb, hgg, rest⟩
  · omega
  · subst e
    refine ⟨g, cap, ⟨h.kq, fun i hi => ?_, h.rows, (Array.getElem?_eq_some_iff.1 hgg).1, ⟨h.new.1, hb, h.new.2⟩, ⟨fun e => h.notQ (by rw [e]; rfl), fun i hi => ⟨fun e => ?_, fun e => h.notR hi (by rw [e]; rfl)⟩, h.inj⟩⟩⟩
    · have := World.ownsRow.cells h.own (g := g) rfl i (.slice (some ⟨rb i, 0, none⟩) 202 202) (by simp [rbV, hi])
      rw [addr_add, Nat.zero_add] at this
      exact this
    · have := h.rows i hi
      rw [e, h.kq] at this
      cases this
end
set_option maxRecDepth 100000 in
set_option maxHeartbeats 1000000 in
theorem refNew_any (w : World) (n : Nat) (h0 : 1 ≤ n) (h7 : n ≤ 7) : Calls Try.prog 8 #[.int .i64 (n : Int)] w fun e W' => ∃ q g cap rb, e = .returned (.pointer (some ⟨q, 0, none⟩)) ∧ RefV w q g cap rb n 0 (fun _ _ => false) W' ∧ Below w.heap.size w W' := by
  have hni : (n : Int) ≤ 7 := by omega
  have HN := Lib.hid (And.intro h0 h7)
  clear h0 h7
  go_enter Try.func8, Try.ntmps8
  go_upto_region 2 with (fail)
  obtain ⟨W1, hW1⟩ : ∃ V, V = w.alloc (.cells #[.slice none 0 0, .int .i64 0] 38) := ⟨_, rfl⟩
  rw [← hW1]
  obtain ⟨b1, k1, s1⟩ := box2 hW1
  have HV0 : Hid (NewV w w.heap.size 0 (fun _ => 0) (.slice none 0 0) W1) := Lib.hid ⟨b1, k1, World.ownsRow_nil _ _ _ _, fun j hj => by omega, ⟨Nat.le_refl _, fun j hj => by omega⟩, fun j k hj => by omega⟩
  obtain ⟨q, hq⟩ : ∃ q, q = w.heap.size := ⟨_, rfl⟩
  rw [← hq] at HV0 ⊢
  clear b1 k1 s1 hW1
  go_wp2
  go_loopw [4] (fun v4 wr => ∃ (i : Nat) (rb : Nat → Nat) (v : Value), i ≤ n ∧ v4 = .int .i64 (i : Int) ∧ Hid (NewV w q i rb v wr)) (fun i _ => n - (intOf i).toNat)
  case atStart => exact ⟨0, _, _, Nat.zero_le _, rfl, HV0⟩
  case round =>
    obtain ⟨i, rb, v, hi, rfl, HV⟩ := hrel
    by_cases hlt : i < n
    · have hii : (i : Int) < n := by omega
      go_upto_region 5 with (fail)
      refine refnew_r q w.heap.size i v (rbV rb i) _ wr _ rfl rfl HV.out.kq HV.out.own HV.out.below.size (by omega) ⟨fun _ => Grew.refl _, fun h => ?_, fun h => ?_, fun h => ?_, fun h => ?_⟩ ?_
      · cases h
      · cases h
      · cases h
      · cases h
      intro u W2 hW2
      obtain ⟨_, _, _, _, h10⟩ := hW2
      obtain ⟨w1, v', hN1, he⟩ := h10 rfl
      obtain ⟨rb', hV2⟩ := HV.out.up (W := wr) (v' := v') (w1 := w1) (w' := W2) hN1 he
      have H2 := Lib.hid hV2
      clear hV2 hN1 he h10
      simp only [puts, List.foldl_cons, List.foldl_nil, Act.put, List.setIfInBounds_toArray, List.set_cons_succ, List.set_cons_zero]
      go_wp2
      exact ⟨⟨i + 1, _, _, by omega, by congr 1, H2⟩, by simp only [intOf]; omega⟩
    · have hii : ¬ (i : Int) < n := by omega
      have hin : i = n := by omega
      subst hin
      have HD := Lib.hid (HV.out.done (by have := HN.out.1; omega))
      go_wp2
      go_ret
      obtain ⟨g, cap, hR⟩ := HD.out
      exact ⟨q, by rw [hq]; rfl, ⟨g, cap, rb, hR⟩, HV.out.below⟩
end Go.Proofs.Ytnpkaljmncehhaa
