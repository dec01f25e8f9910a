/- Rows of rows of numbers that a call owns; the program's empty. -/
import Derived.Test.YtooaobadnainkaaKtG
namespace Go.Proofs.Ytooaobadnainkaa
open Go.RowKit

theorem infoL : (Try.prog.info? 25).map (fun i => (i.zero, i.size, i.bytes)) = some (some (.slice none 0 0), 1, 24) := by kernel_rfl
theorem infoL_parts : ∃ i, Try.prog.info? 25 = some i ∧ i.zero = some (.slice none 0 0) ∧ i.size = 1 ∧ i.bytes = 24 := by
  have h := infoL
  cases hi : Try.prog.info? 25 with
  | none => rw [hi] at h; cases h
  | some i => rw [hi] at h; simp at h; exact ⟨i, rfl, h.1, h.2.1, h.2.2⟩
/-- Values of rows that a call owns. -/
def OwnL (base : Nat) (w : World) (v : Value) (vs : List Value) : Prop := w.ownsRow base 25 1 v vs.length vs
section
variable {base : Nat} {w w' : World} {v u : Value} {vs : List Value} {l : List Nat}
theorem OwnL.form (h : OwnL base w v vs) : ∃ A c, v = .slice A vs.length c ∧ vs.length ≤ c := by
  rcases h.2 with ⟨rfl, h0⟩ | ⟨g, cap, cur, rfl, _, _, hn, _⟩
  · exact ⟨none, 0, by rw [h0], by omega⟩
  · exact ⟨_, _, rfl, hn⟩
theorem OwnL.kept (h : OwnL base w v vs) {row : Option Nat} (hg : w.grownBy w' row) (hr : ∀ k, v.ownBlock = some k → row ≠ some k) : OwnL base w' v vs := by
  refine World.ownsRow.kept h hg ?_
  cases hv : v.ownBlock with
  | none => exact .inl rfl
  | some x => exact .inr (fun e => hr x hv e.symm)
theorem OwnL.below (h : OwnL base w v vs) (hb : Below w.heap.size w w') : OwnL base w' v vs := h.kept (grownBy_of_below (r := none) hb) (fun _ _ e => by cases e)
theorem OwnL.typ (h : OwnL base w v vs) {k : Nat} (hk : v.ownBlock = some k) : base ≤ k ∧ ∃ cs, w.heap[k]? = some (.cells cs 25 (0, 0)) := by
  rcases h.2 with ⟨rfl, _⟩ | ⟨g, cap, cur, rfl, hb, hg, _⟩
  · cases hk
  · obtain rfl : g = k := by simpa [Value.ownBlock] using hk
    exact ⟨hb, cur, hg⟩
theorem OwnL.nil (base : Nat) (w : World) : OwnL base w (.slice none 0 0) [] := World.ownsRow_nil _ _ _ _
theorem OwnI.kept (h : OwnI base w v l) {row : Option Nat} (hg : w.grownBy w' row) (hr : ∀ k, v.ownBlock = some k → row ≠ some k) : OwnI base w' v l := by
  refine World.ownsRow.kept h hg ?_
  cases hv : v.ownBlock with
  | none => exact .inl rfl
  | some x => exact .inr (fun e => hr x hv e.symm)
theorem OwnI.typ (h : OwnI base w v l) {k : Nat} (hk : v.ownBlock = some k) : base ≤ k ∧ ∃ cs, w.heap[k]? = some (.cells cs 3 (0, 0)) := by
  rcases h.2 with ⟨rfl, _⟩ | ⟨g, cap, cur, rfl, hb, hg, _⟩
  · cases hk
  · obtain rfl : g = k := by simpa [Value.ownBlock] using hk
    exact ⟨hb, cur, hg⟩
theorem OwnI.lt (h : OwnI base w v l) {k : Nat} (hk : v.ownBlock = some k) : k < w.heap.size := by
  obtain ⟨_, cs, hc⟩ := h.typ hk
  exact (Array.getElem?_eq_some_iff.1 hc).1
/-- Numbers and rows of numbers lie in blocks of their own. -/
theorem OwnI.apartL (h : OwnI base w u l) (k : OwnL base w v vs) {i j : Nat} (hi : u.ownBlock = some i) (hj : v.ownBlock = some j) : i ≠ j := by
  obtain ⟨_, cs, h1⟩ := h.typ hi
  obtain ⟨_, ds, h2⟩ := k.typ hj
  intro e
  rw [e, h2] at h1
  have h3 := (Obj.cells.inj (Option.some.inj h1)).2.1
  exact absurd h3 (by decide)
end
/-- An append of one row to rows that the call owns. -/
theorem wpList_append_L {ops : Array Oper} {rest : List Oper} {o : Oper} {a : Act} {w : World} {Q : Exit → Act → World → Prop} (hgd : o.guard = none) (s x : Operand)
    (ho : o.op = .call { callee := .builtin .append, args := #[s, x], argTypes := #[33, 33] }) (base : Nat) (v : Value) (vs : List Value) (hs : a.eval s = v) (hown : OwnL base w v vs)
    (b c : Nat) (u : Value) (hu : u.oneCell' = true) (hx : a.eval x = .slice (some ⟨b, 0, none⟩) 1 c) (hA : w.cell? ⟨b, 0, none⟩ = some u) (hlen : vs.length + 1 ≤ 1000000) (hbase : base ≤ w.heap.size)
    (h : ∀ v' w', OwnL base w' v' (vs ++ [u]) → w.grownBy w' v.ownBlock → wpList Try.prog ops Q rest (a.put o.dst v') w') : wpList Try.prog ops Q (o :: rest) a w := by
  obtain ⟨i, hi, hz, hsz, hby⟩ := infoL_parts
  refine wpList_append_own_at w hgd s x 33 ho base 25 i _ 1 24 Try.underlying33 hi hz hsz hby rfl (by omega) v vs.length vs hs hown ⟨b, 0, none⟩ 1 c [u] hx rfl (fun j y hj => ?_) (fun y hy => by rw [List.mem_singleton.1 hy]; exact hu) (by simp only [maxLen]; omega) (by omega) hbase ?_
  · have hjl : j < 1 := (List.getElem?_eq_some_iff.1 hj).1
    obtain rfl : j = 0 := by omega
    rw [addr_add]
    have : y = u := by simpa using hj.symm
    rw [this]
    exact hA
  · intro v' w' h1 h2 _ _
    refine h v' w' ?_ h2
    unfold OwnL
    rw [List.length_append]
    exact h1
/-- As wpList_append_I, with the block in which the row lies then. -/
theorem wpList_append_I2 {ops : Array Oper} {rest : List Oper} {o : Oper} {a : Act} {w : World} {Q : Exit → Act → World → Prop} (hgd : o.guard = none) (s x : Operand)
    (ho : o.op = .call { callee := .builtin .append, args := #[s, x], argTypes := #[25, 25] }) (base : Nat) (v : Value) (l : List Nat) (hs : a.eval s = v) (hown : OwnI base w v l)
    (b : Nat) (c : Nat) (t : Nat) (hx : a.eval x = .slice (some ⟨b, 0, none⟩) 1 c) (hA : w.cell? ⟨b, 0, none⟩ = some (.int .i64 (t : Int))) (hlen : l.length + 1 ≤ 1000000) (hbase : base ≤ w.heap.size)
    (h : ∀ v' w', OwnI base w' v' (l ++ [t]) → w.grownBy w' v.ownBlock → (v'.ownBlock = v.ownBlock ∨ v'.ownBlock = some w.heap.size) → wpList Try.prog ops Q rest (a.put o.dst v') w') : wpList Try.prog ops Q (o :: rest) a w := by
  obtain ⟨i, hi, hz, hsz, hby⟩ := infoI_parts
  refine wpList_append_own_at w hgd s x 25 ho base 3 i _ 1 8 Try.underlying25 hi hz hsz hby rfl (by omega) v l.length (cellsI l) hs hown ⟨b, 0, none⟩ 1 c (cellsI [t]) hx rfl (fun j u hj => ?_) (cellsI_one [t]) (by simp only [maxLen]; omega) (by omega) hbase ?_
  · have hjl : j < 1 := (List.getElem?_eq_some_iff.1 hj).1
    obtain rfl : j = 0 := by omega
    rw [addr_add]
    have : u = .int .i64 (t : Int) := by simpa [cellsI] using hj.symm
    rw [this]
    exact hA
  · intro v' w' h1 h2 _ h3
    refine h v' w' ?_ h2 h3
    unfold OwnI
    rw [show cellsI (l ++ [t]) = cellsI l ++ cellsI [t] by simp [cellsI], List.length_append]
    exact h1
/-- A row of rows of numbers that a call owns, each in a block of its own. -/
structure GrQ (base : Nat) (W : World) (v : Value) (vs : List Value) (gs : List (List Nat)) : Prop where
  row : OwnL base W v vs
  len : vs.length = gs.length
  own : ∀ (j : Nat) (u : Value) (g : List Nat), vs[j]? = some u → gs[j]? = some g → OwnI base W u g
  ne : ∀ (i j : Nat) (u u' : Value), vs[i]? = some u → vs[j]? = some u' → i ≠ j → u.ownBlock ≠ u'.ownBlock
section
variable {base : Nat} {W W' : World} {v v' u : Value} {vs : List Value} {gs : List (List Nat)}
theorem GrQ.get (h : GrQ base W v vs gs) {j : Nat} {u : Value} (hj : vs[j]? = some u) : ∃ g, gs[j]? = some g ∧ OwnI base W u g := by
  have h1 := (List.getElem?_eq_some_iff.1 hj).1
  have h2 : j < gs.length := by rw [← h.len]; exact h1
  exact ⟨gs[j], List.getElem?_eq_getElem h2, h.own j u _ hj (List.getElem?_eq_getElem h2)⟩
theorem GrQ.mono (h : GrQ base W v vs gs) {b : Nat} (hb : b ≤ base) : GrQ b W v vs gs := by
  refine ⟨?_, h.len, fun j u g h1 h2 => (h.own j u g h1 h2).mono hb, h.ne⟩
  refine ⟨h.row.1, ?_⟩
  rcases h.row.2 with h2 | ⟨g, cap, cur, e, h1, h2⟩
  · exact .inl h2
  · exact .inr ⟨g, cap, cur, e, Nat.le_trans hb h1, h2⟩
theorem GrQ.below (h : GrQ base W v vs gs) (hb : Below W.heap.size W W') : GrQ base W' v vs gs :=
  ⟨h.row.below hb, h.len, fun j u g h1 h2 => (h.own j u g h1 h2).below hb, h.ne⟩
/-- A fresh row behind the others. -/
theorem GrQ.add (h : GrQ base W v vs gs) (hu : OwnI base W u []) {k : Nat} (hk : u.ownBlock = some k) (hf : ∀ (j : Nat) (x : Value) (y : Nat), vs[j]? = some x → x.ownBlock = some y → y ≠ k) (hr : OwnL base W' v' (vs ++ [u])) (hg : W.grownBy W' v.ownBlock) : GrQ base W' v' (vs ++ [u]) (gs ++ [[]]) := by
  have keep : ∀ x g, OwnI base W x g → OwnI base W' x g := fun x g hx => hx.kept hg (fun i hi e => hx.apartL h.row hi e rfl)
  refine ⟨hr, by rw [List.length_append, List.length_append, h.len]; rfl, fun j x g h1 h2 => ?_, fun i j x x' h1 h2 hij => ?_⟩
  · rcases Nat.lt_or_ge j vs.length with hj | hj
    · rw [List.getElem?_append_left hj] at h1
      rw [List.getElem?_append_left (by rw [← h.len]; exact hj)] at h2
      exact keep x g (h.own j x g h1 h2)
    · have hlt := (List.getElem?_eq_some_iff.1 h1).1
      rw [List.length_append, List.length_singleton] at hlt
      obtain rfl : j = vs.length := by omega
      rw [List.getElem?_append_right (Nat.le_refl _)] at h1
      rw [h.len, List.getElem?_append_right (Nat.le_refl _)] at h2
      obtain rfl : u = x := by simpa using h1
      obtain rfl : [] = g := by simpa using h2
      exact keep u [] hu
  · have hl : ∀ {i : Nat} {x : Value}, (vs ++ [u])[i]? = some x → vs[i]? = some x ∨ (i = vs.length ∧ x = u) := by
      intro i x hi
      rcases Nat.lt_or_ge i vs.length with hj | hj
      · rw [List.getElem?_append_left hj] at hi
        exact .inl hi
      · have hlt := (List.getElem?_eq_some_iff.1 hi).1
        rw [List.length_append, List.length_singleton] at hlt
        obtain rfl : i = vs.length := by omega
        rw [List.getElem?_append_right (Nat.le_refl _)] at hi
        exact .inr ⟨rfl, by simpa using hi.symm⟩
    rcases hl h1 with k1 | ⟨k1, q1⟩ <;> rcases hl h2 with k2 | ⟨k2, q2⟩
    · exact h.ne i j x x' k1 k2 hij
    · intro e
      exact hf i x k k1 (by rw [e, q2, hk]) rfl
    · intro e
      exact hf j x' k k2 (by rw [← e, q1, hk]) rfl
    · exact absurd (k1.trans k2.symm) hij
end
set_option maxRecDepth 100000 in
set_option maxHeartbeats 8000000 in
theorem empty_any (A : Option Addr) (L c : Nat) (ms : List CM) (w : World) (hL : L = ms.length) (hm : L ≤ 1000) (hA : HasI w A (wavesI ms)) :
    Calls Try.prog 21 #[.slice A L c] w fun e W' => ∃ x, e = .returned x ∧ (∃ vs, GrQ w.heap.size W' x vs (List.replicate (numW ms) [])) ∧ Below w.heap.size w W' := by
  obtain ⟨i0, hi0, hz0, hs0, hb0⟩ := infoI_parts
  have HS := Lib.hid (sizes_any A L c ms w hL hm hA)
  have hnl : numW ms ≤ 1000 := by rw [← topN_num]; exact Nat.le_trans (topN_le ms _ (Nat.le_refl _)) (by omega)
  obtain ⟨N, hN⟩ : ∃ N, N = numW ms := ⟨_, rfl⟩
  rw [← hN] at HS hnl ⊢
  clear hL hm hA hN
  go_enter Try.func21, Try.ntmps21
  go_wp2_with fail
  refine HS.out.mono ?_
  rintro e W1 ⟨x, rfl, ss, hss, hle, hown, hb1⟩
  obtain ⟨A1, c1, rfl, hc1⟩ := hown.form
  rw [hss] at hown hc1 ⊢
  obtain ⟨B, hB⟩ : ∃ B, B = W1.heap.size := ⟨_, rfl⟩
  have HH := Lib.hid (And.intro hown.has (And.intro hss (And.intro hle (show w.heap.size ≤ B by rw [hB]; exact hb1.size))))
  have H1 : Hid (GrQ B W1 (.slice none 0 0) [] (List.replicate 0 []) ∧ Below B W1 W1 ∧ B ≤ W1.heap.size) := Lib.hid ⟨⟨OwnL.nil _ _, rfl, fun j u g h => by simp at h, fun i j u u' h => by simp at h⟩, Below.refl _ _, by omega⟩
  have HB := Lib.hid (And.intro hb1 hB)
  have hNi : (N : Int) ≤ 1000 := by omega
  clear hss hle hown hc1 hb1 hB
  go_wp2
  go_loopw [3, 10] (fun s3 i wr => ∃ (n : Nat) (A3 : Option Addr) (c3 : Nat) (vs : List Value), n ≤ N ∧ i = .int .i64 (n : Int) ∧ s3 = .slice A3 n c3 ∧ Hid (vs.length = n ∧ GrQ B wr (.slice A3 n c3) vs (List.replicate n []) ∧ Below B W1 wr ∧ B ≤ wr.heap.size)) (fun _ i _ => N - (intOf i).toNat)
  case atStart => exact ⟨0, none, 0, [], Nat.zero_le _, rfl, rfl, Lib.hid ⟨rfl, H1.out.1, H1.out.2⟩⟩
  case round =>
    obtain ⟨n, A3, c3, vs, hn, rfl, rfl, HO⟩ := hrel
    by_cases hlt : n < N
    · have hni : (n : Int) < N := by omega
      have hnl2 : n < ss.length := by have := HH.out.2.1; omega
      obtain ⟨bb, o, e1, l1, f1⟩ := HH.out.1 (by rintro rfl; simp at hnl2)
      subst e1
      have g1 := (HO.out.2.2.1.cell (p := ⟨bb, o + n, none⟩) (by have := HB.out.2; show bb < B; omega)).trans (f1 n hnl2)
      have hsl := HH.out.2.2.1 ss[n] (List.getElem_mem hnl2)
      obtain ⟨s, hs⟩ : ∃ s, s = ss[n] := ⟨_, rfl⟩
      rw [← hs] at g1 hsl
      obtain ⟨w1, hmk, hmo, hmg⟩ := run_make_own (P := Try.prog) wr B 25 3 i0 (.int .i64 0) 1 Try.underlying25 hi0 hz0 hs0 .i64 .i64 s (by rw [hb0]; omega) (by simp only [maxLen]; omega) HO.out.2.2.2
      have hsi : (s : Int) ≤ 1000 := by omega
      obtain ⟨f, hf⟩ : ∃ f, f = wr.heap.size := ⟨_, rfl⟩
      rw [← hf] at hmk hmo
      have hb2 : Below wr.heap.size wr w1 := (Below.refl _ wr).grown hmg (Nat.le_refl _) (fun k e => by cases e)
      have hgr1 := HO.out.2.1.below hb2
      have hui : OwnI B w1 (.slice (some ⟨f, 0, none⟩) 0 s) [] := hmo
      have hc1 := cell_one_new w1 (.slice (some ⟨f, 0, none⟩) 0 s) 25 0 _ rfl
      have hbx : Below w1.heap.size w1 (w1.alloc (.cells #[.slice (some ⟨f, 0, none⟩) 0 s] 25)) := (Below.refl _ w1).alloc (Nat.le_refl _) _
      have HU := Lib.hid (And.intro hui (And.intro hf (And.intro hc1 (And.intro hgr1 (And.intro hb2 hbx)))))
      clear f1 hnl2 hs hmo hmg hb2 hgr1 hui hf hc1 hsl hbx
      go_wp2_with (at_builtin; refine wpList_append_L rfl (.tmp 13) (.tmp 19) rfl B (.slice A3 n c3) vs rfl (HU.out.2.2.2.1.row.below HU.out.2.2.2.2.2) w1.heap.size 1 (.slice (some ⟨f, 0, none⟩) 0 s) rfl rfl HU.out.2.2.1 (by have := HO.out.1; omega) (by have := HO.out.2.2.2; have := HU.out.2.2.2.2.1.size; simp; omega) ?_; intro v4 W4 ho4 hg4; obtain ⟨A4, c4, rfl, _⟩ := ho4.form; have H4 := Lib.hid (And.intro ho4 hg4); clear ho4 hg4)
      have hlv : (vs ++ [Value.slice (some ⟨f, 0, none⟩) 0 s]).length = n + 1 := by rw [List.length_append, HO.out.1]; rfl
      have hgq := (HU.out.2.2.2.1.below HU.out.2.2.2.2.2).add (HU.out.1.below HU.out.2.2.2.2.2) (k := f) rfl (fun j x y hj hy => by
        obtain ⟨g, _, hx⟩ := HO.out.2.1.get hj
        have := hx.lt hy
        have := HU.out.2.1
        omega) H4.out.1 H4.out.2
      rw [hlv] at hgq
      rw [HO.out.1]
      have hw1 : Below B W1 w1 := HO.out.2.2.1.trans (Below.mono HU.out.2.2.2.2.1 HO.out.2.2.2)
      have hs1 : B ≤ w1.heap.size := Nat.le_trans HO.out.2.2.2 HU.out.2.2.2.2.1.size
      refine ⟨⟨n + 1, A4, c4, vs ++ [.slice (some ⟨f, 0, none⟩) 0 s], by omega, by congr 1, rfl, Lib.hid ⟨hlv, by rw [List.replicate_succ']; exact hgq, (hw1.alloc hs1 _).grown H4.out.2 (Nat.le_trans hs1 (by simp)) (fun k hk => (HO.out.2.1.row.typ hk).1), ?_⟩⟩, by simp only [intOf]; omega⟩
      have h5 := H4.out.2.size
      simp at h5
      omega
    · have hni : ¬ (n : Int) < N := by omega
      obtain rfl : n = N := by omega
      clear hlt
      go_wp2
      go_ret
      exact ⟨_, rfl, ⟨vs, HO.out.2.1.mono HH.out.2.2.2⟩, HB.out.1.trans (Below.mono HO.out.2.2.1 HH.out.2.2.2)⟩
end Go.Proofs.Ytooaobadnainkaa
