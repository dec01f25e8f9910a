/- Parts of the proof: WxCl, WxCopy. -/
import Derived.Test.YtfjmdkhemnmkpaaGreatDoorA02
import Derived.Test.YtfjmdkhemnmkpaaGreatDoorA03
import Derived.Laws.Append
import Derived.Lib.AppendZeros
namespace Go.Proofs.YtfjmdkhemnmkpaaGreatDoor
open Go.RowKit
theorem run_append_copy {P : Program} (w : World) (t ty e : TypeId) (i : TypeInfo) (z : Value) (ht : P.underlying t = some (.slice e)) (hi : P.info? e = some i) (hz : i.zero = some z) (g : Nat) (a : Addr) (n c : Nat) (news : List Value) (hl : news.length = n * i.size) (hnews : ∀ j v, news[j]? = some v → w.cell? (a.add j) = some v) (hn : n ≤ 1000) (hby : i.bytes ≤ 1000) :
    ∃ A' c' W', (Builtin.append_ #[t, t] ty #[.slice (some ⟨g, 0, none⟩) 0 0, .slice (some a) n c]).run P w = .ok (.slice A' n c') W' ∧ n ≤ c' ∧ Below w.heap.size w W' ∧ (n ≠ 0 → A' = some ⟨w.heap.size, 0, none⟩ ∧ ∃ rest, W'.heap[w.heap.size]? = some (.cells (news.toArray ++ rest) e (0, 0))) ∧ ∀ x o m, A' = some ⟨x, o, m⟩ → x = g ∨ (w.heap.size ≤ x ∧ x < W'.heap.size) := by
  by_cases h0 : n = 0
  · subst h0
    have hfc : ∀ k, (Builtin.firstCells i.size 0 (.slice (some a) 0 k)).run P w = .ok #[] w := fun k => by simp [Builtin.firstCells, loadCells, loadCellsFrom]
    refine ⟨some ⟨g, 0, none⟩, 0, w, ?_, Nat.le_refl _, Below.refl _ w, fun h => absurd rfl h, fun x o m e => .inl (by cases e; rfl)⟩
    simp [Builtin.append_, run_underlying ht, sizeOf, typeInfo, hi, Builtin.lenOf, hfc, storeCells]
  · have hfit : Builtin.nextslicecap (0 + n) 0 * i.bytes ≤ 281474976710656 := growslice_fits (by omega) (by
      have : (0 + n) * i.bytes ≤ 1000 * 1000 := Nat.mul_le_mul (by omega) hby
      omega)
    have hr := run_append_grow (P := P) w t ty e i z ht hi hz ⟨g, 0, none⟩ 0 0 [] (by simp) (fun j v h => by simp at h) a n c news hl hnews (by omega) (by omega) hfit
    rw [Nat.zero_add] at hr
    refine ⟨_, _, _, hr, grownCap_ge _ _ _ _, ((Below.refl _ w).drew).alloc (Nat.le_refl _) _, fun _ => ⟨rfl, Builtin.zeroCells z.cells (grownCap w n 0 e - n), ?_⟩, fun x o m e => .inr (by cases e; exact ⟨Nat.le_refl _, by rw [World.size_alloc]; exact Nat.lt_succ_self _⟩)⟩
    have := World.alloc_heap_new w.drew (.cells (([] : List Value).toArray ++ news.toArray ++ Builtin.zeroCells z.cells (grownCap w n 0 e - n)) e)
    simpa [Array.append_assoc] using this
theorem cellsS_at {w : World} {A : Addr} {l : List ByteArray} (h : HasS w (some A) l) : ∀ j u, (cellsS l)[j]? = some u → w.cell? (A.add j) = some u := by
  intro j u hj
  unfold cellsS at hj
  rw [List.getElem?_map] at hj
  obtain ⟨t, ht, rfl⟩ := Option.map_eq_some_iff.1 hj
  obtain ⟨hl, rfl⟩ := List.getElem?_eq_some_iff.1 ht
  obtain ⟨b, o, e, _, hc⟩ := h (by rintro rfl; simp at hl)
  cases e
  rw [addr_add]
  exact hc j hl
def rowC (l : List CmdV) : List Value := l.flatMap fun v => v.cells.toList
theorem rowC_len : ∀ l : List CmdV, (rowC l).length = l.length * 7
  | [] => rfl
  | v :: l => by
    have := rowC_len l
    simp only [rowC, List.flatMap_cons, List.length_append, List.length_cons] at this ⊢
    rw [this]
    simp [CmdV.cells]
    omega
theorem rowC_get : ∀ (l : List CmdV) (j : Nat) (hj : j < l.length) (i : Nat), i < 7 → (rowC l)[j * 7 + i]? = l[j].cells[i]?
  | v :: l, 0, _, i, hi => by
    rw [rowC, List.flatMap_cons, List.getElem?_append_left (by simp [CmdV.cells]; omega)]
    simp
  | v :: l, j + 1, hj, i, hi => by
    have := rowC_get l j (by simpa using hj) i hi
    rw [rowC] at this
    rw [rowC, List.flatMap_cons, List.getElem?_append_right (by simp [CmdV.cells]; omega)]
    rw [show (j + 1) * 7 + i - v.cells.toList.length = j * 7 + i by simp [CmdV.cells]; omega, this]
    simp
theorem rowC_at {w : World} {A : Addr} {l : List CmdV} (h : HasC w (some A) l) : ∀ j u, (rowC l)[j]? = some u → w.cell? (A.add j) = some u := by
  intro j u hj
  have hlt := (List.getElem?_eq_some_iff.1 hj).1
  rw [rowC_len] at hlt
  obtain ⟨b, o, e, _, hc⟩ := h (by rintro rfl; simp at hlt)
  cases e
  have h1 : j / 7 < l.length := by omega
  have h2 := rowC_get l (j / 7) h1 (j % 7) (Nat.mod_lt _ (by decide))
  rw [show j / 7 * 7 + j % 7 = j by omega, hj] at h2
  have := (hc (j / 7) h1).1 (j % 7) u h2.symm
  rw [addr_add]
  rw [show o + j / 7 * 7 + j % 7 = o + j by omega] at this
  exact this
theorem infoX : (Tryz.prog.info? 57).map (fun i => (i.zero, i.size, i.bytes)) = some (some (.agg #[.int .u32 0, .int .u32 0, .int .u8 0, .slice none 0 0, .string ⟨#[]⟩, .string ⟨#[]⟩, .int .i64 0]), 7, 80) := by kernel_rfl
theorem infoX_parts : ∃ i, Tryz.prog.info? 57 = some i ∧ i.zero = some (.agg #[.int .u32 0, .int .u32 0, .int .u8 0, .slice none 0 0, .string ⟨#[]⟩, .string ⟨#[]⟩, .int .i64 0]) ∧ i.size = 7 ∧ i.bytes = 80 := by
  have h := infoX
  cases hi : Tryz.prog.info? 57 with
  | none => rw [hi] at h; cases h
  | some i => rw [hi] at h; simp at h; exact ⟨i, rfl, h.1, h.2.1, h.2.2⟩
set_option maxRecDepth 100000 in
theorem cloneS_any (A : Option Addr) (L c : Nat) (ks : List ByteArray) (w : World) (hL : L = ks.length) (hm : L ≤ 1000) (hA : HasS w A ks) :
    Calls Tryz.prog 76 #[.slice A L c] w fun e W' => ∃ A' c', e = .returned (.slice A' L c') ∧ L ≤ c' ∧ HasS W' A' ks ∧ Below w.heap.size w W' ∧ ∀ x o m, A' = some ⟨x, o, m⟩ → w.heap.size ≤ x ∧ x < W'.heap.size := by
  obtain ⟨i, hi, hz, hsz, hby⟩ := infoS_parts
  have HL := Lib.hid hL
  clear hL
  cases A with
  | none =>
    have hks : ks = [] := Classical.byContradiction fun hn => by obtain ⟨_, _, h, _⟩ := hA hn; cases h
    have h0 : L = 0 := by rw [HL.out, hks]; rfl
    subst h0
    have hq : ∀ W, (binOp .eql 55 (.slice none 0 c) (.slice none 0 0)).run Tryz.prog W = .ok (.bool true) W := fun W => Lib.run_eql_slice_nil W _ _ none 0 c 0 0 Tryz.underlying55
    have HK := Lib.hid hks
    clear hA hks
    go_enter Tryz.func76, Tryz.ntmps76
    go_wp2
    go_ret
    exact ⟨none, 0, rfl, Nat.le_refl _, by rw [HK.out]; exact fun h => absurd rfl h, Below.refl _ _, fun _ _ _ e => by cases e⟩
  | some a =>
    obtain ⟨W1, hW1⟩ : ∃ x, x = w.alloc (.cells #[] 9) := ⟨_, rfl⟩
    have hb1 : Below w.heap.size w W1 := by rw [hW1]; exact (Below.refl _ w).alloc (Nat.le_refl _) _
    have hs1 : W1.heap.size = w.heap.size + 1 := by rw [hW1]; exact World.size_alloc _ _
    obtain ⟨A', c', W2, hr, hc', hb2, hn, hx⟩ := run_append_copy (P := Tryz.prog) W1 55 55 9 i _ Tryz.underlying55 hi hz w.heap.size a L c (cellsS ks) (by simp [cellsS, HL.out, hsz]) (cellsS_at (hA.below hb1)) hm (by rw [hby]; omega)
    have HR := Lib.hid hr
    have hS : HasS W2 A' ks := fun hne => by
      have h0 : L ≠ 0 := by rw [HL.out]; exact fun h => hne (List.length_eq_zero_iff.1 h)
      obtain ⟨e, rest, h1⟩ := hn h0
      refine ⟨_, 0, e, (Array.getElem?_eq_some_iff.1 h1).1, fun j hj => ?_⟩
      rw [blk_cell h1, Array.getElem?_append_left (by simp [cellsS]; omega)]
      simp [cellsS, hj]
    have HF := Lib.hid (show L ≤ c' ∧ HasS W2 A' ks ∧ Below w.heap.size w W2 ∧ ∀ x o m, A' = some ⟨x, o, m⟩ → w.heap.size ≤ x ∧ x < W2.heap.size from ⟨hc', hS, hb1.trans (Below.mono hb2 hb1.size), fun x o m e => by
      have h2 := hb2.size
      rcases hx x o m e with rfl | ⟨h3, h4⟩
      · exact ⟨Nat.le_refl _, by omega⟩
      · exact ⟨by omega, h4⟩⟩)
    have hq : ∀ W, (binOp .eql 55 (.slice (some a) L c) (.slice none 0 0)).run Tryz.prog W = .ok (.bool false) W := fun W => Lib.run_eql_slice_nil W _ _ (some a) L c 0 0 Tryz.underlying55
    clear hA hr hc' hn hx hS hb1 hb2 hs1
    go_enter Tryz.func76, Tryz.ntmps76
    go_wp2_with (at_builtin; refine Lib.wpList_append_run _ rfl (.tmp 5) (.tmp 6) 55 55 rfl _ _ rfl rfl _ _ (by rw [← hW1]; exact HR.out) ?_)
    go_ret
    exact ⟨A', c', rfl, HF.out.1, HF.out.2.1, HF.out.2.2.1, HF.out.2.2.2⟩
set_option maxRecDepth 100000 in
theorem cloneC_any (A : Option Addr) (L c : Nat) (l : List CmdV) (w : World) (hL : L = l.length) (hm : L ≤ 1000) (hA : HasC w A l) :
    Calls Tryz.prog 75 #[.slice A L c] w fun e W' => ∃ A' c', e = .returned (.slice A' L c') ∧ L ≤ c' ∧ (L ≠ 0 → ∃ g cs, A' = some ⟨g, 0, none⟩ ∧ W'.heap[g]? = some (.cells cs 57 (0, 0)) ∧ ∀ j (h : j < l.length) i u, l[j].cells[i]? = some u → cs[j * 7 + i]? = some u) ∧ Below w.heap.size w W' ∧ ∀ x o m, A' = some ⟨x, o, m⟩ → w.heap.size ≤ x ∧ x < W'.heap.size := by
  obtain ⟨i, hi, hz, hsz, hby⟩ := infoX_parts
  have HL := Lib.hid hL
  clear hL
  cases A with
  | none =>
    have hks : l = [] := Classical.byContradiction fun hn => by obtain ⟨_, _, h, _⟩ := hA hn; cases h
    have h0 : L = 0 := by rw [HL.out, hks]; rfl
    subst h0
    have hq : ∀ W, (binOp .eql 22 (.slice none 0 c) (.slice none 0 0)).run Tryz.prog W = .ok (.bool true) W := fun W => Lib.run_eql_slice_nil W _ _ none 0 c 0 0 Tryz.underlying22
    clear hA hks
    go_enter Tryz.func75, Tryz.ntmps75
    go_wp2
    go_ret
    exact ⟨none, 0, rfl, Nat.le_refl _, fun h => absurd rfl h, Below.refl _ _, fun _ _ _ e => by cases e⟩
  | some a =>
    obtain ⟨W1, hW1⟩ : ∃ x, x = w.alloc (.cells #[] 57) := ⟨_, rfl⟩
    have hb1 : Below w.heap.size w W1 := by rw [hW1]; exact (Below.refl _ w).alloc (Nat.le_refl _) _
    have hs1 : W1.heap.size = w.heap.size + 1 := by rw [hW1]; exact World.size_alloc _ _
    obtain ⟨A', c', W2, hr, hc', hb2, hn, hx⟩ := run_append_copy (P := Tryz.prog) W1 22 22 57 i _ Tryz.underlying22 hi hz w.heap.size a L c (rowC l) (by rw [rowC_len, HL.out, hsz]) (rowC_at (hA.below hb1)) hm (by rw [hby]; omega)
    have HR := Lib.hid hr
    have HF := Lib.hid (show L ≤ c' ∧ (L ≠ 0 → ∃ g cs, A' = some ⟨g, 0, none⟩ ∧ W2.heap[g]? = some (.cells cs 57 (0, 0)) ∧ ∀ j (h : j < l.length) i u, l[j].cells[i]? = some u → cs[j * 7 + i]? = some u) ∧ Below w.heap.size w W2 ∧ ∀ x o m, A' = some ⟨x, o, m⟩ → w.heap.size ≤ x ∧ x < W2.heap.size from ⟨hc', fun h0 => by
      obtain ⟨e, rest, h1⟩ := hn h0
      refine ⟨_, _, e, h1, fun j hj i u hu => ?_⟩
      have hi7 : i < 7 := by
        have := (Array.getElem?_eq_some_iff.1 hu).1
        simpa [CmdV.cells] using this
      rw [Array.getElem?_append_left (by simp [rowC_len]; omega)]
      simpa using (rowC_get l j hj i hi7).trans hu, hb1.trans (Below.mono hb2 hb1.size), fun x o m e => by
      have h2 := hb2.size
      rcases hx x o m e with rfl | ⟨h3, h4⟩
      · exact ⟨Nat.le_refl _, by omega⟩
      · exact ⟨by omega, h4⟩⟩)
    have hq : ∀ W, (binOp .eql 22 (.slice (some a) L c) (.slice none 0 0)).run Tryz.prog W = .ok (.bool false) W := fun W => Lib.run_eql_slice_nil W _ _ (some a) L c 0 0 Tryz.underlying22
    clear hA hr hc' hn hx hb1 hb2 hs1
    go_enter Tryz.func75, Tryz.ntmps75
    go_wp2_with (at_builtin; refine Lib.wpList_append_run _ rfl (.tmp 5) (.tmp 6) 22 22 rfl _ _ rfl rfl _ _ (by rw [← hW1]; exact HR.out) ?_)
    go_ret
    exact ⟨A', c', rfl, HF.out.1, HF.out.2.1, HF.out.2.2.1, HF.out.2.2.2⟩
end Go.Proofs.YtfjmdkhemnmkpaaGreatDoor

namespace Go.Proofs.YtfjmdkhemnmkpaaGreatDoor
open Go.RowKit
def CmdV.at (v : CmdV) (A : Option Addr) (c : Nat) : CmdV := { v with A := A, c := c }
def InC (B C : Nat) (A : Option Addr) (l : List CmdV) : Prop := (∀ x o m, A = some ⟨x, o, m⟩ → B ≤ x ∧ x < C) ∧ ∀ v ∈ l, ∀ x o m, v.A = some ⟨x, o, m⟩ → B ≤ x ∧ x < C
structure CopyI (w : World) (g : Nat) (l : List CmdV) (t : Nat) (lt : List CmdV) (W : World) : Prop where
  len : lt.length = l.length
  ms : lt.map (·.m) = l.map (·.m)
  ng : ∀ v ∈ lt, ¬ v.great
  below : Below w.heap.size w W
  blk : ∃ cs, W.heap[g]? = some (.cells cs 57 (0, 0)) ∧ ∀ j (h : j < lt.length) i u, lt[j].cells[i]? = some u → cs[j * 7 + i]? = some u
  ok : ∀ j (h : j < lt.length), lt[j].ok W
  old : ∀ j (h : j < lt.length) (h' : j < l.length), t ≤ j → lt[j] = l[j]
  new : ∀ j (h : j < lt.length), j < t → ∀ x o m, lt[j].A = some ⟨x, o, m⟩ → w.heap.size ≤ x ∧ x < W.heap.size ∧ x ≠ g
theorem cells_at_set {cs : Array Value} {lt : List CmdV} (h : ∀ j (h : j < lt.length) i u, lt[j].cells[i]? = some u → cs[j * 7 + i]? = some u) {t : Nat} (ht : t < lt.length) (A : Option Addr) (c : Nat) :
    ∀ j (h : j < (lt.set t (lt[t].at A c)).length) i u, (lt.set t (lt[t].at A c))[j].cells[i]? = some u → (cs.setIfInBounds (t * 7 + 3) (.slice A lt[t].L c))[j * 7 + i]? = some u := by
  intro j hj i u hu
  rw [List.length_set] at hj
  have hi : i < 7 := by
    have := (Array.getElem?_eq_some_iff.1 hu).1
    simpa [CmdV.cells] using this
  rw [List.getElem_set] at hu
  have hsz : t * 7 + 3 < cs.size := by
    have := h t ht 3 _ rfl
    exact (Array.getElem?_eq_some_iff.1 this).1
  rw [Array.getElem?_setIfInBounds]
  by_cases hjt : t = j
  · subst hjt
    rw [if_pos rfl] at hu
    by_cases hi3 : i = 3
    · subst hi3
      rw [if_pos rfl, if_pos hsz]
      exact hu
    · rw [if_neg (by omega)]
      refine h t ht i u ?_
      rw [← hu]
      rcases i with _ | _ | _ | _ | _ | _ | _ | i
      · rfl
      · rfl
      · rfl
      · exact absurd rfl hi3
      · rfl
      · rfl
      · rfl
      · omega
  · rw [if_neg hjt] at hu
    rw [if_neg (by omega)]
    exact h j hj i u hu
section
variable {w W W' : World} {g t : Nat} {l lt : List CmdV}
theorem CopyI.step (h : CopyI w g l t lt W) (ht : t < lt.length) (hb : Below W.heap.size W W') (A : Option Addr) (c : Nat) (hA : HasS W' A lt[t].ks) (hx : ∀ x o m, A = some ⟨x, o, m⟩ → W.heap.size ≤ x ∧ x < W'.heap.size) (hg : w.heap.size ≤ g) (hl : ∀ j (h : j < l.length), l[j].ok w) :
    CopyI w g l (t + 1) (lt.set t (lt[t].at A c)) (W'.setCell ⟨g, t * 7 + 3, none⟩ (.slice A lt[t].L c)) := by
  obtain ⟨cs, h1, h2⟩ := h.blk
  have hgl : g < W.heap.size := (Array.getElem?_eq_some_iff.1 h1).1
  have hbw : Below w.heap.size w W' := h.below.trans (Below.mono hb h.below.size)
  have hbs : Below w.heap.size w (W'.setCell ⟨g, t * 7 + 3, none⟩ (.slice A lt[t].L c)) := hbw.setCell (p := ⟨g, t * 7 + 3, none⟩) hg _
  have hsz : (W'.setCell ⟨g, t * 7 + 3, none⟩ (.slice A lt[t].L c)).heap.size = W'.heap.size := by simp
  have hfar : ∀ (k : List ByteArray) (B : Option Addr), HasS W' B k → (∀ x o m, B = some ⟨x, o, m⟩ → x ≠ g) → HasS (W'.setCell ⟨g, t * 7 + 3, none⟩ (.slice A lt[t].L c)) B k := fun k B hk hn hne => by
    obtain ⟨x, o, e, k1, k2⟩ := hk hne
    refine ⟨x, o, e, by rw [hsz]; exact k1, fun j hj => ?_⟩
    exact (World.cell?_of_block (Below.heap_setCell _ _ _ _ (hn x o none e))).trans (k2 j hj)
  refine ⟨by rw [List.length_set]; exact h.len, ?_, ?_, hbs, ⟨_, blk_set ((hb.block g hgl).trans h1) _ _, cells_at_set h2 ht A c⟩, ?_, ?_, ?_⟩
  · rw [List.map_set]
    show (lt.map (·.m)).set t (lt[t].m) = _
    rw [← h.ms]
    apply List.ext_getElem?
    intro j
    rw [List.getElem?_set]
    by_cases hj : t = j
    · subst hj
      rw [if_pos rfl, if_pos (by simpa using ht)]
      simp [ht]
    · rw [if_neg hj]
  · intro v hv
    rcases List.mem_or_eq_of_mem_set hv with hv | rfl
    · exact h.ng v hv
    · exact fun hh => h.ng lt[t] (List.getElem_mem ht) hh
  · intro j hj
    rw [List.length_set] at hj
    rw [List.getElem_set]
    have k := h.ok j hj
    by_cases hjt : t = j
    · subst hjt
      rw [if_pos rfl]
      exact ⟨k.cl, k.sq, k.kd, k.n, k.len, k.max, hfar _ _ hA (fun x o m e => by have := hx x o m e; omega), k.each, k.old, k.new⟩
    · rw [if_neg hjt]
      refine ⟨k.cl, k.sq, k.kd, k.n, k.len, k.max, ?_, k.each, k.old, k.new⟩
      by_cases hlt : j < t
      · exact hfar _ _ (k.has.below hb) (fun x o m e => (h.new j hj hlt x o m e).2.2)
      · have hjl : j < l.length := by rw [← h.len]; exact hj
        rw [h.old j hj hjl (by omega)]
        exact (hl j hjl).has.below hbs
  · intro j hj hj' hle
    rw [List.length_set] at hj
    rw [List.getElem_set, if_neg (by omega)]
    exact h.old j hj hj' (by omega)
  · intro j hj hlt x o m e
    rw [List.length_set] at hj
    rw [List.getElem_set] at e
    rw [hsz]
    by_cases hjt : t = j
    · subst hjt
      rw [if_pos rfl] at e
      have h3 := hx x o m e
      have h4 := h.below.size
      exact ⟨by omega, h3.2, by omega⟩
    · rw [if_neg hjt] at e
      have h3 := h.new j hj (by omega) x o m e
      have h4 := hb.size
      exact ⟨h3.1, by omega, h3.2.2⟩
end
set_option maxRecDepth 100000 in
set_option maxHeartbeats 4000000 in
theorem copy_any (A : Option Addr) (L c : Nat) (l : List CmdV) (w : World) (hL : L = l.length) (hm : L ≤ 100) (hA : HasC w A l) (hng : ∀ v ∈ l, ¬ v.great) :
    Calls Tryz.prog 47 #[.slice A L c] w fun e W' => ∃ A' c', e = .returned (.slice A' L c') ∧ L ≤ c' ∧ ∃ l' : List CmdV, l'.map (·.m) = l.map (·.m) ∧ (∀ v ∈ l', ¬ v.great) ∧ HasC W' A' l' ∧ Below w.heap.size w W' ∧ InC w.heap.size W'.heap.size A' l' := by
  have HS := Lib.hid (And.intro hL (And.intro hA hng))
  have hLi : (L : Int) ≤ 100 := by omega
  clear hL hA hng
  go_enter Tryz.func47, Tryz.ntmps47
  go_wp2_with fail
  refine (cloneC_any A L c l w HS.out.1 (by omega) HS.out.2.1).mono ?_
  rintro e W1 ⟨A', c', rfl, hc', hcs, hb1, hx1⟩
  have H1 := Lib.hid (And.intro hc' (And.intro hb1 hx1))
  by_cases h0 : L = 0
  · subst h0
    have hl : l = [] := List.length_eq_zero_iff.1 HS.out.1.symm
    have HL := Lib.hid hl
    clear hc' hcs hb1 hx1 hl
    go_wp2
    go_loopw [9] (fun v wr => v = .int .i64 0 ∧ wr = W1) (fun _ _ => 0)
    case atStart => exact ⟨rfl, rfl⟩
    case round =>
      obtain ⟨rfl, rfl⟩ := hrel
      go_wp2
      go_ret
      exact ⟨A', c', rfl, H1.out.1, [], by rw [HL.out], fun _ h => by simp at h, fun h => absurd rfl h, H1.out.2.1, H1.out.2.2, fun _ h => by simp at h⟩
  · obtain ⟨g, cs, rfl, hg, hcc⟩ := hcs h0
    have hgx := hx1 g 0 none rfl
    have hl0 : 0 < l.length := by have := HS.out.1; omega
    have hokl : ∀ j (h : j < l.length), l[j].ok w := by
      obtain ⟨_, _, _, _, hf⟩ := HS.out.2.1 (by rintro rfl; simp at hl0)
      exact fun j hj => (hf j hj).2
    have HK := Lib.hid (And.intro hgx hokl)
    have hI0 : CopyI w g l 0 l W1 := ⟨rfl, rfl, HS.out.2.2, hb1, ⟨cs, hg, hcc⟩, fun j hj => (hokl j hj).below hb1, fun _ _ _ _ => rfl, fun _ _ h => by omega⟩
    have HI0 := Lib.hid hI0
    clear hc' hcs hb1 hx1 hg hcc hgx hokl hI0 h0
    go_wp2
    go_loopw [9] (fun v wr => ∃ (t : Nat) (lt : List CmdV), v = .int .i64 (t : Int) ∧ t ≤ L ∧ Hid (CopyI w g l t lt wr)) (fun v _ => L - (intOf v).toNat)
    case atStart => exact ⟨0, l, rfl, Nat.zero_le _, HI0⟩
    case round =>
      obtain ⟨t, lt, rfl, htL, HI⟩ := hrel
      by_cases hlt : t < L
      · have hti : (t : Int) < L := by omega
        have htl : t < lt.length := by rw [HI.out.len]; have := HS.out.1; omega
        obtain ⟨cs, h1, h2⟩ := HI.out.blk
        have c3 : wr.cell? ⟨g, t * 7 + 3, none⟩ = some (.slice lt[t].A lt[t].L lt[t].c) := by
          rw [blk_cell h1]
          exact h2 t htl 3 _ rfl
        have hok := HI.out.ok t htl
        have hng := HI.out.ng _ (List.getElem_mem htl)
        have hks : (lt[t]).ks.length ≤ 100 := by
          have : ¬ 100 < (lt[t]).ks.length := fun hh => hng (.inr (.inr (.inl hh)))
          omega
        obtain ⟨v, hv⟩ : ∃ v, v = lt[t] := ⟨_, rfl⟩
        rw [← hv] at c3 hok hks
        have HC := Lib.hid (cloneS_any v.A v.L v.c v.ks wr hok.len (by have := hok.len; omega) hok.has)
        have HB := Lib.hid (And.intro h1 (show ∃ h : t < lt.length, v = lt[t] from ⟨htl, hv⟩))
        obtain ⟨kA, hkA⟩ : ∃ x, x = v.A := ⟨_, rfl⟩
        obtain ⟨kL, hkL⟩ : ∃ x, x = v.L := ⟨_, rfl⟩
        obtain ⟨kc, hkc⟩ : ∃ x, x = v.c := ⟨_, rfl⟩
        rw [← hkA, ← hkL, ← hkc] at c3 HC
        have HV := Lib.hid hkL
        clear h1 h2 hok hng hks hv htl hkA hkL hkc
        go_wp2_with fail
        refine HC.out.mono ?_
        rintro e W2 ⟨A2, c2, rfl, _, hS2, hb2, hx2⟩
        have hgb := (hb2.block g (Array.getElem?_eq_some_iff.1 HB.out.1).1).trans HB.out.1
        have c4 : ∃ u, W2.cell? ⟨g, t * 7 + 3, none⟩ = some u := ⟨_, (hb2.cell (p := ⟨g, t * 7 + 3, none⟩) (Array.getElem?_eq_some_iff.1 HB.out.1).1).trans c3⟩
        obtain ⟨u4, c4⟩ := c4
        have f4 := blk_frozen hgb (t * 7 + 3)
        obtain ⟨htl, hv⟩ := HB.out.2
        have hstep := HI.out.step htl hb2 A2 c2 (by rw [← hv]; exact hS2) hx2 HK.out.1.1 HK.out.2
        rw [← hv, ← HV.out] at hstep
        have H2 := Lib.hid hstep
        clear hS2 hb2 hx2 hgb hstep c3 HC hv
        go_wp2
        exact ⟨⟨t + 1, _, by congr 1, by omega, H2⟩, by simp only [intOf]; omega⟩
      · have hti : ¬ (t : Int) < L := by omega
        obtain rfl : t = L := by omega
        have HE := Lib.hid HI.out
        clear HI
        go_wp2
        go_ret
        have hE := HE.out
        obtain ⟨cs, h1, h2⟩ := hE.blk
        have hsz : g < wr.heap.size := (Array.getElem?_eq_some_iff.1 h1).1
        refine ⟨some ⟨g, 0, none⟩, c', rfl, H1.out.1, lt, hE.ms, hE.ng, fun _ => ⟨g, 0, rfl, hsz, fun j hj => ⟨fun i u hu => ?_, hE.ok j hj⟩⟩, hE.below, ⟨fun x o m e => by cases e; exact ⟨HK.out.1.1, hsz⟩, fun v hv x o m e => ?_⟩⟩
        · rw [blk_cell h1, Nat.zero_add]
          exact h2 j hj i u hu
        · obtain ⟨j, hj, rfl⟩ := List.mem_iff_getElem.1 hv
          have := hE.new j hj (by have h3 := hE.len; have h4 := HS.out.1; omega) x o m e
          exact ⟨this.1, this.2.1⟩
end Go.Proofs.YtfjmdkhemnmkpaaGreatDoor
