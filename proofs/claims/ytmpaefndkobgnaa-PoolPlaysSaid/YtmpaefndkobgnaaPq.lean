/- How the program's pool lies; what a valid handle opens. -/
import Derived.Test.YtmpaefndkobgnaaPoolSpec
import Derived.LoopTactic
namespace Go.Proofs.Ytmpaefndkobgnaa
open Go.RowKit

/-- The program's pool: block R, the buffers in gU, their bytes in gB, the stack of the free ones. -/
structure LQ (w : World) (R gU cU gB gF cF : Nat) (s : QS) : Prop where
  blk : w.heap[R]? = some (.cells #[.slice (some ⟨gU, 0, none⟩) s.n cU, .slice (some ⟨gF, 0, none⟩) s.N.length cF] 57 (0, 0))
  hU : ∃ cur, w.heap[gU]? = some (.cells cur 59 (0, 0)) ∧ ∀ i, i < s.n → cur[i * 3]? = some (.slice (some ⟨gB, i * s.sz, none⟩) (s.B.getD i []).length s.sz) ∧ cur[i * 3 + 1]? = some (gV (s.G.getD i 0)) ∧ cur[i * 3 + 2]? = some (bV (s.L.getD i false))
  hB : ∃ cur, w.heap[gB]? = some (.cells cur 5 (0, 0)) ∧ cur.size = s.n * s.sz ∧ ∀ i, i < s.n → ∀ j (h : j < (s.B.getD i []).length), cur[i * s.sz + j]? = some (enc (s.B.getD i [])[j])
  hF : w.ownsRow 0 3 1 (.slice (some ⟨gF, 0, none⟩) s.N.length cF) s.N.length (s.N.reverse.map iV)
  lB : s.B.length = s.n
  lG : s.G.length = s.n
  lL : s.L.length = s.n
  hBl : ∀ i, i < s.n → (s.B.getD i []).length ≤ s.sz
  hn : s.n ≤ 4096
  hs0 : 0 < s.sz
  hsz : s.sz ≤ 65536
  hNl : s.N.length ≤ s.n
  hcF : 0 < cF
  hNn : ∀ i ∈ s.N, i < s.n
  hGl : ∀ g ∈ s.G, g < 4294967296
/-- Its blocks. -/
def FL (R gU gB gF k : Nat) : Prop := k = R ∨ k = gU ∨ k = gB ∨ k = gF

section
variable {w w' : World} {R gU cU gB gF cF : Nat} {s : QS}
theorem LQ.gl (h : LQ w R gU cU gB gF cF s) (i : Nat) : s.G.getD i 0 < 4294967296 := by
  by_cases hi : i < s.G.length
  · have : s.G.getD i 0 = s.G[i] := by simp [List.getD, hi]
    rw [this]; exact h.hGl _ (List.getElem_mem _)
  · simp [List.getD, List.getElem?_eq_none (Nat.le_of_not_lt hi)]
theorem LQ.cells (h : LQ w R gU cU gB gF cF s) (i : Nat) (hi : i < s.n) : w.cell? ⟨gU, i * 3, none⟩ = some (.slice (some ⟨gB, i * s.sz, none⟩) (s.B.getD i []).length s.sz) ∧ w.cell? ⟨gU, i * 3 + 1, none⟩ = some (.int .u32 (s.G.getD i 0 : Int)) ∧ w.cell? ⟨gU, i * 3 + 2, none⟩ = some (.bool (s.L.getD i false)) := by
  obtain ⟨cur, hb, hc⟩ := h.hU
  obtain ⟨h1, h2, h3⟩ := hc i hi
  exact ⟨(blk_cell hb _).trans h1, (blk_cell hb _).trans h2, (blk_cell hb _).trans h3⟩
theorem LQ.fz (h : LQ w R gU cU gB gF cF s) (j : Nat) : w.frozen? ⟨gU, j, none⟩ = false := by
  obtain ⟨cur, hb, hc⟩ := h.hU
  exact blk_frozen hb j
theorem LQ.lt (h : LQ w R gU cU gB gF cF s) : ∀ k, FL R gU gB gF k → k < w.heap.size := by
  obtain ⟨c1, h1, _⟩ := h.hU
  obtain ⟨c2, h2, _⟩ := h.hB
  rintro k (rfl | rfl | rfl | rfl)
  · exact (Array.getElem?_eq_some_iff.1 h.blk).1
  · exact (Array.getElem?_eq_some_iff.1 h1).1
  · exact (Array.getElem?_eq_some_iff.1 h2).1
  · exact (h.hF.lt _ rfl).2
theorem LQ.same (h : LQ w R gU cU gB gF cF s) (hk : ∀ k, FL R gU gB gF k → w'.heap[k]? = w.heap[k]?) : LQ w' R gU cU gB gF cF s := by
  obtain ⟨c1, h1, h1'⟩ := h.hU
  obtain ⟨c2, h2, h2'⟩ := h.hB
  refine ⟨(hk R (.inl rfl)).trans h.blk, ⟨c1, (hk gU (.inr (.inl rfl))).trans h1, h1'⟩, ⟨c2, (hk gB (.inr (.inr (.inl rfl)))).trans h2, h2'⟩, ?_, h.lB, h.lG, h.lL, h.hBl, h.hn, h.hs0, h.hsz, h.hNl, h.hcF, h.hNn, h.hGl⟩
  refine ⟨h.hF.1, ?_⟩
  rcases h.hF.2 with h2 | ⟨g, cap, cur, e, b, r, q⟩
  · exact .inl h2
  · cases e
    exact .inr ⟨gF, _, cur, rfl, b, (hk gF (.inr (.inr (.inr rfl)))).trans r, q⟩
theorem LQ.only {F : Nat → Prop} (h : LQ w R gU cU gB gF cF s) (ho : Only F w w') (hF : ∀ k, FL R gU gB gF k → ¬ F k) : LQ w' R gU cU gB gF cF s :=
  h.same fun k hk => ho.block k (h.lt k hk) (hF k hk)
theorem LQ.grew (h : LQ w R gU cU gB gF cF s) (hb : Below w.heap.size w w') : LQ w' R gU cU gB gF cF s := h.only (Only.of_grew (F := fun _ => False) hb) (fun _ _ => id)
end

/-- The world behind the boxing of a handle. -/
theorem boxed (w : World) (i g : Int) : (w.alloc (.cells #[.int .i64 i, .int .u32 g] 29)).cell? ⟨w.heap.size, 0, none⟩ = some (.int .i64 i) ∧ (w.alloc (.cells #[.int .i64 i, .int .u32 g] 29)).cell? ⟨w.heap.size, 1, none⟩ = some (.int .u32 g) := by
  have h := World.alloc_heap_new w (.cells #[.int .i64 i, .int .u32 g] 29)
  have c0 := blk_cell h 0
  have c1 := blk_cell h 1
  exact ⟨c0, c1⟩

set_option maxHeartbeats 4000000 in
theorem with_bad {w : World} {R gU cU gB gF cF : Nat} {s : QS} (h : LQ w R gU cU gB gF cF s) (i : Int) (g : Nat) (hi1 : -9223372036854775808 ≤ i) (hi2 : i ≤ 9223372036854775807) (hg : g < 4294967296) (hgd : s.good i g = false) (u : Value) :
    Calls Try.prog 17 #[.pointer (some ⟨R, 0, none⟩), hV i g, u] w fun e w' => e = .returned (.int .i64 15) ∧ Below w.heap.size w w' := by
  obtain ⟨n, hn⟩ : ∃ n, n = s.n := ⟨_, rfl⟩
  have hn4 : n ≤ 4096 := by rw [hn]; exact h.hn
  have HN := Lib.hid hn
  have HD := Lib.hid hgd
  have HL := Lib.hid h
  unfold hV
  clear hn hgd h
  go_enter Try.func17, Try.ntmps17
  go_upto_region 3 with (fail)
  obtain ⟨b0, b1⟩ := boxed w i g
  have hq := HL.out.grew ((Below.refl _ w).alloc (Nat.le_refl _) (.cells #[.int .i64 i, .int .u32 (g : Int)] 29))
  have hbw := (Below.refl _ w).alloc (Nat.le_refl _) (.cells #[.int .i64 i, .int .u32 (g : Int)] 29)
  obtain ⟨B, hB⟩ : ∃ B, B = w.heap.size := ⟨_, rfl⟩
  obtain ⟨W, hW⟩ : ∃ W, W = w.alloc (.cells #[.int .i64 i, .int .u32 (g : Int)] 29) := ⟨_, rfl⟩
  rw [← hW] at b0 b1 hq hbw ⊢
  rw [← hB] at b0 b1 ⊢
  have f0 := blk_cell hq.blk 0
  simp at f0
  rw [← HN.out] at f0
  have HQ := Lib.hid hq
  have HB := Lib.hid hbw
  clear hW hB hq hbw HL
  by_cases h0 : 0 ≤ i
  · by_cases h1 : i < n
    · obtain ⟨k, rfl⟩ := Int.eq_ofNat_of_zero_le h0
      have hk : k < s.n := by rw [← HN.out]; omega
      obtain ⟨-, c2, c1⟩ := HQ.out.cells k hk
      obtain ⟨lb, hlb⟩ : ∃ lb, lb = s.L.getD k false := ⟨_, rfl⟩
      obtain ⟨gb, hgb⟩ : ∃ gb, gb = s.G.getD k 0 := ⟨_, rfl⟩
      rw [← hlb] at c1
      rw [← hgb] at c2
      have HG := Lib.hid (show s.good (k : Int) g = (lb && (gb == g)) by
        have : (k : Int) < s.n := by rw [← HN.out]; exact h1
        rw [hlb, hgb]; simp [QS.good, this])
      clear hlb hgb
      have hki : (k : Int) < n := h1
      have h00 : ¬ (k : Int) < 0 := by omega
      cases lb
      · go_region
        all_goals go_wp2
        all_goals go_region
        all_goals go_wp2
        all_goals go_region
        all_goals go_wp2
        all_goals go_ret
        all_goals exact ⟨rfl, HB.out.drew.drew.drew⟩
      · have hgg : gb ≠ g := by
          intro e
          have := HG.out
          rw [HD.out, e] at this
          simp at this
        have hgi : ¬ (gb : Int) = (g : Int) := by omega
        go_region
        all_goals go_wp2
        all_goals go_region
        all_goals go_wp2
        all_goals go_region
        all_goals go_wp2
        all_goals go_ret
        all_goals exact ⟨rfl, HB.out.drew.drew.drew⟩
    · have h00 : ¬ i < 0 := by omega
      go_region
      all_goals go_wp2
      all_goals go_ret
      all_goals exact ⟨rfl, HB.out.drew⟩
  · have h00 : i < 0 := by omega
    go_region
    all_goals go_wp2
    all_goals go_ret
    all_goals exact ⟨rfl, HB.out.drew⟩

set_option maxHeartbeats 4000000 in
theorem with_nil (w : World) (i : Int) (g : Nat) (u : Value) :
    Calls Try.prog 17 #[.pointer none, hV i g, u] w fun e w' => e = .returned (.int .i64 2) ∧ Below w.heap.size w w' := by
  unfold hV
  go_enter Try.func17, Try.ntmps17
  go_wp2
  go_ret
  exact ⟨rfl, (Below.refl _ w).alloc (Nat.le_refl _) _⟩

set_option maxHeartbeats 4000000 in
theorem with_good {w : World} {R gU cU gB gF cF : Nat} {s : QS} (h : LQ w R gU cU gB gF cF s) (k : Nat) (g : Nat) (hk : k < s.n) (hg : g < 4294967296) (hgd : s.good (k : Int) g = true) (f : FuncId) (hen : ∀ args w, (callFunc f args).run Try.prog w = .ok (.enter f args) w) (cs : Array Value) (Q : Int → World → Prop)
    (hf : ∀ W, Below w.heap.size w W → Calls Try.prog f (#[.pointer (some ⟨gU, k * 3, none⟩)] ++ cs) W fun e w' => ∃ r, e = .returned (.int .i64 r) ∧ Q r w') :
    Calls Try.prog 17 #[.pointer (some ⟨R, 0, none⟩), hV k g, .func (.func f) #[] cs] w fun e w' => ∃ r, e = .returned (.int .i64 r) ∧ Q r w' := by
  obtain ⟨n, hn⟩ : ∃ n, n = s.n := ⟨_, rfl⟩
  have hn4 : n ≤ 4096 := by rw [hn]; exact h.hn
  have hkn : k < n := by omega
  have HN := Lib.hid hn
  have HK := Lib.hid hk
  have HL := Lib.hid h
  have hgg : s.G.getD k 0 = g ∧ s.L.getD k false = true := by
    obtain ⟨k', e, _, h1, h2⟩ := QS.good_lt hgd
    have : k' = k := by omega
    subst this
    exact ⟨h2, h1⟩
  have HD := Lib.hid hgg
  have HF := Lib.hid hf
  unfold hV
  clear hn hgd h hk hgg hf
  go_enter Try.func17, Try.ntmps17
  go_upto_region 3 with (fail)
  obtain ⟨b0, b1⟩ := boxed w k g
  have hq := HL.out.grew ((Below.refl _ w).alloc (Nat.le_refl _) (.cells #[.int .i64 (k : Int), .int .u32 (g : Int)] 29))
  have hbw := (Below.refl _ w).alloc (Nat.le_refl _) (.cells #[.int .i64 (k : Int), .int .u32 (g : Int)] 29)
  obtain ⟨B, hB⟩ : ∃ B, B = w.heap.size := ⟨_, rfl⟩
  obtain ⟨W, hW⟩ : ∃ W, W = w.alloc (.cells #[.int .i64 (k : Int), .int .u32 (g : Int)] 29) := ⟨_, rfl⟩
  rw [← hW] at b0 b1 hq hbw ⊢
  rw [← hB] at b0 b1 ⊢
  have f0 := blk_cell hq.blk 0
  simp at f0
  rw [← HN.out] at f0
  have HB := Lib.hid hbw
  obtain ⟨-, c2, c1⟩ := hq.cells k HK.out
  rw [HD.out.2] at c1
  rw [HD.out.1] at c2
  clear hW hB hq hbw
  have hki : (k : Int) < n := by omega
  have h00 : ¬ (k : Int) < 0 := by omega
  go_region
  go_wp2
  go_region
  go_wp2
  go_region
  go_wp2_with fail
  refine (HF.out _ HB.out.drew.drew.drew).mono ?_
  rintro e w' ⟨r, rfl, hq⟩
  have HQ := Lib.hid hq
  clear hq
  go_wp2
  go_ret
  exact ⟨r, rfl, HQ.out⟩
end Go.Proofs.Ytmpaefndkobgnaa
