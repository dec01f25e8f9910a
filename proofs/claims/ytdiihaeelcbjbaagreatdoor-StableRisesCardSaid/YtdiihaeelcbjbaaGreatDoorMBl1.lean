/- A ballot set in a block; the address of a row's ballot. The landed Max. The landed Less: the statement that draws its order. The landed Less. -/
import Derived.Test.YtdiihaeelcbjbaaGreatDoorBlRfL
import Derived.Test.YtdiihaeelcbjbaaGreatDoorRg
-- BlNxF
namespace Go.Proofs.YtdiihaeelcbjbaaGreatDoor
open Go.RowKit

/-- A ballot set in a block. -/
theorem finBA {w W : World} {g : Nat} {x0 y0 : Value} {t : TypeId} (hb : Below w.heap.size w W) (k : W.heap[g]? = some (.cells #[x0, y0] t (0, 0))) (hg : w.heap.size ≤ g) (x y : Value) (V : World) (hV : V = (W.setCell ⟨g, 0, none⟩ x).setCell ⟨g, 1, none⟩ y) :
    Below w.heap.size w V ∧ V.cell? ⟨g, 0, none⟩ = some x ∧ V.cell? ⟨g, 1, none⟩ = some y ∧ V.heap[g]? = some (.cells #[x, y] t (0, 0)) := by
  subst hV
  have k3 := blk_set (blk_set k 0 x) 1 y
  refine ⟨(hb.setCell (p := ⟨g, 0, none⟩) hg _).setCell (p := ⟨g, 1, none⟩) hg _, ?_, ?_, by simpa using k3⟩
  · simpa using blk_cell k3 0
  · simpa using blk_cell k3 1
theorem setOther {W : World} {g h : Nat} {o : Obj} (x y : Value) (hne : h ≠ g) (k : W.heap[h]? = some o) : ((W.setCell ⟨g, 0, none⟩ x).setCell ⟨g, 1, none⟩ y).heap[h]? = some o :=
  ((grownBy_trans (grownBy_set W g 0 x) (grownBy_set _ g 1 y)).block h (Array.getElem?_eq_some_iff.1 k).1 (fun e => hne (by cases e; rfl))).trans k
theorem ixBA (w : World) (b o L c q : Nat) (h : q < L) : (Instr.indexAt 172 (.slice (some ⟨b, o, none⟩) L c) (.int .i64 (q : Int))).run Tryz.prog w = .ok (.pointer (some ⟨b, o + q * 2, none⟩)) w := by
  have h1 : (0 : Int) ≤ q := by omega
  have h2 : (q : Int) < L := by omega
  simp [go_sem, h1, h2]
end Go.Proofs.YtdiihaeelcbjbaaGreatDoor

-- BlA
namespace Go.Proofs.YtdiihaeelcbjbaaGreatDoor
open Go.RowKit

/-- The rounds of the landed Max. -/
structure MaxJ (w : World) (g q : Nat) (l : List BA) (j : Nat) (W : World) : Prop where
  below : Below w.heap.size w W
  kg : W.heap[g]? = some (.cells #[.int .u64 0, .int .i64 0] 25 (0, 0))
  kq : W.heap[q]? = some (.cells #[.int .u64 ((maxB (l.take j)).n : Int), .int .i64 (maxB (l.take j)).r] 25 (0, 0))
set_option maxRecDepth 100000 in
set_option maxHeartbeats 4000000 in
theorem max_any (A : Option Addr) (L c : Nat) (l : List BA) (w : World) (hL : L = l.length) (hLm : L ≤ 1000) (hA : HasBA w A l) :
    Calls Tryz.prog 98 #[.slice A L c] w fun e W' => e = .returned (.agg #[.int .u64 ((maxB l).n : Int), .int .i64 (maxB l).r]) ∧ Below w.heap.size w W' := by
  have HL := Lib.hid hL
  have HA := Lib.hid hA
  have hLi : (L : Int) ≤ 1000 := by omega
  clear hL hA
  go_enter Tryz.func98, Tryz.ntmps98
  go_upto_region 2 with (fail)
  obtain ⟨W0, hW0⟩ : ∃ W0, W0 = w.alloc (.cells #[.int .u64 0, .int .i64 0] 25) := ⟨_, rfl⟩
  rw [← hW0]
  obtain ⟨W1, hW1⟩ : ∃ W1, W1 = W0.alloc (.cells #[.int .u64 0, .int .i64 0] 25) := ⟨_, rfl⟩
  rw [← hW1]
  obtain ⟨b0, k0, s0⟩ := boxBA hW0
  obtain ⟨b1, k1, s1⟩ := boxBA hW1
  have k0' := (b1.block _ (by omega)).trans k0
  obtain ⟨g, hg⟩ : ∃ p, p = w.heap.size := ⟨_, rfl⟩
  rw [s0] at k1
  rw [← hg] at k0' k1 ⊢
  obtain ⟨q, hq⟩ : ∃ p, p = g + 1 := ⟨_, rfl⟩
  rw [← hq] at k1 ⊢
  have S1 : Hid (MaxJ w g q l 0 W1) := Lib.hid ⟨b0.trans (Below.mono b1 b0.size), k0', by rw [maxB_zero]; exact k1⟩
  have HQ := Lib.hid (And.intro (show w.heap.size ≤ g by omega) (And.intro (show w.heap.size ≤ q by omega) (show g ≠ q by omega)))
  clear hW0 hW1 b0 b1 k0 k1 k0' s0 s1 hg hq
  go_wp2
  go_loopw [4, 5, 8] (fun v4 v5 v8 wr => ∃ j : Nat, j ≤ L ∧ v8 = .int .i64 (j : Int) ∧ Hid (MaxJ w g q l j wr)) (fun _ _ j _ => L - (intOf j).toNat)
  case atStart => exact ⟨0, Nat.zero_le _, rfl, S1⟩
  case round =>
    obtain ⟨j, hj, rfl, HI⟩ := hrel
    obtain ⟨m, hm⟩ : ∃ m, m = maxB (l.take j) := ⟨_, rfl⟩
    have kq := HI.out.kq
    rw [← hm] at kq
    have kg := HI.out.kg
    have hb := HI.out.below
    by_cases hlt : j < L
    · have hji : (j : Int) < L := by omega
      have hj1 : j < l.length := by have := HL.out; omega
      obtain ⟨bb, o, e1, l1, f1⟩ := HA.out (by rintro rfl; simp at hj1)
      subst e1
      obtain ⟨_, a0, a1⟩ := f1 j hj1
      obtain ⟨y, hy⟩ : ∃ y, y = l[j] := ⟨_, rfl⟩
      rw [← hy] at a0 a1
      have d0 : wr.cell? ⟨bb, o + j * 2, none⟩ = some (.int .u64 (y.n : Int)) := (hb.cell (p := ⟨bb, _, none⟩) l1).trans a0
      have d1 : wr.cell? ⟨bb, o + j * 2 + 1, none⟩ = some (.int .i64 y.r) := (hb.cell (p := ⟨bb, _, none⟩) l1).trans a1
      have HMJ := Lib.hid (And.intro hm (And.intro hy hj1))
      have HK := Lib.hid (And.intro kq (And.intro kg hb))
      clear a0 a1 l1 f1 hm hy kq kg hb
      go_upto_region 5 with (fail)
      obtain ⟨V, hV⟩ : ∃ V, V = wr.alloc (.cells #[.int .u64 (y.n : Int), .int .i64 y.r] 25) := ⟨_, rfl⟩
      rw [← hV]
      obtain ⟨b1, k1, s1⟩ := boxBA hV
      obtain ⟨p, hp⟩ : ∃ p, p = wr.heap.size := ⟨_, rfl⟩
      rw [← hp] at k1 ⊢
      have kq := (b1.block q (Array.getElem?_eq_some_iff.1 HK.out.1).1).trans HK.out.1
      have kg := (b1.block g (Array.getElem?_eq_some_iff.1 HK.out.2.1).1).trans HK.out.2.1
      have hb := HK.out.2.2.trans (Below.mono b1 HK.out.2.2.size)
      have y0 := blk_cell k1 0
      have y1 := blk_cell k1 1
      have x0 := blk_cell kq 0
      have x1 := blk_cell kq 1
      have u0 := blk_frozen kq 0
      have u1 := blk_frozen kq 1
      simp at y0 y1 x0 x1
      obtain ⟨Z, hZ⟩ : ∃ Z, Z = (V.setCell ⟨q, 0, none⟩ (.int .u64 (y.n : Int))).setCell ⟨q, 1, none⟩ (.int .i64 y.r) := ⟨_, rfl⟩
      obtain ⟨g1, _, _, g4⟩ := finBA hb kq HQ.out.2.1 _ _ Z hZ
      have kg2 : Z.heap[g]? = some (.cells #[.int .u64 0, .int .i64 0] 25 (0, 0)) := by rw [hZ]; exact setOther _ _ HQ.out.2.2 kg
      have HS : Hid (maxB (l.take (j + 1)) = y → MaxJ w g q l (j + 1) Z) := Lib.hid fun e => ⟨g1, kg2, by rw [e]; exact g4⟩
      have HN : Hid (maxB (l.take (j + 1)) = m → MaxJ w g q l (j + 1) V) := Lib.hid fun e => ⟨hb, kg, by rw [e]; exact kq⟩
      clear g1 g4 kg2 kg hb kq b1 k1 s1 hp HK hV
      by_cases hj0 : j = 0
      · have hj0i : (j : Int) = 0 := by omega
        have H5 := Lib.hid (HS.out (by rw [HMJ.out.2.1]; subst hj0; exact maxB_one _))
        clear hj0
        go_wp2
        all_goals
          rw [← hZ]
          exact ⟨⟨j + 1, by omega, by congr 1; try omega, H5⟩, by simp only [intOf]; omega⟩
      · have hj0i : ¬ (j : Int) = 0 := by omega
        have hj2 := HMJ.out.2.2
        have hsucc := maxB_succ hj0 hj2
        rw [← HMJ.out.1, ← HMJ.out.2.1] at hsucc
        unfold stepB at hsucc
        by_cases h1 : m.n < y.n
        · have h1i : (m.n : Int) < y.n := by omega
          have H5 := Lib.hid (HS.out (by rw [hsucc, if_pos (.inl h1)]))
          clear hj0 hsucc h1
          go_wp2
          all_goals
            rw [← hZ]
            exact ⟨⟨j + 1, by omega, by congr 1, H5⟩, by simp only [intOf]; omega⟩
        · have h1i : ¬ (m.n : Int) < y.n := by omega
          by_cases h2 : y.n = m.n
          · have h2i : (y.n : Int) = m.n := by omega
            by_cases h3 : m.r < y.r
            · have H5 := Lib.hid (HS.out (by rw [hsucc, if_pos (.inr ⟨h2.symm, h3⟩)]))
              clear hj0 hsucc h1 h2
              go_wp2
              all_goals
                rw [h2i] at hZ
                rw [← hZ]
                exact ⟨⟨j + 1, by omega, by congr 1, H5⟩, by simp only [intOf]; omega⟩
            · have H5 := Lib.hid (HN.out (by rw [hsucc, if_neg (by unfold ltB; omega)]))
              clear hj0 hsucc h1 h2
              go_wp2
              exact ⟨⟨j + 1, by omega, by congr 1, H5⟩, by simp only [intOf]; omega⟩
          · have h2i : ¬ (y.n : Int) = m.n := by omega
            have H5 := Lib.hid (HN.out (by rw [hsucc, if_neg (by unfold ltB; omega)]))
            clear hj0 hsucc h1 h2
            go_wp2
            exact ⟨⟨j + 1, by omega, by congr 1, H5⟩, by simp only [intOf]; omega⟩
    · have hji : ¬ (j : Int) < L := by omega
      have hmm : m = maxB l := by rw [hm, List.take_of_length_le (by have := HL.out; omega)]
      rw [hmm] at kq
      have y0 := blk_cell kq 0
      have y1 := blk_cell kq 1
      have z0 := blk_cell kg 0
      have z1 := blk_cell kg 1
      have u0 := blk_frozen kg 0
      have u1 := blk_frozen kg 1
      simp at y0 y1 z0 z1
      obtain ⟨V, hV⟩ : ∃ V, V = (wr.setCell ⟨g, 0, none⟩ (.int .u64 ((maxB l).n : Int))).setCell ⟨g, 1, none⟩ (.int .i64 (maxB l).r) := ⟨_, rfl⟩
      obtain ⟨f1, f2, f3, _⟩ := finBA hb kg HQ.out.1 _ _ V hV
      have HF := Lib.hid f1
      clear f1 kg kq hb hm hmm
      go_wp2
      rw [← hV]
      exact bodyPost_ret (v := .agg #[.int .u64 ((maxB l).n : Int), .int .i64 (maxB l).r]) (by simp [results, Tryz.results98, go_sem, f2, f3]) rfl ⟨rfl, HF.out⟩
end Go.Proofs.YtdiihaeelcbjbaaGreatDoor

-- BlLsR
namespace Go.Proofs.YtdiihaeelcbjbaaGreatDoor
open Go.RowKit

theorem noGuardBA : Tryz.prog.eqGuardType Tryz.prog.depth 25 = false := by kernel_rfl
theorem guardBA (op : BinOp) (w : World) (x y : Operand) (s u : Array Value) : (eqGuard op 25 x y (.agg s) (.agg u)).run Tryz.prog w = .ok () w := by
  cases op <;> first
    | (simp [eqGuard]; done)
    | (simp [eqGuard, noGuardBA]; done)
theorem run_bs2 (w : World) (x y : BA) : (Instr.buildSlice 172 2 #[(0, .agg #[.int .u64 (x.n : Int), .int .i64 x.r]), (1, .agg #[.int .u64 (y.n : Int), .int .i64 y.r])]).run Tryz.prog w = .ok (.slice (some ⟨w.heap.size, 0, none⟩) 2 2) (w.alloc (.cells #[.int .u64 (x.n : Int), .int .i64 x.r, .int .u64 (y.n : Int), .int .i64 y.r] 25)) := by
  simp [go_sem, Instr.buildSlice]
theorem run_bs3B (w : World) (x y z : BA) : (Instr.buildSlice 172 3 #[(0, .agg #[.int .u64 (x.n : Int), .int .i64 x.r]), (1, .agg #[.int .u64 (y.n : Int), .int .i64 y.r]), (2, .agg #[.int .u64 (z.n : Int), .int .i64 z.r])]).run Tryz.prog w = .ok (.slice (some ⟨w.heap.size, 0, none⟩) 3 3) (w.alloc (.cells #[.int .u64 (x.n : Int), .int .i64 x.r, .int .u64 (y.n : Int), .int .i64 y.r, .int .u64 (z.n : Int), .int .i64 z.r] 25)) := by
  simp [go_sem, Instr.buildSlice]
section
variable {n : Nat} {Q : Exit → Act → World → Prop} {ops : Array Oper} {i : Nat} {o : Oper} {a : Act} {w : World} {K : Act → World → Prop}
theorem step_bs2 {x0 x1 : Operand} (x y : BA) (hi : ops[i]? = some o) (hw : Region.wanted o (yielded ops a.tmps) = true) (ho : o.op = .buildSlice 172 2 #[(0, x0), (1, x1)]) (h0 : a.eval x0 = .agg #[.int .u64 (x.n : Int), .int .i64 x.r]) (h1 : a.eval x1 = .agg #[.int .u64 (y.n : Int), .int .i64 y.r]) (h : K (a.put o.dst (.slice (some ⟨w.heap.size, 0, none⟩) 2 2)) (w.alloc (.cells #[.int .u64 (x.n : Int), .int .i64 x.r, .int .u64 (y.n : Int), .int .i64 y.r] 25))) : wpOpIn Fence.wide n Tryz.prog ops Q i K a w :=
  step_run hi hw (by rw [ho]; intro c h; cases h) (by simp [Oper.about, ho]) (by simp [execOp, ho, h0, h1, run_bs2]) h
theorem step_bs3B {x0 x1 x2 : Operand} (x y z : BA) (hi : ops[i]? = some o) (hw : Region.wanted o (yielded ops a.tmps) = true) (ho : o.op = .buildSlice 172 3 #[(0, x0), (1, x1), (2, x2)]) (h0 : a.eval x0 = .agg #[.int .u64 (x.n : Int), .int .i64 x.r]) (h1 : a.eval x1 = .agg #[.int .u64 (y.n : Int), .int .i64 y.r]) (h2 : a.eval x2 = .agg #[.int .u64 (z.n : Int), .int .i64 z.r]) (h : K (a.put o.dst (.slice (some ⟨w.heap.size, 0, none⟩) 3 3)) (w.alloc (.cells #[.int .u64 (x.n : Int), .int .i64 x.r, .int .u64 (y.n : Int), .int .i64 y.r, .int .u64 (z.n : Int), .int .i64 z.r] 25))) : wpOpIn Fence.wide n Tryz.prog ops Q i K a w :=
  step_run hi hw (by rw [ho]; intro c h; cases h) (by simp [Oper.about, ho]) (by simp [execOp, ho, h0, h1, h2, run_bs3B]) h
end
theorem has2 {w : World} {x y : BA} (hx : x.ok) (hy : y.ok) : HasBA (w.alloc (.cells #[.int .u64 (x.n : Int), .int .i64 x.r, .int .u64 (y.n : Int), .int .i64 y.r] 25)) (some ⟨w.heap.size, 0, none⟩) [x, y] :=
  hasBA_blk (World.alloc_heap_new w _) (by
    intro z hz
    simp only [List.mem_cons, List.not_mem_nil, or_false] at hz
    rcases hz with rfl | rfl
    · exact hx
    · exact hy)
theorem has3B {w : World} {x y z : BA} (hx : x.ok) (hy : y.ok) (hz : z.ok) : HasBA (w.alloc (.cells #[.int .u64 (x.n : Int), .int .i64 x.r, .int .u64 (y.n : Int), .int .i64 y.r, .int .u64 (z.n : Int), .int .i64 z.r] 25)) (some ⟨w.heap.size, 0, none⟩) [x, y, z] :=
  hasBA_blk (World.alloc_heap_new w _) (by
    intro u hu
    simp only [List.mem_cons, List.not_mem_nil, or_false] at hu
    rcases hu with rfl | rfl | rfl
    · exact hx
    · exact hy
    · exact hz)
/-- A row of ballots, as a value. -/
def IsBA (w : World) (v : Value) (l : List BA) : Prop := ∃ A c, v = .slice A l.length c ∧ HasBA w A l
theorem IsBA.grew {w w' : World} {v : Value} {l : List BA} (h : IsBA w v l) (hg : Grew w w') : IsBA w' v l := by
  obtain ⟨A, c, e, h⟩ := h
  exact ⟨A, c, e, h.below hg⟩
noncomputable def opsLsT : List Oper := opsOf Tryz.f77 1
set_option maxRecDepth 100000 in
set_option maxHeartbeats 4000000 in
theorem less_t (p q : Nat) (x y : BA)  (a : Act) (w : World) (Q : Exit → Act → World → Prop) (hN : a.tmps.size = 16) (h2 : a.tmps.getD 2 undef = .pointer (some ⟨p, 0, none⟩)) (h3 : a.tmps.getD 3 undef = .pointer (some ⟨q, 0, none⟩)) (hpl : p < w.heap.size) (hql : q < w.heap.size) (cx0 : w.cell? ⟨p, 0, none⟩ = some (.int .u64 (x.n : Int))) (cx1 : w.cell? ⟨p, 0 + 1, none⟩ = some (.int .i64 x.r)) (cy0 : w.cell? ⟨q, 0, none⟩ = some (.int .u64 (y.n : Int))) (cy1 : w.cell? ⟨q, 0 + 1, none⟩ = some (.int .i64 y.r)) (hxy : decide (x = y) = false) (hx : x.ok) (hy : y.ok) (hQ : ∀ (v11 : Value), ∀ (w' : World), (fun v w => IsBA w v [x, y]) v11 w' → Grew w w' → Q .normal (puts [(5, .agg #[.int .u64 (x.n : Int), .int .i64 x.r]), (6, .agg #[.int .u64 (y.n : Int), .int .i64 y.r]), (7, .bool true), (8, .bool true), (9, .agg #[.int .u64 (x.n : Int), .int .i64 x.r]), (10, .agg #[.int .u64 (y.n : Int), .int .i64 y.r]), (11, v11), (12, .agg #[.int .u64 ((maxB [x, y]).n : Int), .int .i64 (maxB [x, y]).r]), (13, .agg #[.int .u64 (y.n : Int), .int .i64 y.r]), (14, .bool (decide (maxB [x, y] = y))), (15, .bool (decide (maxB [x, y] = y))), (4, .bool (decide (maxB [x, y] = y)))] a) w')
    : (Code.region 1 opsLsT.toArray true).wp Tryz.prog Q a w := by
  refine region_v 16 opsLsT [(2, .pointer (some ⟨p, 0, none⟩)), (3, .pointer (some ⟨q, 0, none⟩))] [6, 7] [.eq (.agg #[.int .u64 (x.n : Int), .int .i64 x.r]), .eq (.agg #[.int .u64 (y.n : Int), .int .i64 y.r]), .eq (.bool true), .eq (.bool true), .eq (.agg #[.int .u64 (x.n : Int), .int .i64 x.r]), .eq (.agg #[.int .u64 (y.n : Int), .int .i64 y.r]), .pr fun v w => IsBA w v [x, y], .eq (.agg #[.int .u64 ((maxB [x, y]).n : Int), .int .i64 (maxB [x, y]).r]), .eq (.agg #[.int .u64 (y.n : Int), .int .i64 y.r]), .eq (.bool (decide (maxB [x, y] = y))), .eq (.bool (decide (maxB [x, y] = y))), .eq (.bool (decide (maxB [x, y] = y)))] Grew Grew.refl Grew.trans follows (by kernel_rfl) (by kernel_rfl) hN ⟨h2, h3, trivial⟩ rfl ?_ ?_ ?_ ?_
  · exact ⟨(fun _ _ _ h hg => h.grew hg), trivial⟩
  · intro _ w' hR _
    exact ⟨fun _ => ob_load (ldBA _ _ _ _ _ ((Below.cell hR.undraw (p := ⟨p, 0, none⟩) hpl).trans cx0) ((Below.cell hR.undraw (p := ⟨p, 0 + 1, none⟩) hpl).trans cx1)), fun _ => ob_load (ldBA _ _ _ _ _ ((Below.cell hR.undraw (p := ⟨q, 0, none⟩) hql).trans cy0) ((Below.cell hR.undraw (p := ⟨q, 0 + 1, none⟩) hql).trans cy1)), fun _ => ob_bin (guardBA _ _ _ _ _ _) ((neBA _ x y).trans (by rw [hxy]; rfl)), fun _ => rfl, fun _ => ob_load (ldBA _ _ _ _ _ ((Below.cell hR.undraw (p := ⟨p, 0, none⟩) hpl).trans cx0) ((Below.cell hR.undraw (p := ⟨p, 0 + 1, none⟩) hpl).trans cx1)), fun _ => ob_load (ldBA _ _ _ _ _ ((Below.cell hR.undraw (p := ⟨q, 0, none⟩) hql).trans cy0) ((Below.cell hR.undraw (p := ⟨q, 0 + 1, none⟩) hql).trans cy1)), trivial, trivial, fun _ => ob_load (ldBA _ _ _ _ _ ((Below.cell hR.undraw (p := ⟨q, 0, none⟩) hql).trans cy0) ((Below.cell hR.undraw (p := ⟨q, 0 + 1, none⟩) hql).trans cy1)), fun _ => ob_bin (guardBA _ _ _ _ _ _) (eqBA _ _ _), fun _ => ob_pick rfl rfl, fun _ => rfl, trivial⟩
  · refine ⟨?_, ?_, trivial⟩
    · rintro o _ ho hd a' w' hF hR hp
      have hio := (nthO_eq _ _).symm.trans ho
      cases ho
      cases hd
      have q3 : a'.tmps.getD 8 undef = .bool true := hp 3 _ 8 rfl rfl rfl
      have q4 : a'.tmps.getD 9 undef = .agg #[.int .u64 (x.n : Int), .int .i64 x.r] := hp 4 _ 9 rfl rfl rfl
      have q5 : a'.tmps.getD 10 undef = .agg #[.int .u64 (y.n : Int), .int .i64 y.r] := hp 5 _ 10 rfl rfl rfl
      exact step_bs2 x y rfl (wanted_on rfl (show opsLsT.toArray[3]? = some _ from rfl) rfl q3) rfl q4 q5 ⟨_, rfl, ⟨_, _, rfl, has2 hx hy⟩, (Below.refl _ _).alloc (Nat.le_refl _) _⟩
    · rintro o _ ho hd a' w' hF hR hp
      have hio := (nthO_eq _ _).symm.trans ho
      cases ho
      cases hd
      have q3 : a'.tmps.getD 8 undef = .bool true := hp 3 _ 8 rfl rfl rfl
      have q6 : (fun v w => IsBA w v [x, y]) (a'.tmps.getD 11 undef) w' := hp 6 _ 11 rfl rfl rfl
      obtain ⟨A, c, eA, hA⟩ := q6
      refine step_callD hio (wanted_on rfl (show opsLsT.toArray[3]? = some _ from rfl) rfl q3) rfl (enters_of Tryz.func98 (by kernel_rfl) rfl) (show Array.map a'.eval #[.tmp 11] = _ from by simp only [List.map_toArray, List.map_cons, List.map_nil, Act.eval, eA]) ((max_any A _ c [x, y] w' rfl (show 2 ≤ 1000 by decide) hA).mono ?_)
      rintro e w'' ⟨rfl, hb⟩
      exact ⟨_, rfl, _, rfl, rfl, hb⟩
  · intro u w' hR h
    exact hQ (u 6) w' (h 6 (Nat.le_of_ble_eq_true rfl)) hR.undraw
noncomputable def opsLsF : List Oper := opsOf Tryz.f77 1
set_option maxRecDepth 100000 in
set_option maxHeartbeats 4000000 in
theorem less_f (p q : Nat) (x y : BA)  (a : Act) (w : World) (Q : Exit → Act → World → Prop) (hN : a.tmps.size = 16) (h2 : a.tmps.getD 2 undef = .pointer (some ⟨p, 0, none⟩)) (h3 : a.tmps.getD 3 undef = .pointer (some ⟨q, 0, none⟩)) (hpl : p < w.heap.size) (hql : q < w.heap.size) (cx0 : w.cell? ⟨p, 0, none⟩ = some (.int .u64 (x.n : Int))) (cx1 : w.cell? ⟨p, 0 + 1, none⟩ = some (.int .i64 x.r)) (cy0 : w.cell? ⟨q, 0, none⟩ = some (.int .u64 (y.n : Int))) (cy1 : w.cell? ⟨q, 0 + 1, none⟩ = some (.int .i64 y.r)) (hxy : decide (x = y) = true) (hQ : ∀ (w' : World), Grew w w' → Q .normal (puts [(5, .agg #[.int .u64 (x.n : Int), .int .i64 x.r]), (6, .agg #[.int .u64 (y.n : Int), .int .i64 y.r]), (7, .bool false), (8, .bool false), (9, undef), (10, undef), (11, undef), (12, undef), (13, undef), (14, undef), (15, .bool false), (4, .bool false)] a) w')
    : (Code.region 1 opsLsF.toArray true).wp Tryz.prog Q a w := by
  refine region_v 16 opsLsF [(2, .pointer (some ⟨p, 0, none⟩)), (3, .pointer (some ⟨q, 0, none⟩))] [] [.eq (.agg #[.int .u64 (x.n : Int), .int .i64 x.r]), .eq (.agg #[.int .u64 (y.n : Int), .int .i64 y.r]), .eq (.bool false), .eq (.bool false), .eq (undef), .eq (undef), .eq (undef), .eq (undef), .eq (undef), .eq (undef), .eq (.bool false), .eq (.bool false)] Grew Grew.refl Grew.trans follows (by kernel_rfl) (by kernel_rfl) hN ⟨h2, h3, trivial⟩ rfl trivial ?_ ?_ ?_
  · intro _ w' hR _
    exact ⟨fun _ => ob_load (ldBA _ _ _ _ _ ((Below.cell hR.undraw (p := ⟨p, 0, none⟩) hpl).trans cx0) ((Below.cell hR.undraw (p := ⟨p, 0 + 1, none⟩) hpl).trans cx1)), fun _ => ob_load (ldBA _ _ _ _ _ ((Below.cell hR.undraw (p := ⟨q, 0, none⟩) hql).trans cy0) ((Below.cell hR.undraw (p := ⟨q, 0 + 1, none⟩) hql).trans cy1)), fun _ => ob_bin (guardBA _ _ _ _ _ _) ((neBA _ x y).trans (by rw [hxy]; rfl)), fun _ => rfl, fun _ => rfl, fun _ => rfl, fun _ => rfl, fun _ => rfl, fun _ => rfl, fun _ => rfl, fun _ => ob_pick rfl rfl, fun _ => rfl, trivial⟩
  · exact trivial
  · intro _ w' hR _
    exact hQ  w'  hR.undraw
end Go.Proofs.YtdiihaeelcbjbaaGreatDoor

-- BlLsL
namespace Go.Proofs.YtdiihaeelcbjbaaGreatDoor
open Go.RowKit

set_option maxRecDepth 100000 in
set_option maxHeartbeats 1000000 in
theorem less_any (x y : BA) (hx : x.ok) (hy : y.ok) (w : World) : Calls Tryz.prog 77 #[.agg #[.int .u64 (x.n : Int), .int .i64 x.r], .agg #[.int .u64 (y.n : Int), .int .i64 y.r]] w fun e W' => e = .returned (.bool (decide (ltB x y))) ∧ Below w.heap.size w W' := by
  have HX := Lib.hid (And.intro hx hy)
  obtain ⟨t, ht⟩ : ∃ t, t = decide (ltB x y) := ⟨_, rfl⟩
  rw [← ht]
  have HT := Lib.hid ht
  clear hx hy ht
  go_enter Tryz.func77, Tryz.ntmps77
  go_upto_region 1 with (fail)
  obtain ⟨W0, hW0⟩ : ∃ W0, W0 = w.alloc (.cells #[.int .u64 (x.n : Int), .int .i64 x.r] 25) := ⟨_, rfl⟩
  rw [← hW0]
  obtain ⟨W1, hW1⟩ : ∃ W1, W1 = W0.alloc (.cells #[.int .u64 (y.n : Int), .int .i64 y.r] 25) := ⟨_, rfl⟩
  rw [← hW1]
  obtain ⟨b0, k0, s0⟩ := boxBA hW0
  obtain ⟨b1, k1, s1⟩ := boxBA hW1
  have k0' := (b1.block _ (by omega)).trans k0
  rw [s0] at k1
  obtain ⟨p, hp⟩ : ∃ p, p = w.heap.size := ⟨_, rfl⟩
  rw [← hp] at k0' k1 ⊢
  have hb := b0.trans (Below.mono b1 b0.size)
  have hpl := (Array.getElem?_eq_some_iff.1 k0').1
  have hql := (Array.getElem?_eq_some_iff.1 k1).1
  have HB := Lib.hid hb
  clear hb hp b0 b1 k0 s0 s1 hW0 hW1
  by_cases hxy : x = y
  · refine less_f p (p + 1) x y _ W1 _ rfl rfl rfl hpl hql (blk_cell k0' 0) (blk_cell k0' 1) (blk_cell k1 0) (blk_cell k1 1) (by simpa using hxy) ?_
    intro W2 b2
    have H2 := Lib.hid (HB.out.trans (Below.mono b2 HB.out.size))
    obtain rfl : t = false := by rw [HT.out, hxy]; simpa using ltB_irr y
    simp only [puts, List.foldl_cons, List.foldl_nil, Act.put, List.setIfInBounds_toArray, List.set_cons_succ, List.set_cons_zero]
    clear b2 hpl hql k0' k1 hxy
    go_wp2
    go_ret
    exact ⟨rfl, H2.out⟩
  · refine less_t p (p + 1) x y _ W1 _ rfl rfl rfl hpl hql (blk_cell k0' 0) (blk_cell k0' 1) (blk_cell k1 0) (blk_cell k1 1) (by simpa using hxy) HX.out.1 HX.out.2 ?_
    intro v11 W2 _ b2
    have H2 := Lib.hid (HB.out.trans (Below.mono b2 HB.out.size))
    have ht : decide (maxB [x, y] = y) = decide (ltB x y) := by
      by_cases h : ltB x y
      · simp [h, ((less_two x y).1 h).2]
      · have : ¬ maxB [x, y] = y := fun e => h ((less_two x y).2 ⟨hxy, e⟩)
        simp [h, this]
    rw [ht, ← HT.out]
    simp only [puts, List.foldl_cons, List.foldl_nil, Act.put, List.setIfInBounds_toArray, List.set_cons_succ, List.set_cons_zero]
    clear b2 hpl hql k0' k1 ht hxy
    go_wp2
    go_ret
    exact ⟨rfl, H2.out⟩
end Go.Proofs.YtdiihaeelcbjbaaGreatDoor
