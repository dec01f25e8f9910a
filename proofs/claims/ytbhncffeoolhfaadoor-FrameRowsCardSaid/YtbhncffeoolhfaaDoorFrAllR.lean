/- The statement of frame.All that appends a frame's contents, whatever its order of evaluation. -/
import Derived.Test.YtbhncffeoolhfaaDoorFrSeq
import Derived.Test.YtbhncffeoolhfaaDoorFrTake
import Derived.Test.YtbhncffeoolhfaaDoorStore2
namespace Go.Proofs.YtbhncffeoolhfaaDoor
open Go.RowKit

def oAL0 (p : String) : Oper := { dst := some 18, op := Op.load 30 (Operand.tmp 5), type := 30, pos := p, after := #[], guard := none }
def oAL1 (p : String) : Oper := { dst := some 19, op := Op.fieldAddr 46 (Operand.tmp 8) 0, type := 0, pos := p, after := #[], guard := none }
def oAL2 (p : String) : Oper := { dst := some 20, op := Op.load 22 (Operand.tmp 19), type := 22, pos := p, after := #[{ on := 1, ground := Ground.data }], guard := none }
def oAL3 (p : String) : Oper := { dst := some 21, op := Op.call { callee := Callee.value (Operand.func 13), args := #[Operand.tmp 20], argTypes := #[22] }, type := 22, pos := p, after := #[{ on := 2, ground := Ground.data }], guard := none }
def oAL4 (p : String) : Oper := { dst := some 22, op := Op.buildSlice 30 1 #[(0, Operand.tmp 21)], type := 30, pos := p, after := #[{ on := 3, ground := Ground.data }], guard := none }
def oAL5 (p : String) : Oper := { dst := some 23, op := Op.call { callee := Callee.builtin Builtin.append, args := #[Operand.tmp 18, Operand.tmp 22], argTypes := #[30, 30] }, type := 30, pos := p, after := #[{ on := 0, ground := Ground.data }, { on := 4, ground := Ground.data }, { on := 3, ground := Ground.chain }], guard := none }
def oAL6 (p : String) : Oper := { dst := none, op := Op.store 30 (Operand.tmp 5) (Operand.tmp 23), type := 0, pos := p, after := #[{ on := 5, ground := Ground.data }, { on := 5, ground := Ground.chain }, { on := 0, ground := Ground.phase }, { on := 1, ground := Ground.phase }, { on := 2, ground := Ground.phase }, { on := 3, ground := Ground.phase }, { on := 4, ground := Ground.phase }, { on := 5, ground := Ground.phase }], guard := none }
def opsAL (p : String) : List Oper := [oAL0 p, oAL1 p, oAL2 p, oAL3 p, oAL4 p]
theorem opsAL_back (p : String) : backwards (opsAL p ++ [oAL5 p, oAL6 p]) = true := by kernel_rfl
theorem opsAL_slots (p : String) : slotsOk 31 (opsAL p) = true := by kernel_rfl
theorem opsAL_all (p : String) : ((List.range ((opsAL p).length + 1)).all (hasEdge (oAL6 p))) = true := by kernel_rfl
theorem opsAL_pen (p : String) (L : Nat → Bool) (hcl : ∀ j o' e, (opsAL p ++ [oAL5 p, oAL6 p]).toArray[j]? = some o' → L j = true → e ∈ o'.after → Region.binds .any e = true → L e.on = true) (hp : ∀ e ∈ (oAL5 p).after, Region.binds .any e = true → L e.on = true) : ∀ j, j < (opsAL p).length → L j = true := by
  have h0 : L 0 = true := hp { on := 0, ground := Ground.data } (by simp [oAL5]) rfl
  have h4 : L 4 = true := hp { on := 4, ground := Ground.data } (by simp [oAL5]) rfl
  have h3 : L 3 = true := hcl 4 (oAL4 p) { on := 3, ground := Ground.data } rfl h4 (by simp [oAL4]) rfl
  have h2 : L 2 = true := hcl 3 (oAL3 p) { on := 2, ground := Ground.data } rfl h3 (by simp [oAL3]) rfl
  have h1 : L 1 = true := hcl 2 (oAL2 p) { on := 1, ground := Ground.data } rfl h2 (by simp [oAL2]) rfl
  intro j hj
  have hj' : j < 5 := hj
  rcases j with _ | _ | _ | _ | _ | j
  · exact h0
  · exact h1
  · exact h2
  · exact h3
  · exact h4
  · omega

/-- What each slot comes to. -/
def psiAL (D : Nat) (v : Value) (A2 : Option Addr) (L2 c2 : Nat) (X : List UInt8) : Nat → Value → World → Prop
  | 0, u, _ => u = v
  | 1, u, _ => u = .pointer (some ⟨D, 0, none⟩)
  | 2, u, _ => u = .slice A2 L2 c2
  | 3, u, w => IsD w u X
  | 4, u, w => ∃ q y, u = .slice (some ⟨q, 0, none⟩) 1 1 ∧ w.heap[q]? = some (.cells #[y] 22 (0, 0)) ∧ IsD w y X
  | _, _, _ => True
theorem IsD.grew {w w' : World} {v : Value} {X : List UInt8} (h : IsD w v X) (hg : Grew w w') : IsD w' v X := h.same (SameT.grew (T := []) hg) (by simp)
theorem psiAL_grew (D : Nat) (v : Value) (A2 : Option Addr) (L2 c2 : Nat) (X : List UInt8) : ∀ i u w w', psiAL D v A2 L2 c2 X i u w → Grew w w' → psiAL D v A2 L2 c2 X i u w' := by
  intro i u w w' h hg
  rcases i with _ | _ | _ | _ | _ | i
  · exact h
  · exact h
  · exact h
  · exact IsD.grew h hg
  · obtain ⟨q, y, h1, h2, h3⟩ := h
    exact ⟨q, y, h1, SameT.grew (T := []) hg _ _ _ (by simp) h2, h3.grew hg⟩
  · trivial

theorem run_ldBB (w : World) (p : Addr) (v : Value) (h : w.cell? p = some v) : (Instr.loadAt 30 (.pointer (some p))).run Tryd.prog w = .ok v w := by
  simp [go_sem, h]
theorem run_bs1 (w : World) (A : Option Addr) (L c : Nat) : (Instr.buildSlice 30 1 #[(0, .slice A L c)]).run Tryd.prog w = .ok (.slice (some ⟨w.heap.size, 0, none⟩) 1 1) (w.alloc (.cells #[.slice A L c] 22)) := by
  simp [go_sem]
theorem run_stBB (w : World) (b : Nat) (A' : Option Addr) (n c : Nat) (u : Value) (h : w.cell? ⟨b, 0, none⟩ = some u) (hf : w.frozen? ⟨b, 0, none⟩ = false) : (Instr.storeAt 30 (.pointer (some ⟨b, 0, none⟩)) (.slice A' n c)).run Tryd.prog w = .ok () (w.setCell ⟨b, 0, none⟩ (.slice A' n c)) := by
  simp [go_sem, h, hf]

set_option maxRecDepth 100000 in
set_option maxHeartbeats 4000000 in
theorem all_region {p : String} (l : Nat) (B5 D base k : Nat) (v : Value) (vs : List Value) (A2 : Option Addr) (L2 c2 : Nat) (X : List UInt8) (hxl : L2 = X.length) (hX : L2 ≤ 1000000) (hk : k ≤ 1000000) (a : Act) (w : World) (Q : Exit → Act → World → Prop) (hN : a.tmps.size = 31)
    (h5 : a.tmps.getD 5 undef = .pointer (some ⟨B5, 0, none⟩)) (h8 : a.tmps.getD 8 undef = .pointer (some ⟨D, 0, none⟩)) (hb5 : w.heap[B5]? = some (.cells #[v] 30 (0, 0))) (hD : w.cell? ⟨D, 0, none⟩ = some (.slice A2 L2 c2)) (hDw : D < w.heap.size) (hA2 : HasA w w.heap.size A2 X)
    (hown : w.ownsRow base 22 1 v k vs) (hbase : base ≤ w.heap.size)
    (hQ : ∀ (u y v' : Value) (q : Nat) (W1 W2 : World), Grew w W1 → IsD W1 y X → W2.ownsRow base 22 1 v' (k + 1) (vs ++ [y]) → W1.grownBy W2 v.ownBlock → Q .normal (puts [(18, v), (19, .pointer (some ⟨D, 0, none⟩)), (20, .slice A2 L2 c2), (21, u), (22, .slice (some ⟨q, 0, none⟩) 1 1), (23, v')] a) (W2.setCell ⟨B5, 0, none⟩ v')) :
    (Code.region 9 (opsAL p ++ [oAL5 p, oAL6 p]).toArray true).wpIn (Fence.wide.inRound l) 2 Tryd.prog Q a w := by
  obtain ⟨iB, hi, hz0, hz1, hz2⟩ := infoB_parts
  have hB5w : B5 < w.heap.size := (Array.getElem?_eq_some_iff.1 hb5).1
  have hc5 : w.cell? ⟨B5, 0, none⟩ = some v := by simpa using blk_cell hb5 0
  refine wpIn_region_two 31 hN follows (opsAL_back p) (opsAL_slots p) (opsAL_all p) (opsAL_pen p) Grew Grew.refl Grew.trans (psiAL D v A2 L2 c2 X) (psiAL_grew D v A2 L2 c2 X) ?_ ?_
  · intro i o d ho hd a' w' hF hR hp
    rcases i with _ | _ | _ | _ | _ | i
    · obtain rfl : oAL0 p = o := Option.some.inj ho
      obtain rfl : 18 = d := Option.some.inj hd
      have hx : a'.eval (.tmp 5) = .pointer (some ⟨B5, 0, none⟩) := hF.at 5 rfl h5
      exact step_run (o := oAL0 p) (v := v) (w' := w') rfl rfl (by intro c h; cases h) (by simp [Oper.about, oAL0]) (by simp [execOp, oAL0, hx, run_ldBB w' _ v ((Below.cell hR.undraw (p := ⟨B5, 0, none⟩) hB5w).trans hc5)]) ⟨_, rfl, rfl, Grew.refl _⟩
    · obtain rfl : oAL1 p = o := Option.some.inj ho
      obtain rfl : 19 = d := Option.some.inj hd
      have hx : a'.eval (.tmp 8) = .pointer (some ⟨D, 0, none⟩) := hF.at 8 rfl h8
      exact step_run (o := oAL1 p) (v := .pointer (some ⟨D, 0, none⟩)) (w' := w') rfl rfl (by intro c h; cases h) (by simp [Oper.about, oAL1]) (by simp [execOp, oAL1, hx, run_part0 w' D]) ⟨_, rfl, rfl, Grew.refl _⟩
    · obtain rfl : oAL2 p = o := Option.some.inj ho
      obtain rfl : 20 = d := Option.some.inj hd
      have hx : a'.eval (.tmp 19) = .pointer (some ⟨D, 0, none⟩) := hp 1 (oAL1 p) 19 rfl rfl rfl
      exact step_run (o := oAL2 p) (v := .slice A2 L2 c2) (w' := w') rfl rfl (by intro c h; cases h) (by simp [Oper.about, oAL2]) (by simp [execOp, oAL2, hx, run_ldB w' _ A2 L2 c2 ((Below.cell hR.undraw (p := ⟨D, 0, none⟩) hDw).trans hD)]) ⟨_, rfl, rfl, Grew.refl _⟩
    · obtain rfl : oAL3 p = o := Option.some.inj ho
      obtain rfl : 21 = d := Option.some.inj hd
      have hx : a'.tmps.getD 20 undef = .slice A2 L2 c2 := hp 2 (oAL2 p) 20 rfl rfl rfl
      refine step_call (o := oAL3 p) rfl rfl (xs := #[.tmp 20]) (ts := #[22]) rfl trivial (fun _ => by omega) (enters_of Tryd.func13 (by kernel_rfl) rfl) ?_
      rw [show Array.map a'.eval #[.tmp 20] = #[.slice A2 L2 c2] from by simp only [List.map_toArray, List.map_cons, List.map_nil, Act.eval, hx]]
      refine (CallsIn.inRound l (callsIn_wide.2 (Clone_any A2 L2 c2 X hxl (by omega) w' (HasA.below' hA2 hR.undraw)))).mono ?_
      rintro e w'' ⟨⟨A', c', rfl, _, hd⟩, hb⟩
      exact ⟨_, rfl, _, rfl, ⟨A', L2, c', rfl, hxl, hd⟩, hb⟩
    · obtain rfl : oAL4 p = o := Option.some.inj ho
      obtain rfl : 22 = d := Option.some.inj hd
      have hx : IsD w' (a'.tmps.getD 21 undef) X := hp 3 (oAL3 p) 21 rfl rfl rfl
      obtain ⟨A', L', c', hv, hl, hd⟩ := id hx
      have hga : Below w'.heap.size w' (w'.alloc (.cells #[.slice A' L' c'] 22)) := (Below.refl _ _).alloc (Nat.le_refl _) _
      have hx' : a'.eval (.tmp 21) = .slice A' L' c' := hv
      rw [hv] at hx
      exact step_run (o := oAL4 p) (v := .slice (some ⟨w'.heap.size, 0, none⟩) 1 1) (w' := w'.alloc (.cells #[.slice A' L' c'] 22)) rfl rfl (by intro c h; cases h) (by simp [Oper.about, oAL4]) (by simp [execOp, oAL4, hx', run_bs1]) ⟨_, rfl, ⟨w'.heap.size, _, rfl, World.alloc_heap_new w' _, hx.grew hga⟩, hga⟩
    · exact absurd ((Array.getElem?_eq_some_iff.1 ho).1) (by simp [opsAL])
  · intro a' w' hF hR hp
    have e0 : a'.tmps.getD 18 undef = v := hp 0 (oAL0 p) 18 rfl rfl
    have e1 : a'.tmps.getD 19 undef = .pointer (some ⟨D, 0, none⟩) := hp 1 (oAL1 p) 19 rfl rfl
    have e2 : a'.tmps.getD 20 undef = .slice A2 L2 c2 := hp 2 (oAL2 p) 20 rfl rfl
    obtain ⟨q, y, e4, hq, hy⟩ : psiAL D v A2 L2 c2 X 4 (a'.tmps.getD 22 undef) w' := hp 4 (oAL4 p) 22 rfl rfl
    have hg := hR.undraw
    have hown' := own_below hown hg
    have hs0 : ∀ j u, ([y] : List Value)[j]? = some u → w'.cell? ((⟨q, 0, none⟩ : Addr).add j) = some u := by
      intro j u hj
      rcases j with _ | j
      · rw [addr_add, blk_cell hq]; simpa using hj
      · simp at hj
    have hy1 : y.oneCell' = true := by obtain ⟨A', L', c', rfl, _⟩ := hy; rfl
    obtain ⟨v', W2, hrun, hown2, hg2, -⟩ := run_append_own (P := Tryd.prog) w' base 30 30 22 iB (.slice none 0 0) 1 24 Tryd.underlying30 hi hz0 hz1 hz2 rfl (by decide) v k vs hown' ⟨q, 0, none⟩ 1 1 [y] rfl hs0 (fun u hu => by rw [List.mem_singleton.1 hu]; exact hy1) (by simp only [maxLen]; omega) (by omega) (Nat.le_trans hbase (Below.size hg))
    obtain ⟨A3, c3, rfl⟩ := own_form hown2
    have hx18 : a'.eval (.tmp 18) = v := e0
    have hx22 : a'.eval (.tmp 22) = .slice (some ⟨q, 0, none⟩) 1 1 := e4
    refine step_run (o := oAL5 p) (v := .slice A3 (k + 1) c3) (w' := W2) rfl rfl (by intro c h; cases h) (by simp [Oper.about, oAL5, resolve, Target.leads, Sem.run_pure]) (by
      unfold execOp
      simp only [oAL5, resolve, invoke, builtin, Sem.run_bind, Sem.run_pure, Result.andThen_ok, List.map_toArray, List.map_cons, List.map_nil, hx18, hx22, hrun]) ?_
    have hty := own_typed hown'
    have hb5' : w'.heap[B5]? = some (.cells #[v] 30 (0, 0)) := SameT.grew (T := []) hg _ _ _ (by simp) hb5
    have hb52 : W2.heap[B5]? = some (.cells #[v] 30 (0, 0)) := SameT.grown hg2 hty _ _ _ (by decide) hb5'
    have hn' : (a'.put (some 23) (.slice A3 (k + 1) c3)).tmps.size = 31 := size_put.trans (hF.size.trans hN)
    have hx5 : (a'.put (some 23) (.slice A3 (k + 1) c3)).eval (.tmp 5) = .pointer (some ⟨B5, 0, none⟩) := (getD_put_ne (by decide)).trans (hF.at 5 rfl h5)
    have hx23 : (a'.put (some 23) (.slice A3 (k + 1) c3)).eval (.tmp 23) = .slice A3 (k + 1) c3 := getD_put_same (by rw [hF.size, hN]; decide)
    refine step_skip (o := oAL6 p) (w' := W2.setCell ⟨B5, 0, none⟩ (.slice A3 (k + 1) c3)) rfl rfl (by intro c h; cases h) (by simp [Oper.about, oAL6]) (by
      have hst := run_stBB W2 B5 A3 (k + 1) c3 v (by simpa using blk_cell hb52 0) (blk_frozen hb52 0)
      have h5x : (a'.put (oAL5 p).dst (.slice A3 (k + 1) c3)).eval (.tmp 5) = .pointer (some ⟨B5, 0, none⟩) := hx5
      have h23x : (a'.put (oAL5 p).dst (.slice A3 (k + 1) c3)).eval (.tmp 23) = .slice A3 (k + 1) c3 := hx23
      unfold execOp
      simp only [oAL6, h5x, h23x, Sem.run_bind, hst, Result.andThen_ok]
      rfl) ?_
    have hput : a'.put (some 23) (.slice A3 (k + 1) c3) = puts [(18, v), (19, .pointer (some ⟨D, 0, none⟩)), (20, .slice A2 L2 c2), (21, a'.tmps.getD 21 undef), (22, .slice (some ⟨q, 0, none⟩) 1 1), (23, .slice A3 (k + 1) c3)] a := by
      have h1 := hF.puts [(18, v), (19, .pointer (some ⟨D, 0, none⟩)), (20, .slice A2 L2 c2), (21, a'.tmps.getD 21 undef), (22, .slice (some ⟨q, 0, none⟩) 1 1)] (by
        intro x hx
        simp only [List.mem_cons, List.not_mem_nil, or_false] at hx
        rcases hx with rfl | rfl | rfl | rfl | rfl
        · exact e0
        · exact e1
        · exact e2
        · rfl
        · exact e4) rfl (by rw [hN]; rfl)
      conv => lhs; rw [h1]
      rfl
    show Q .normal (a'.put (some 23) (.slice A3 (k + 1) c3)) _
    rw [hput]
    exact hQ _ y _ q w' W2 hg hy hown2 hg2
end Go.Proofs.YtbhncffeoolhfaaDoor
