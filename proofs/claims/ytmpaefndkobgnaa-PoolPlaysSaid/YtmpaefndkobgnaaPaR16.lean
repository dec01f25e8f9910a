/- The statement of the law on lent buffers that fills one, whatever its order of evaluation. -/
import Derived.Test.YtmpaefndkobgnaaPoolSpec
import Derived.Test.YtmpaefndkobgnaaPaMath
import Derived.Test.YtmpaefndkobgnaaRegion3
import Derived.Deep.AppendSrc
namespace Go.Proofs.Ytmpaefndkobgnaa
open Go.RowKit

section
variable {n : Nat} {ops : Array Oper} {i : Nat} {o : Oper} {a : Act} {w : World} {K : Act → World → Prop} {Q : Exit → Act → World → Prop}
theorem step_callP {f : FuncId} {xs : Array Operand} {ts : Array TypeId} {vs : Array Value} (hi : ops[i]? = some o) (hw : Region.wanted o (yielded ops a.tmps) = true)
    (ho : o.op = .call { callee := .value (.func f), args := xs, argTypes := ts }) (eg : ∀ args w, (callFunc f args).run Try.prog w = .ok (.enter f args) w) (hxs : xs.map a.eval = vs) (hc : Calls Try.prog f vs w fun e w' => ∃ v, e = .returned v ∧ K (a.put o.dst v) w') : wpOpIn Fence.wide n Try.prog ops Q i K a w := by
  refine step_call hi hw ho trivial (fun h => by cases h) eg ?_
  rw [hxs]
  exact callsIn_wide.2 hc
end
theorem run_nei (w : World) (t : TypeId) (x y : Int) : (binOp .neq t (.int .i64 x) (.int .i64 y)).run Try.prog w = .ok (.bool (x != y)) w := by
  simp [go_sem]
theorem run_ldH (w : World) (b : Nat) (i g : Int) (h : w.heap[b]? = some (.cells #[.int .i64 i, .int .u32 g] 29 (0, 0))) : (Instr.loadAt 29 (.pointer (some ⟨b, 0, none⟩))).run Try.prog w = .ok (.agg #[.int .i64 i, .int .u32 g]) w := by
  have h0 := blk_cell h 0
  have h1 := blk_cell h 1
  simp at h0 h1
  simp [go_sem, h0, h1]
theorem run_bs0 (w : World) : (Instr.buildSlice 32 1 #[(0, .int .u8 0)]).run Try.prog w = .ok (.slice (some ⟨w.heap.size, 0, none⟩) 1 1) (w.alloc (.cells #[.int .u8 0] 5)) := by
  simp [go_sem]
theorem hasA_front (w : World) (bs : List UInt8) (cs : Array Value) (h : bs ≠ []) : HasA (w.alloc (.cells ((bs.map enc).toArray ++ cs) 5)) (w.alloc (.cells ((bs.map enc).toArray ++ cs) 5)).heap.size (some ⟨w.heap.size, 0, none⟩) bs := fun _ =>
  ⟨w.heap.size, 0, rfl, by simp, fun i hi => by
    have hb := World.alloc_heap_new w (.cells ((bs.map enc).toArray ++ cs) 5)
    rw [Nat.zero_add, blk_cell hb]
    rw [Array.getElem?_append_left (by simpa using hi)]
    simp [hi]⟩
/-- 'append(b, 0)', b having no room. -/
theorem run_app0 (w : World) (b q s k : Nat) (hs : s ≤ 50) (hb : w.heap[b]? = some (.cells ((rep s k).map enc).toArray 5 (0, 0))) (hq : w.heap[q]? = some (.cells #[.int .u8 0] 5 (0, 0))) :
    ∃ G, s + 1 ≤ G ∧ ∀ ty, (Builtin.append_ #[32, 32] ty #[.slice (some ⟨b, 0, none⟩) s s, .slice (some ⟨q, 0, none⟩) 1 1]).run Try.prog w = .ok (.slice (some ⟨w.heap.size, 0, none⟩) (s + 1) G) (w.drew.alloc (.cells (((rep s k ++ [0]).map enc).toArray ++ Builtin.zeroCells #[.int .u8 0] (G - (s + 1))) 5)) := by
  obtain ⟨i0, hi, hz0, hz1, hz2⟩ := info_parts info5
  have hl : (rep s k).length = s := by simp [rep]
  have hold : (Builtin.firstCells i0.size s (.slice (some ⟨b, 0, none⟩) s s)).run Try.prog w.drew = .ok ((rep s k).map enc).toArray w.drew := by
    rw [hz1]
    refine run_firstCells_some w.drew 1 s ⟨b, 0, none⟩ s s ((rep s k).map enc) (by simp [hl]) (fun j u hj => ?_)
    rw [addr_add]
    have := blk_cell (w := w.drew) (R := b) (t := 5) (cs := ((rep s k).map enc).toArray) hb j
    rw [Nat.zero_add, this]
    simpa using hj
  have hsrc : Src Try.prog i0.size 32 (.slice (some ⟨q, 0, none⟩) 1 1) 1 [.int .u8 0] w := by
    rw [hz1]
    refine Src.ofSlice w Try.underlying32 ⟨q, 0, none⟩ 1 1 [.int .u8 0] rfl (fun j u hj => ?_) (fun u hu => by rw [List.mem_singleton.1 hu]; rfl)
    rw [addr_add, Nat.zero_add, blk_cell hq]
    rcases j with _ | j
    · simpa using hj
    · simp at hj
  refine ⟨grownCap w (s + 1) s 5, grownCap_ge _ _ _ _, fun ty => ?_⟩
  have h := run_append_grow_src (P := Try.prog) w 32 32 ty 5 i0 (.int .u8 0) Try.underlying32 hi hz0 (some ⟨b, 0, none⟩) s s ((rep s k).map enc) hold (.slice (some ⟨q, 0, none⟩) 1 1) 1 [.int .u8 0] hsrc (by omega) (by omega) (growslice_fits (by omega) (by rw [hz2]; omega))
  rw [h]
  congr 5
  rw [List.map_append]; rfl
def oPA160 (p : String) : Oper := { dst := some 72, op := Op.move (Operand.tmp 14), type := 24, pos := p, after := #[], guard := none }
def oPA161 (p : String) : Oper := { dst := some 73, op := Op.binOp BinOp.neq 24 (Operand.tmp 72) (Operand.const (Value.int IntKind.i64 0)) 24, type := 4, pos := p, after := #[{ on := 0, ground := Ground.data }], guard := none }
def oPA162 (p : String) : Oper := { dst := some 74, op := Op.move (Operand.tmp 73), type := 4, pos := p, after := #[{ on := 1, ground := Ground.data }], guard := none }
def oPA163 (p : String) : Oper := { dst := some 75, op := Op.move (Operand.tmp 9), type := 23, pos := p, after := #[{ on := 2, ground := Ground.guard }], guard := some (2, false) }
def oPA164 (p : String) : Oper := { dst := some 76, op := Op.load 29 (Operand.tmp 13), type := 29, pos := p, after := #[{ on := 2, ground := Ground.guard }], guard := some (2, false) }
def oPA165 (p : String) : Oper := { dst := some 77, op := Op.move (Operand.tmp 15), type := 32, pos := p, after := #[{ on := 2, ground := Ground.guard }], guard := some (2, false) }
def oPA166 (p : String) : Oper := { dst := some 78, op := Op.call { callee := Callee.value (Operand.func 9), args := #[Operand.tmp 75, Operand.tmp 76, Operand.tmp 77], argTypes := #[23, 29, 32] }, type := 24, pos := p, after := #[{ on := 3, ground := Ground.data }, { on := 4, ground := Ground.data }, { on := 5, ground := Ground.data }, { on := 2, ground := Ground.chain }, { on := 2, ground := Ground.guard }], guard := some (2, false) }
def oPA167 (p : String) : Oper := { dst := some 79, op := Op.binOp BinOp.neq 24 (Operand.tmp 78) (Operand.const (Value.int IntKind.i64 0)) 24, type := 4, pos := p, after := #[{ on := 6, ground := Ground.data }, { on := 2, ground := Ground.guard }], guard := some (2, false) }
def oPA168 (p : String) : Oper := { dst := some 80, op := Op.pick (Operand.tmp 74) (Operand.const (Value.bool true)) (Operand.tmp 79), type := 4, pos := p, after := #[{ on := 2, ground := Ground.data }, { on := 7, ground := Ground.data }], guard := none }
def oPA169 (p : String) : Oper := { dst := some 81, op := Op.move (Operand.tmp 80), type := 4, pos := p, after := #[{ on := 8, ground := Ground.data }, { on := 6, ground := Ground.chain }], guard := none }
def oPA1610 (p : String) : Oper := { dst := some 82, op := Op.move (Operand.tmp 9), type := 23, pos := p, after := #[{ on := 9, ground := Ground.guard }], guard := some (9, false) }
def oPA1611 (p : String) : Oper := { dst := some 83, op := Op.load 29 (Operand.tmp 13), type := 29, pos := p, after := #[{ on := 9, ground := Ground.guard }], guard := some (9, false) }
def oPA1612 (p : String) : Oper := { dst := some 84, op := Op.move (Operand.tmp 15), type := 32, pos := p, after := #[{ on := 9, ground := Ground.guard }], guard := some (9, false) }
def oPA1613 (p : String) : Oper := { dst := some 85, op := Op.buildSlice 32 1 #[(0, Operand.const (Value.int IntKind.u8 0))], type := 32, pos := p, after := #[{ on := 9, ground := Ground.guard }], guard := some (9, false) }
def oPA1614 (p : String) : Oper := { dst := some 86, op := Op.call { callee := Callee.builtin Builtin.append, args := #[Operand.tmp 84, Operand.tmp 85], argTypes := #[32, 32] }, type := 32, pos := p, after := #[{ on := 12, ground := Ground.data }, { on := 13, ground := Ground.data }, { on := 9, ground := Ground.chain }, { on := 9, ground := Ground.guard }], guard := some (9, false) }
def oPA1615 (p : String) : Oper := { dst := some 87, op := Op.call { callee := Callee.value (Operand.func 9), args := #[Operand.tmp 82, Operand.tmp 83, Operand.tmp 86], argTypes := #[23, 29, 32] }, type := 24, pos := p, after := #[{ on := 10, ground := Ground.data }, { on := 11, ground := Ground.data }, { on := 14, ground := Ground.data }, { on := 14, ground := Ground.chain }, { on := 9, ground := Ground.guard }], guard := some (9, false) }
def oPA1616 (p : String) : Oper := { dst := some 88, op := Op.binOp BinOp.neq 24 (Operand.tmp 87) (Operand.const (Value.int IntKind.i64 3)) 24, type := 4, pos := p, after := #[{ on := 15, ground := Ground.data }, { on := 9, ground := Ground.guard }], guard := some (9, false) }
def oPA1617 (p : String) : Oper := { dst := some 89, op := Op.pick (Operand.tmp 81) (Operand.const (Value.bool true)) (Operand.tmp 88), type := 4, pos := p, after := #[{ on := 9, ground := Ground.data }, { on := 16, ground := Ground.data }], guard := none }
def opsPA16 (p : String) : List Oper := [oPA160 p, oPA161 p, oPA162 p, oPA163 p, oPA164 p, oPA165 p, oPA166 p, oPA167 p, oPA168 p, oPA169 p, oPA1610 p, oPA1611 p, oPA1612 p, oPA1613 p, oPA1614 p, oPA1615 p, oPA1616 p, oPA1617 p]
theorem opsPA16_back (p : String) : backwards (opsPA16 p) = true := by kernel_rfl
theorem opsPA16_slots (p : String) : slotsOk 220 (opsPA16 p) = true := by kernel_rfl
/-- What each slot comes to. -/
def psiPA16 (P : PoolK) (w0 : World) (R : Nat) (M : Nat → Prop) (m s k b13 b15 : Nat) (L : Nat → Bool) : Nat → Value → World → Prop
  | 0, v, _ => v = .int .i64 0
  | 1, v, _ => v = .bool false
  | 2, v, _ => v = .bool false
  | 3, v, _ => v = .pointer (some ⟨R, 0, none⟩)
  | 4, v, _ => v = hV (k : Int) 1
  | 5, v, _ => v = .slice (some ⟨b15, 0, none⟩) s s
  | 6, v, _ => v = .int .i64 0
  | 7, v, _ => v = .bool false
  | 8, v, _ => v = .bool false
  | 9, v, _ => v = .bool false
  | 10, v, _ => v = .pointer (some ⟨R, 0, none⟩)
  | 11, v, _ => v = hV (k : Int) 1
  | 12, v, _ => v = .slice (some ⟨b15, 0, none⟩) s s
  | 13, v, w => L 15 = false → ∃ q, v = .slice (some ⟨q, 0, none⟩) 1 1 ∧ w.heap[q]? = some (.cells #[.int .u8 0] 5 (0, 0))
  | 14, v, w => L 15 = false → ∃ q G, v = .slice (some ⟨q, 0, none⟩) (s + 1) G ∧ s + 1 ≤ G ∧ HasA w w.heap.size (some ⟨q, 0, none⟩) (rep s k ++ [0]) ∧ Live P w0 R (pa1 m s (k + 1)) (fun x => M x ∨ x = q) w
  | 15, v, _ => v = .int .i64 3
  | 16, v, _ => v = .bool false
  | 17, v, _ => v = .bool false
  | _, _, _ => True
def wsPA16 (P : PoolK) (w0 : World) (R : Nat) (M : Nat → Prop) (m s k b13 b15 : Nat) (W0 : World) (L : Nat → Bool) (w : World) : Prop := if L 6 = true then Live P w0 R (pa1 m s (k + 1)) M w ∧ Mv M W0 w else w = W0.drew
theorem psiPA16_same (P : PoolK) (w0 : World) (R : Nat) (M : Nat → Prop) (m s k b13 b15 : Nat) : ∀ (L : Nat → Bool) (i j : Nat) (u : Value) (w : World), i ≠ 15 → psiPA16 P w0 R M m s k b13 b15 L j u w → psiPA16 P w0 R M m s k b13 b15 (andI L i) j u w := by
  intro L i j u w n15 h
  rcases j with _ | _ | _ | _ | _ | _ | _ | _ | _ | _ | _ | _ | _ | _ | _ | _ | _ | _ | j
  · exact h
  · exact h
  · exact h
  · exact h
  · exact h
  · exact h
  · exact h
  · exact h
  · exact h
  · exact h
  · exact h
  · exact h
  · exact h
  · exact by intro h15; exact h (by simpa [andI, Ne.symm n15] using h15)
  · exact by intro h15; exact h (by simpa [andI, Ne.symm n15] using h15)
  · exact h
  · exact h
  · exact h
  · trivial
theorem wsPA16_same (P : PoolK) (w0 : World) (R : Nat) (M : Nat → Prop) (m s k b13 b15 : Nat) : ∀ (W0 : World) (L : Nat → Bool) (i : Nat) (w : World), i ≠ 6 → wsPA16 P w0 R M m s k b13 b15 W0 L w → wsPA16 P w0 R M m s k b13 b15 W0 (andI L i) w := by
  intro W0 L i w n6 h
  have e : ∀ k, k ≠ i → andI L i k = L k := fun k hk => by simp [andI, hk]
  unfold wsPA16 at h ⊢
  rw [e 6 (Ne.symm n6)]
  exact h
section
variable {P : PoolK} {w0 : World} {R : Nat} {M : Nat → Prop} {m s k b13 b15 : Nat} {W0 w : World} {L : Nat → Bool}
theorem wsPA16_mv (h : wsPA16 P w0 R M m s k b13 b15 W0 L w) : Mv M W0 w := by
  unfold wsPA16 at h
  split at h
  · exact h.2
  · subst h; exact ⟨Nat.le_refl _, fun _ _ => rfl⟩
theorem wsPA16_0 (hl : Live P w0 R (pa1g m s k) M W0) (h : wsPA16 P w0 R M m s k b13 b15 W0 L w) (h6 : L 6 = false) : Live P w0 R (pa1g m s k) M w := by
  unfold wsPA16 at h
  rw [h6, if_neg (by decide)] at h
  subst h
  exact hl.own (Only.refl _ _).drew (fun x hx => ⟨.inl hx, (hl.mine x hx).2⟩)
theorem wsPA16_has {A : Option Addr} {x : List UInt8} (hh : HasA W0 W0.heap.size A x) (h : wsPA16 P w0 R M m s k b13 b15 W0 L w) (h6 : L 6 = false) : HasA w w.heap.size A x := by
  unfold wsPA16 at h
  rw [h6, if_neg (by decide)] at h
  subst h
  exact hh
theorem wsPA16_1 (hl : Live P w0 R (pa1 m s (k + 1)) M w) (hm : Mv M W0 w) : wsPA16 P w0 R M m s k b13 b15 W0 (andI L 6) w := by
  unfold wsPA16
  rw [andI_self, if_pos rfl]; exact ⟨hl, hm⟩
theorem wsPA16_2 (h : wsPA16 P w0 R M m s k b13 b15 W0 L w) (h6 : L 6 = true) : Live P w0 R (pa1 m s (k + 1)) M w ∧ Mv M W0 w := by
  unfold wsPA16 at h
  rw [h6, if_pos rfl] at h; exact h
theorem wsPA16_3 {i : Nat} (h6 : L 6 = true) (hl : Live P w0 R (pa1 m s (k + 1)) M w) (hm : Mv M W0 w) : wsPA16 P w0 R M m s k b13 b15 W0 (andI L i) w := by
  unfold wsPA16
  rw [andI_old h6, if_pos rfl]; exact ⟨hl, hm⟩
end
theorem psiPA16_noworld (P : PoolK) (w0 : World) (R : Nat) (M : Nat → Prop) (m s k b13 b15 : Nat) {p : String} {L : Nat → Bool} {j : Nat} {u : Value} {w w' : World} (hcl : ∀ j o', (opsPA16 p).toArray[j]? = some o' → L j = true → ∀ k, hasEdge o' k = true → L k = true) (h6 : L 6 = false) (hj : L j = true) (h : psiPA16 P w0 R M m s k b13 b15 L j u w) : psiPA16 P w0 R M m s k b13 b15 (andI L 6) j u w' := by
  have no13 : L 13 = true → False := fun h13 => by
    have h9 := hcl 13 (oPA1613 p) rfl h13 9 rfl
    have h8 := hcl 9 (oPA169 p) rfl h9 8 rfl
    have h7 := hcl 8 (oPA168 p) rfl h8 7 rfl
    have := hcl 7 (oPA167 p) rfl h7 6 rfl
    rw [h6] at this; cases this
  rcases j with _ | _ | _ | _ | _ | _ | _ | _ | _ | _ | _ | _ | _ | _ | _ | _ | _ | _ | j
  all_goals first
    | exact h
    | exact absurd hj (fun h13 => no13 h13)
    | exact absurd hj (fun h14 => no13 (hcl 14 (oPA1614 p) rfl h14 13 rfl))
    | trivial
theorem psiPA16_grew (P : PoolK) (w0 : World) (R : Nat) (M : Nat → Prop) (m s k b13 b15 : Nat) {L : Nat → Bool} {i j : Nat} {u : Value} {w w' : World} (hi : i ≠ 15) (hg : Below w.heap.size w w') (h : psiPA16 P w0 R M m s k b13 b15 L j u w) : psiPA16 P w0 R M m s k b13 b15 (andI L i) j u w' := by
  have e : andI L i 15 = L 15 := by simp [andI, Ne.symm hi]
  rcases j with _ | _ | _ | _ | _ | _ | _ | _ | _ | _ | _ | _ | _ | _ | _ | _ | _ | _ | j
  all_goals try exact h
  · intro h15
    rw [e] at h15
    obtain ⟨q, h1, h2⟩ := h h15
    exact ⟨q, h1, (hg.block q (Array.getElem?_eq_some_iff.1 h2).1).trans h2⟩
  · intro h15
    rw [e] at h15
    obtain ⟨q, G, h1, h2, h3, h4⟩ := h h15
    exact ⟨q, G, h1, h2, h3.below' hg, (h4.grew hg).1⟩
theorem psiPA16_late (P : PoolK) (w0 : World) (R : Nat) (M : Nat → Prop) (m s k b13 b15 : Nat) {L : Nat → Bool} {j : Nat} {u : Value} {w w' : World} (h : psiPA16 P w0 R M m s k b13 b15 L j u w) : psiPA16 P w0 R M m s k b13 b15 (andI L 15) j u w' := by
  have e : andI L 15 15 = true := andI_self _ _
  rcases j with _ | _ | _ | _ | _ | _ | _ | _ | _ | _ | _ | _ | _ | _ | _ | _ | _ | _ | j
  all_goals try exact h
  · intro h15; rw [e] at h15; cases h15
  · intro h15; rw [e] at h15; cases h15
set_option maxRecDepth 100000 in
set_option maxHeartbeats 4000000 in
theorem apart_fill {p : String} (P : PoolK) (w0 : World) (R : Nat) (M : Nat → Prop) (m s k b13 b15 : Nat) (hk : k < m) (hm50 : m ≤ 50) (hs : s ≤ 50) (hM13 : M b13) (hM15 : M b15) (a : Act) (w : World) (Q : Exit → Act → World → Prop) (hN : a.tmps.size = 220) (h9 : a.tmps.getD 9 undef = .pointer (some ⟨R, 0, none⟩)) (h13 : a.tmps.getD 13 undef = .pointer (some ⟨b13, 0, none⟩)) (h14 : a.tmps.getD 14 undef = .int .i64 0) (h15 : a.tmps.getD 15 undef = .slice (some ⟨b15, 0, none⟩) s s) (hLv : Live P w0 R (pa1g m s k) M w) (hb13 : w.heap[b13]? = some (.cells #[.int .i64 (k : Int), .int .u32 1] 29 (0, 0))) (hrow : w.heap[b15]? = some (.cells ((rep s k).map enc).toArray 5 (0, 0))) (hHas : HasA w w.heap.size (some ⟨b15, 0, none⟩) (rep s k)) (hQ : ∀ (v85 : Value), ∀ (v86 : Value), ∀ (w' : World), True → True → (Live P w0 R (pa1 m s (k + 1)) M w' ∧ Mv M w w') → Q .normal (puts [(72, .int .i64 0), (73, .bool false), (74, .bool false), (75, .pointer (some ⟨R, 0, none⟩)), (76, hV (k : Int) 1), (77, .slice (some ⟨b15, 0, none⟩) s s), (78, .int .i64 0), (79, .bool false), (80, .bool false), (81, .bool false), (82, .pointer (some ⟨R, 0, none⟩)), (83, hV (k : Int) 1), (84, .slice (some ⟨b15, 0, none⟩) s s), (85, v85), (86, v86), (87, .int .i64 3), (88, .bool false), (89, .bool false)] a) w')
    : (Code.region 16 (opsPA16 p).toArray true).wp Try.prog Q a w := by
  refine (wpIn_wide (n := 1)).1 (wpIn_region_st 220 hN follows (opsPA16_back p) (opsPA16_slots p) (wsPA16 P w0 R M m s k b13 b15 w) (psiPA16 P w0 R M m s k b13 b15) (by unfold wsPA16; rfl) ?_ ?_)
  · intro L i o d a' w' ho hd hLi hdep hcl hF hW hp
    rcases i with _ | _ | _ | _ | _ | _ | _ | _ | _ | _ | _ | _ | _ | _ | _ | _ | _ | _ | i
    · obtain rfl : oPA160 p = o := Option.some.inj ho
      obtain rfl : 72 = d := Option.some.inj hd
      exact step_move rfl rfl rfl (hF.at 14 rfl h14) ⟨_, rfl, rfl, wsPA16_same _ _ _ _ _ _ _ _ _  _ _ _ _ (by decide) hW, fun j u _ h => psiPA16_same _ _ _ _ _ _ _ _ _  _ _ _ _ _ (by decide) h⟩
    · obtain rfl : oPA161 p = o := Option.some.inj ho
      obtain rfl : 73 = d := Option.some.inj hd
      have q0 : a'.tmps.getD 72 undef = .int .i64 0 := hp 0 (oPA160 p) 72 (hdep 0 rfl) rfl rfl
      exact step_bin rfl rfl rfl q0 rfl (guard_int _ _ _ _ _ _ _ _ _) (run_nei _ _ _ _) ⟨_, rfl, rfl, wsPA16_same _ _ _ _ _ _ _ _ _  _ _ _ _ (by decide) hW, fun j u _ h => psiPA16_same _ _ _ _ _ _ _ _ _  _ _ _ _ _ (by decide) h⟩
    · obtain rfl : oPA162 p = o := Option.some.inj ho
      obtain rfl : 74 = d := Option.some.inj hd
      have q1 : a'.tmps.getD 73 undef = .bool false := hp 1 (oPA161 p) 73 (hdep 1 rfl) rfl rfl
      exact step_move rfl rfl rfl q1 ⟨_, rfl, rfl, wsPA16_same _ _ _ _ _ _ _ _ _  _ _ _ _ (by decide) hW, fun j u _ h => psiPA16_same _ _ _ _ _ _ _ _ _  _ _ _ _ _ (by decide) h⟩
    · obtain rfl : oPA163 p = o := Option.some.inj ho
      obtain rfl : 75 = d := Option.some.inj hd
      have q2 : a'.tmps.getD 74 undef = .bool false := hp 2 (oPA162 p) 74 (hdep 2 rfl) rfl rfl
      exact step_move rfl (wanted_on rfl (show (opsPA16 p).toArray[2]? = some (oPA162 p) from rfl) rfl q2) rfl (hF.at 9 rfl h9) ⟨_, rfl, rfl, wsPA16_same _ _ _ _ _ _ _ _ _  _ _ _ _ (by decide) hW, fun j u _ h => psiPA16_same _ _ _ _ _ _ _ _ _  _ _ _ _ _ (by decide) h⟩
    · obtain rfl : oPA164 p = o := Option.some.inj ho
      obtain rfl : 76 = d := Option.some.inj hd
      have q2 : a'.tmps.getD 74 undef = .bool false := hp 2 (oPA162 p) 74 (hdep 2 rfl) rfl rfl
      exact step_load rfl (wanted_on rfl (show (opsPA16 p).toArray[2]? = some (oPA162 p) from rfl) rfl q2) rfl (hF.at 13 rfl h13) (run_ldH _ _ _ _ (Mv.blk (wsPA16_mv hW) hb13 hM13)) ⟨_, rfl, rfl, wsPA16_same _ _ _ _ _ _ _ _ _  _ _ _ _ (by decide) hW, fun j u _ h => psiPA16_same _ _ _ _ _ _ _ _ _  _ _ _ _ _ (by decide) h⟩
    · obtain rfl : oPA165 p = o := Option.some.inj ho
      obtain rfl : 77 = d := Option.some.inj hd
      have q2 : a'.tmps.getD 74 undef = .bool false := hp 2 (oPA162 p) 74 (hdep 2 rfl) rfl rfl
      exact step_move rfl (wanted_on rfl (show (opsPA16 p).toArray[2]? = some (oPA162 p) from rfl) rfl q2) rfl (hF.at 15 rfl h15) ⟨_, rfl, rfl, wsPA16_same _ _ _ _ _ _ _ _ _  _ _ _ _ (by decide) hW, fun j u _ h => psiPA16_same _ _ _ _ _ _ _ _ _  _ _ _ _ _ (by decide) h⟩
    · obtain rfl : oPA166 p = o := Option.some.inj ho
      obtain rfl : 78 = d := Option.some.inj hd
      have q2 : a'.tmps.getD 74 undef = .bool false := hp 2 (oPA162 p) 74 (hdep 2 rfl) rfl rfl
      have q3 : a'.tmps.getD 75 undef = .pointer (some ⟨R, 0, none⟩) := hp 3 (oPA163 p) 75 (hdep 3 rfl) rfl rfl
      have q4 : a'.tmps.getD 76 undef = hV (k : Int) 1 := hp 4 (oPA164 p) 76 (hdep 4 rfl) rfl rfl
      have q5 : a'.tmps.getD 77 undef = .slice (some ⟨b15, 0, none⟩) s s := hp 5 (oPA165 p) 77 (hdep 5 rfl) rfl rfl
      refine step_callP rfl (wanted_on rfl (show (opsPA16 p).toArray[2]? = some (oPA162 p) from rfl) rfl q2) rfl (enters_of Try.func9 (by kernel_rfl) rfl) (show Array.map a'.eval #[.tmp 75, .tmp 76, .tmp 77] = _ from by simp only [List.map_toArray, List.map_cons, List.map_nil, Act.eval, q3, q4, q5]) ((Live.set (k : Int) 1 (some ⟨b15, 0, none⟩) s s (rep s k) (wsPA16_0 hLv hW hLi) ⟨by omega, by omega⟩ (by omega) (by simp [rep]) (by omega) (Nat.le_refl _) (wsPA16_has hHas hW hLi) (fun b o e => by cases e; exact hM15)).mono ?_)
      rintro e w'' ⟨rfl, hl, hm⟩
      rw [(pa1_fill m s k hk).2] at hl
      rw [(pa1_fill m s k hk).1]
      exact ⟨_, rfl, _, rfl, rfl, wsPA16_1 hl ((wsPA16_mv hW).trans hm), fun j u hj h => psiPA16_noworld _ _ _ _ _ _ _ _ _ hcl hLi hj h⟩
    · obtain rfl : oPA167 p = o := Option.some.inj ho
      obtain rfl : 79 = d := Option.some.inj hd
      have q2 : a'.tmps.getD 74 undef = .bool false := hp 2 (oPA162 p) 74 (hdep 2 rfl) rfl rfl
      have q6 : a'.tmps.getD 78 undef = .int .i64 0 := hp 6 (oPA166 p) 78 (hdep 6 rfl) rfl rfl
      exact step_bin rfl (wanted_on rfl (show (opsPA16 p).toArray[2]? = some (oPA162 p) from rfl) rfl q2) rfl q6 rfl (guard_int _ _ _ _ _ _ _ _ _) (run_nei _ _ _ _) ⟨_, rfl, rfl, wsPA16_same _ _ _ _ _ _ _ _ _  _ _ _ _ (by decide) hW, fun j u _ h => psiPA16_same _ _ _ _ _ _ _ _ _  _ _ _ _ _ (by decide) h⟩
    · obtain rfl : oPA168 p = o := Option.some.inj ho
      obtain rfl : 80 = d := Option.some.inj hd
      have q2 : a'.tmps.getD 74 undef = .bool false := hp 2 (oPA162 p) 74 (hdep 2 rfl) rfl rfl
      have q7 : a'.tmps.getD 79 undef = .bool false := hp 7 (oPA167 p) 79 (hdep 7 rfl) rfl rfl
      exact step_pick rfl rfl rfl q2 (show (if false = true then _ else a'.tmps.getD 79 undef) = _ from q7) ⟨_, rfl, rfl, wsPA16_same _ _ _ _ _ _ _ _ _  _ _ _ _ (by decide) hW, fun j u _ h => psiPA16_same _ _ _ _ _ _ _ _ _  _ _ _ _ _ (by decide) h⟩
    · obtain rfl : oPA169 p = o := Option.some.inj ho
      obtain rfl : 81 = d := Option.some.inj hd
      have q8 : a'.tmps.getD 80 undef = .bool false := hp 8 (oPA168 p) 80 (hdep 8 rfl) rfl rfl
      exact step_move rfl rfl rfl q8 ⟨_, rfl, rfl, wsPA16_same _ _ _ _ _ _ _ _ _  _ _ _ _ (by decide) hW, fun j u _ h => psiPA16_same _ _ _ _ _ _ _ _ _  _ _ _ _ _ (by decide) h⟩
    · obtain rfl : oPA1610 p = o := Option.some.inj ho
      obtain rfl : 82 = d := Option.some.inj hd
      have q9 : a'.tmps.getD 81 undef = .bool false := hp 9 (oPA169 p) 81 (hdep 9 rfl) rfl rfl
      exact step_move rfl (wanted_on rfl (show (opsPA16 p).toArray[9]? = some (oPA169 p) from rfl) rfl q9) rfl (hF.at 9 rfl h9) ⟨_, rfl, rfl, wsPA16_same _ _ _ _ _ _ _ _ _  _ _ _ _ (by decide) hW, fun j u _ h => psiPA16_same _ _ _ _ _ _ _ _ _  _ _ _ _ _ (by decide) h⟩
    · obtain rfl : oPA1611 p = o := Option.some.inj ho
      obtain rfl : 83 = d := Option.some.inj hd
      have q9 : a'.tmps.getD 81 undef = .bool false := hp 9 (oPA169 p) 81 (hdep 9 rfl) rfl rfl
      exact step_load rfl (wanted_on rfl (show (opsPA16 p).toArray[9]? = some (oPA169 p) from rfl) rfl q9) rfl (hF.at 13 rfl h13) (run_ldH _ _ _ _ (Mv.blk (wsPA16_mv hW) hb13 hM13)) ⟨_, rfl, rfl, wsPA16_same _ _ _ _ _ _ _ _ _  _ _ _ _ (by decide) hW, fun j u _ h => psiPA16_same _ _ _ _ _ _ _ _ _  _ _ _ _ _ (by decide) h⟩
    · obtain rfl : oPA1612 p = o := Option.some.inj ho
      obtain rfl : 84 = d := Option.some.inj hd
      have q9 : a'.tmps.getD 81 undef = .bool false := hp 9 (oPA169 p) 81 (hdep 9 rfl) rfl rfl
      exact step_move rfl (wanted_on rfl (show (opsPA16 p).toArray[9]? = some (oPA169 p) from rfl) rfl q9) rfl (hF.at 15 rfl h15) ⟨_, rfl, rfl, wsPA16_same _ _ _ _ _ _ _ _ _  _ _ _ _ (by decide) hW, fun j u _ h => psiPA16_same _ _ _ _ _ _ _ _ _  _ _ _ _ _ (by decide) h⟩
    · obtain rfl : oPA1613 p = o := Option.some.inj ho
      obtain rfl : 85 = d := Option.some.inj hd
      have q9 : a'.tmps.getD 81 undef = .bool false := hp 9 (oPA169 p) 81 (hdep 9 rfl) rfl rfl
      have h6 : L 6 = true := hcl 9 (oPA169 p) rfl (hdep 9 rfl) 8 rfl |> fun h8 => hcl 7 (oPA167 p) rfl (hcl 8 (oPA168 p) rfl h8 7 rfl) 6 rfl
      obtain ⟨hl, hm⟩ := wsPA16_2 hW h6
      have hga : Below w'.heap.size w' (w'.alloc (.cells #[.int .u8 0] 5)) := (Below.refl _ _).alloc (Nat.le_refl _) _
      exact step_run (o := oPA1613 p) (v := .slice (some ⟨w'.heap.size, 0, none⟩) 1 1) (w' := w'.alloc (.cells #[.int .u8 0] 5)) rfl (wanted_on rfl (show (opsPA16 p).toArray[9]? = some (oPA169 p) from rfl) rfl q9) (by intro c h; cases h) (by simp [Oper.about, oPA1613]) (by simp [execOp, oPA1613, run_bs0, Act.eval]) ⟨_, rfl, fun _ => ⟨w'.heap.size, rfl, World.alloc_heap_new w' _⟩, wsPA16_3 h6 (hl.grew hga).1 (hm.trans (hl.grew hga).2), fun j u hj h => psiPA16_grew _ _ _ _ _ _ _ _ _ (by decide) hga h⟩
    · obtain rfl : oPA1614 p = o := Option.some.inj ho
      obtain rfl : 86 = d := Option.some.inj hd
      have q9 : a'.tmps.getD 81 undef = .bool false := hp 9 (oPA169 p) 81 (hdep 9 rfl) rfl rfl
      have q12 : a'.tmps.getD 84 undef = .slice (some ⟨b15, 0, none⟩) s s := hp 12 (oPA1612 p) 84 (hdep 12 rfl) rfl rfl
      have q13 : (fun v w => L 15 = false → ∃ q, v = .slice (some ⟨q, 0, none⟩) 1 1 ∧ w.heap[q]? = some (.cells #[.int .u8 0] 5 (0, 0))) (a'.tmps.getD 85 undef) w' := hp 13 (oPA1613 p) 85 (hdep 13 rfl) rfl rfl
      have h6 : L 6 = true := hcl 9 (oPA169 p) rfl (hdep 9 rfl) 8 rfl |> fun h8 => hcl 7 (oPA167 p) rfl (hcl 8 (oPA168 p) rfl h8 7 rfl) 6 rfl
      obtain ⟨hl, hm⟩ := wsPA16_2 hW h6
      have h15 : L 15 = false := by
        cases h : L 15 with
        | false => rfl
        | true => have := hcl 15 (oPA1615 p) rfl h 14 rfl; rw [hLi] at this; cases this
      obtain ⟨q, hq, hqb⟩ := q13 h15
      obtain ⟨G, hG, hrun⟩ := run_app0 w' b15 q s k hs ((Mv.blk hm hrow hM15)) hqb
      have hx12 : a'.eval (.tmp 84) = .slice (some ⟨b15, 0, none⟩) s s := q12
      have hx13 : a'.eval (.tmp 85) = .slice (some ⟨q, 0, none⟩) 1 1 := hq
      have hga : Below w'.heap.size w' (w'.drew.alloc (.cells (((rep s k ++ [0]).map enc).toArray ++ Builtin.zeroCells #[.int .u8 0] (G - (s + 1))) 5)) := ((Below.refl w'.heap.size w').drew).alloc (Nat.le_refl _) _
      refine step_run (o := oPA1614 p) (v := .slice (some ⟨w'.heap.size, 0, none⟩) (s + 1) G) (w' := w'.drew.alloc (.cells (((rep s k ++ [0]).map enc).toArray ++ Builtin.zeroCells #[.int .u8 0] (G - (s + 1))) 5)) rfl (wanted_on rfl (show (opsPA16 p).toArray[9]? = some (oPA169 p) from rfl) rfl q9) (by intro c h; cases h) (by simp [Oper.about, oPA1614, resolve, Target.leads, Sem.run_pure]) (by
        unfold execOp
        simp only [oPA1614, resolve, invoke, builtin, Sem.run_bind, Sem.run_pure, Result.andThen_ok, List.map_toArray, List.map_cons, List.map_nil, hx12, hx13, hrun]) ⟨_, rfl, fun _ => ⟨w'.heap.size, G, rfl, hG, ?_, ?_⟩, wsPA16_3 h6 (hl.grew hga).1 (hm.trans (hl.grew hga).2), fun j u hj h => psiPA16_grew _ _ _ _ _ _ _ _ _ (by decide) hga h⟩
      · exact hasA_front w'.drew _ _ (by simp)
      · exact hl.own (Only.of_grew hga) (fun x hx => hx.elim (fun h => ⟨.inl h, Nat.lt_of_lt_of_le (hl.mine x h).2 hga.size⟩) (fun e => ⟨.inr (by omega), by subst e; simp⟩))
    · obtain rfl : oPA1615 p = o := Option.some.inj ho
      obtain rfl : 87 = d := Option.some.inj hd
      have q9 : a'.tmps.getD 81 undef = .bool false := hp 9 (oPA169 p) 81 (hdep 9 rfl) rfl rfl
      have q10 : a'.tmps.getD 82 undef = .pointer (some ⟨R, 0, none⟩) := hp 10 (oPA1610 p) 82 (hdep 10 rfl) rfl rfl
      have q11 : a'.tmps.getD 83 undef = hV (k : Int) 1 := hp 11 (oPA1611 p) 83 (hdep 11 rfl) rfl rfl
      have q14 : (fun v w => L 15 = false → ∃ q G, v = .slice (some ⟨q, 0, none⟩) (s + 1) G ∧ s + 1 ≤ G ∧ HasA w w.heap.size (some ⟨q, 0, none⟩) (rep s k ++ [0]) ∧ Live P w0 R (pa1 m s (k + 1)) (fun x => M x ∨ x = q) w) (a'.tmps.getD 86 undef) w' := hp 14 (oPA1614 p) 86 (hdep 14 rfl) rfl rfl
      have h6 : L 6 = true := hcl 9 (oPA169 p) rfl (hdep 9 rfl) 8 rfl |> fun h8 => hcl 7 (oPA167 p) rfl (hcl 8 (oPA168 p) rfl h8 7 rfl) 6 rfl
      obtain ⟨-, hm⟩ := wsPA16_2 hW h6
      obtain ⟨q, G, hq, hG, hh, hl⟩ := q14 hLi
      refine step_callP rfl (wanted_on rfl (show (opsPA16 p).toArray[9]? = some (oPA169 p) from rfl) rfl q9) rfl (enters_of Try.func9 (by kernel_rfl) rfl) (show Array.map a'.eval #[.tmp 82, .tmp 83, .tmp 86] = _ from by simp only [List.map_toArray, List.map_cons, List.map_nil, Act.eval, q10, q11, hq]) ((Live.set (k : Int) 1 (some ⟨q, 0, none⟩) (s + 1) G (rep s k ++ [0]) hl ⟨by omega, by omega⟩ (by omega) (by simp [rep]) (by omega) hG hh (fun b o e => by cases e; exact .inr rfl)).mono ?_)
      rintro e w'' ⟨rfl, hl2, hm2⟩
      rw [(pa1_long m s k hk).2] at hl2
      rw [(pa1_long m s k hk).1]
      exact ⟨_, rfl, _, rfl, rfl, wsPA16_3 h6 (hl2.own (Only.refl _ _) (fun x hx => ⟨.inl (.inl hx), (hl2.mine x (.inl hx)).2⟩)) (hm.trans ⟨hm2.size, fun x hx => hm2.same x (.inl hx)⟩), fun j u hj h => psiPA16_late _ _ _ _ _ _ _ _ _ h⟩
    · obtain rfl : oPA1616 p = o := Option.some.inj ho
      obtain rfl : 88 = d := Option.some.inj hd
      have q9 : a'.tmps.getD 81 undef = .bool false := hp 9 (oPA169 p) 81 (hdep 9 rfl) rfl rfl
      have q15 : a'.tmps.getD 87 undef = .int .i64 3 := hp 15 (oPA1615 p) 87 (hdep 15 rfl) rfl rfl
      exact step_bin rfl (wanted_on rfl (show (opsPA16 p).toArray[9]? = some (oPA169 p) from rfl) rfl q9) rfl q15 rfl (guard_int _ _ _ _ _ _ _ _ _) (run_nei _ _ _ _) ⟨_, rfl, rfl, wsPA16_same _ _ _ _ _ _ _ _ _  _ _ _ _ (by decide) hW, fun j u _ h => psiPA16_same _ _ _ _ _ _ _ _ _  _ _ _ _ _ (by decide) h⟩
    · obtain rfl : oPA1617 p = o := Option.some.inj ho
      obtain rfl : 89 = d := Option.some.inj hd
      have q9 : a'.tmps.getD 81 undef = .bool false := hp 9 (oPA169 p) 81 (hdep 9 rfl) rfl rfl
      have q16 : a'.tmps.getD 88 undef = .bool false := hp 16 (oPA1616 p) 88 (hdep 16 rfl) rfl rfl
      exact step_pick rfl rfl rfl q9 (show (if false = true then _ else a'.tmps.getD 88 undef) = _ from q16) ⟨_, rfl, rfl, wsPA16_same _ _ _ _ _ _ _ _ _  _ _ _ _ (by decide) hW, fun j u _ h => psiPA16_same _ _ _ _ _ _ _ _ _  _ _ _ _ _ (by decide) h⟩
    · exact absurd ((Array.getElem?_eq_some_iff.1 ho).1) (by simp [opsPA16])
  · intro L a' w' hLall hF hW hp
    have e0 : psiPA16 P w0 R M m s k b13 b15 L 0 (a'.tmps.getD 72 undef) w' := hp 0 (oPA160 p) 72 rfl rfl
    have e1 : psiPA16 P w0 R M m s k b13 b15 L 1 (a'.tmps.getD 73 undef) w' := hp 1 (oPA161 p) 73 rfl rfl
    have e2 : psiPA16 P w0 R M m s k b13 b15 L 2 (a'.tmps.getD 74 undef) w' := hp 2 (oPA162 p) 74 rfl rfl
    have e3 : psiPA16 P w0 R M m s k b13 b15 L 3 (a'.tmps.getD 75 undef) w' := hp 3 (oPA163 p) 75 rfl rfl
    have e4 : psiPA16 P w0 R M m s k b13 b15 L 4 (a'.tmps.getD 76 undef) w' := hp 4 (oPA164 p) 76 rfl rfl
    have e5 : psiPA16 P w0 R M m s k b13 b15 L 5 (a'.tmps.getD 77 undef) w' := hp 5 (oPA165 p) 77 rfl rfl
    have e6 : psiPA16 P w0 R M m s k b13 b15 L 6 (a'.tmps.getD 78 undef) w' := hp 6 (oPA166 p) 78 rfl rfl
    have e7 : psiPA16 P w0 R M m s k b13 b15 L 7 (a'.tmps.getD 79 undef) w' := hp 7 (oPA167 p) 79 rfl rfl
    have e8 : psiPA16 P w0 R M m s k b13 b15 L 8 (a'.tmps.getD 80 undef) w' := hp 8 (oPA168 p) 80 rfl rfl
    have e9 : psiPA16 P w0 R M m s k b13 b15 L 9 (a'.tmps.getD 81 undef) w' := hp 9 (oPA169 p) 81 rfl rfl
    have e10 : psiPA16 P w0 R M m s k b13 b15 L 10 (a'.tmps.getD 82 undef) w' := hp 10 (oPA1610 p) 82 rfl rfl
    have e11 : psiPA16 P w0 R M m s k b13 b15 L 11 (a'.tmps.getD 83 undef) w' := hp 11 (oPA1611 p) 83 rfl rfl
    have e12 : psiPA16 P w0 R M m s k b13 b15 L 12 (a'.tmps.getD 84 undef) w' := hp 12 (oPA1612 p) 84 rfl rfl
    have e13 : psiPA16 P w0 R M m s k b13 b15 L 13 (a'.tmps.getD 85 undef) w' := hp 13 (oPA1613 p) 85 rfl rfl
    have e14 : psiPA16 P w0 R M m s k b13 b15 L 14 (a'.tmps.getD 86 undef) w' := hp 14 (oPA1614 p) 86 rfl rfl
    have e15 : psiPA16 P w0 R M m s k b13 b15 L 15 (a'.tmps.getD 87 undef) w' := hp 15 (oPA1615 p) 87 rfl rfl
    have e16 : psiPA16 P w0 R M m s k b13 b15 L 16 (a'.tmps.getD 88 undef) w' := hp 16 (oPA1616 p) 88 rfl rfl
    have e17 : psiPA16 P w0 R M m s k b13 b15 L 17 (a'.tmps.getD 89 undef) w' := hp 17 (oPA1617 p) 89 rfl rfl
    rw [hF.puts [(72, .int .i64 0), (73, .bool false), (74, .bool false), (75, .pointer (some ⟨R, 0, none⟩)), (76, hV (k : Int) 1), (77, .slice (some ⟨b15, 0, none⟩) s s), (78, .int .i64 0), (79, .bool false), (80, .bool false), (81, .bool false), (82, .pointer (some ⟨R, 0, none⟩)), (83, hV (k : Int) 1), (84, .slice (some ⟨b15, 0, none⟩) s s), (85, a'.tmps.getD 85 undef), (86, a'.tmps.getD 86 undef), (87, .int .i64 3), (88, .bool false), (89, .bool false)] ?_ rfl (by rw [hN]; rfl)]
    · exact hQ _ _ w' trivial trivial (wsPA16_2 hW (hLall 6 (by simp [opsPA16])))
    · intro x hx
      simp only [List.mem_cons, List.not_mem_nil, or_false] at hx
      rcases hx with rfl | rfl | rfl | rfl | rfl | rfl | rfl | rfl | rfl | rfl | rfl | rfl | rfl | rfl | rfl | rfl | rfl | rfl
      · exact e0
      · exact e1
      · exact e2
      · exact e3
      · exact e4
      · exact e5
      · exact e6
      · exact e7
      · exact e8
      · exact e9
      · exact e10
      · exact e11
      · exact e12
      · exact rfl
      · exact rfl
      · exact e15
      · exact e16
      · exact e17
end Go.Proofs.Ytmpaefndkobgnaa
