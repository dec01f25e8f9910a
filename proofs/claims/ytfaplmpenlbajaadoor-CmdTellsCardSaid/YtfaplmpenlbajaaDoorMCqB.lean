/- The program's closures number and text of bytesOf: an item's bytes behind the captured ones. The last statement of the program's bytesOf: the number's bytes behind the captured ones. The program's bytesOf: a command's bytes. The program's Put: a command's bytes behind given ones. The program's batchFits: which rows of commands may be a batch. The program's Batch: a batch's bytes. -/
import Derived.Test.YtfaplmpenlbajaaDoorMCqA
import Derived.Test.YtfaplmpenlbajaaDoorSameT
import Derived.Test.YtfaplmpenlbajaaDoorVarTxt
import Derived.Test.YtfaplmpenlbajaaDoorVarInt
import Derived.Test.YtfaplmpenlbajaaDoorCmOne
import Derived.Test.YtfaplmpenlbajaaDoorConcat
-- CqO
namespace Go.Proofs.YtfaplmpenlbajaaDoor
open Go.RowKit

/-- The captured bytes: a variable's block. -/
structure OutS (B : Nat) (g : Nat) (xs : List UInt8) (W : World) : Prop where
  cell : ∃ v, W.heap[g]? = some (.cells #[v] 29 (0, 0)) ∧ W.ownsRow B 5 1 v xs.length (xs.map enc)
  base : B ≤ W.heap.size
def oO0 (p : String) : Oper := { dst := some 3, op := Op.load 29 (Operand.tmp 1), type := 29, pos := p, after := #[], guard := none }
def oO1 (p : String) (t : TypeId) : Oper := { dst := some 4, op := Op.move (Operand.tmp 0), type := t, pos := p, after := #[], guard := none }
def oO2 (p : String) (t : TypeId) (f : FuncId) : Oper := { dst := some 5, op := Op.call { callee := Callee.value (Operand.func f), args := #[Operand.const (Value.slice none 0 0), Operand.tmp 4], argTypes := #[29, t] }, type := 29, pos := p, after := #[{ on := 1, ground := Ground.data }], guard := none }
def oO3 (p : String) : Oper := { dst := some 6, op := Op.call { callee := Callee.builtin Builtin.append, args := #[Operand.tmp 3, Operand.tmp 5], argTypes := #[29, 29] }, type := 29, pos := p, after := #[{ on := 0, ground := Ground.data }, { on := 2, ground := Ground.data }, { on := 2, ground := Ground.chain }], guard := none }
def oO4 (p : String) : Oper := { dst := none, op := Op.store 29 (Operand.tmp 1) (Operand.tmp 6), type := 0, pos := p, after := #[{ on := 3, ground := Ground.data }, { on := 3, ground := Ground.chain }, { on := 0, ground := Ground.phase }, { on := 1, ground := Ground.phase }, { on := 2, ground := Ground.phase }, { on := 3, ground := Ground.phase }], guard := none }
def opsO (p : String) (t : TypeId) (f : FuncId) : List Oper := [oO0 p, oO1 p t, oO2 p t f]
theorem opsO_back (p : String) (t : TypeId) (f : FuncId) : backwards (opsO p t f ++ [oO3 p, oO4 p]) = true := by kernel_rfl
theorem opsO_slots (p : String) (t : TypeId) (f : FuncId) : slotsOk 7 (opsO p t f) = true := by kernel_rfl
theorem opsO_all (p : String) (t : TypeId) (f : FuncId) : ((List.range ((opsO p t f).length + 1)).all (hasEdge (oO4 p))) = true := by kernel_rfl
theorem opsO_pen (p : String) (t : TypeId) (f : FuncId) (L : Nat → Bool) (hcl : ∀ j o' e, (opsO p t f ++ [oO3 p, oO4 p]).toArray[j]? = some o' → L j = true → e ∈ o'.after → Region.binds .any e = true → L e.on = true) (hp : ∀ e ∈ (oO3 p).after, Region.binds .any e = true → L e.on = true) : ∀ j, j < (opsO p t f).length → L j = true := by
  have h0 : L 0 = true := hp { on := 0, ground := Ground.data } (by simp [oO3]) rfl
  have h2 : L 2 = true := hp { on := 2, ground := Ground.data } (by simp [oO3]) rfl
  have h1 : L 1 = true := hcl 2 (oO2 p t f) { on := 1, ground := Ground.data } rfl h2 (by simp [oO2]) rfl
  intro j hj
  have hj' : j < 3 := hj
  rcases j with _ | _ | _ | j
  · exact h0
  · exact h1
  · exact h2
  · omega
def psiO (v x : Value) (ys : List UInt8) : Nat → Value → World → Prop
  | 0, u, _ => u = v
  | 1, u, _ => u = x
  | 2, u, w => IsB w u ys
  | _, _, _ => True
theorem psiO_grew (v x : Value) (ys : List UInt8) : ∀ i u w w', psiO v x ys i u w → Grew w w' → psiO v x ys i u w' := by
  intro i u w w' h hg
  rcases i with _ | _ | _ | i
  · exact h
  · exact h
  · exact IsB.grew h hg
  · trivial
theorem run_ldO (w : World) (p : Addr) (v : Value) (h : w.cell? p = some v) : (Instr.loadAt 29 (.pointer (some p))).run Tryd.prog w = .ok v w := by
  simp [go_sem, h]
theorem run_stO (w : World) (b : Nat) (A' : Option Addr) (n c : Nat) (u : Value) (h : w.cell? ⟨b, 0, none⟩ = some u) (hf : w.frozen? ⟨b, 0, none⟩ = false) : (Instr.storeAt 29 (.pointer (some ⟨b, 0, none⟩)) (.slice A' n c)).run Tryd.prog w = .ok () (w.setCell ⟨b, 0, none⟩ (.slice A' n c)) := by
  simp [go_sem, h, hf]

set_option maxRecDepth 100000 in
set_option maxHeartbeats 4000000 in
theorem out_region {p : String} {t : TypeId} {f : FuncId} (B g : Nat) (v x : Value) (xs ys : List UInt8) (hx : xs.length ≤ 100000000) (hy : ys.length ≤ 2000000) (a : Act) (w : World) (Q : Exit → Act → World → Prop) (hN : a.tmps.size = 7)
    (h0 : a.tmps.getD 0 undef = x) (h1 : a.tmps.getD 1 undef = .pointer (some ⟨g, 0, none⟩)) (hg : w.heap[g]? = some (.cells #[v] 29 (0, 0))) (hown : w.ownsRow B 5 1 v xs.length (xs.map enc)) (hB : B ≤ w.heap.size)
    (hen : ∀ args w, (callFunc f args).run Tryd.prog w = .ok (.enter f args) w) (hcall : ∀ w', Calls Tryd.prog f #[.slice none 0 0, x] w' (Gives w' ys))
    (hQ : ∀ (u v' : Value) (W1 W2 : World), Grew w W1 → W2.ownsRow B 5 1 v' (xs.length + ys.length) ((xs ++ ys).map enc) → W1.grownBy W2 v.ownBlock → W2.heap[g]? = some (.cells #[v] 29 (0, 0)) → Q .normal (puts [(3, v), (4, x), (5, u), (6, v')] a) (W2.setCell ⟨g, 0, none⟩ v')) :
    (Code.region 0 (opsO p t f ++ [oO3 p, oO4 p]).toArray true).wp Tryd.prog Q a w := by
  obtain ⟨i0, hi, hz0, hz1, hz2⟩ := info_parts info5
  have hgw : g < w.heap.size := (Array.getElem?_eq_some_iff.1 hg).1
  have hc : w.cell? ⟨g, 0, none⟩ = some v := by simpa using blk_cell hg 0
  refine (wpIn_wide (n := 1)).1 (wpIn_region_two 7 hN follows (opsO_back p t f) (opsO_slots p t f) (opsO_all p t f) (opsO_pen p t f) Grew Grew.refl Grew.trans (psiO v x ys) (psiO_grew v x ys) ?_ ?_)
  · intro i o d ho hd a' w' hF hR hp
    rcases i with _ | _ | _ | i
    · obtain rfl : oO0 p = o := Option.some.inj ho
      obtain rfl : 3 = d := Option.some.inj hd
      have hx : a'.eval (.tmp 1) = .pointer (some ⟨g, 0, none⟩) := hF.at 1 rfl h1
      exact step_run (o := oO0 p) (v := v) (w' := w') rfl rfl (by intro c h; cases h) (by simp [Oper.about, oO0]) (by simp [execOp, oO0, hx, run_ldO w' _ v ((Below.cell hR.undraw (p := ⟨g, 0, none⟩) hgw).trans hc)]) ⟨_, rfl, rfl, Grew.refl _⟩
    · obtain rfl : oO1 p t = o := Option.some.inj ho
      obtain rfl : 4 = d := Option.some.inj hd
      exact step_move rfl rfl rfl (hF.at 0 rfl h0) ⟨_, rfl, rfl, Grew.refl _⟩
    · obtain rfl : oO2 p t f = o := Option.some.inj ho
      obtain rfl : 5 = d := Option.some.inj hd
      have hx : a'.tmps.getD 4 undef = x := hp 1 (oO1 p t) 4 rfl rfl rfl
      refine step_call (o := oO2 p t f) rfl rfl (xs := #[.const (.slice none 0 0), .tmp 4]) (ts := #[29, t]) rfl trivial (fun _ => by omega) hen ?_
      rw [show Array.map a'.eval #[.const (.slice none 0 0), .tmp 4] = #[.slice none 0 0, x] from by simp only [List.map_toArray, List.map_cons, List.map_nil, Act.eval, hx]]
      refine (callsIn_wide.2 (hcall w')).mono ?_
      rintro e w'' ⟨gg, L, c, rfl, ho, hb⟩
      exact ⟨_, rfl, _, rfl, IsB.own ho, hb⟩
    · exact absurd ((Array.getElem?_eq_some_iff.1 ho).1) (by simp [opsO])
  · intro a' w' hF hR hp
    have e0 : a'.tmps.getD 3 undef = v := hp 0 (oO0 p) 3 rfl rfl
    have e1 : a'.tmps.getD 4 undef = x := hp 1 (oO1 p t) 4 rfl rfl
    obtain ⟨A5, L5, c5, e2, hl5, hA5⟩ : IsB w' (a'.tmps.getD 5 undef) ys := hp 2 (oO2 p t f) 5 rfl rfl
    have hgr := hR.undraw
    have hown' := own_below hown hgr
    obtain ⟨v', W2, hrun, hown2, hg2⟩ := run_append_has (P := Tryd.prog) (w := w') B 29 29 5 i0 Tryd.underlying29 hi hz0 hz1 hz2 v xs.length xs hown' _ A5 L5 c5 ys hl5 hA5 (by omega) (Nat.le_trans hB (Below.size hgr))
    obtain ⟨A3, c3, rfl⟩ := own_form hown2
    have hx3 : a'.eval (.tmp 3) = v := e0
    have hx5 : a'.eval (.tmp 5) = .slice A5 L5 c5 := e2
    refine step_run (o := oO3 p) (v := .slice A3 (xs.length + L5) c3) (w' := W2) rfl rfl (by intro c h; cases h) (by simp [Oper.about, oO3, resolve, Target.leads, Sem.run_pure]) (by
      unfold execOp
      simp only [oO3, resolve, invoke, builtin, Sem.run_bind, Sem.run_pure, Result.andThen_ok, List.map_toArray, List.map_cons, List.map_nil, hx3, hx5, hrun]) ?_
    have hty := own_typed hown'
    have hb5' : w'.heap[g]? = some (.cells #[v] 29 (0, 0)) := SameT.grew (T := []) hgr _ _ _ (by simp) hg
    have hb52 : W2.heap[g]? = some (.cells #[v] 29 (0, 0)) := SameT.grown hg2 hty _ _ _ (by decide) hb5'
    have hx1 : (a'.put (some 6) (.slice A3 (xs.length + L5) c3)).eval (.tmp 1) = .pointer (some ⟨g, 0, none⟩) := (getD_put_ne (by decide)).trans (hF.at 1 rfl h1)
    have hx6 : (a'.put (some 6) (.slice A3 (xs.length + L5) c3)).eval (.tmp 6) = .slice A3 (xs.length + L5) c3 := getD_put_same (by rw [hF.size, hN]; decide)
    refine step_skip (o := oO4 p) (w' := W2.setCell ⟨g, 0, none⟩ (.slice A3 (xs.length + L5) c3)) rfl rfl (by intro c h; cases h) (by simp [Oper.about, oO4]) (by
      have hst := run_stO W2 g A3 (xs.length + L5) c3 v (by simpa using blk_cell hb52 0) (blk_frozen hb52 0)
      have h5x : (a'.put (oO3 p).dst (.slice A3 (xs.length + L5) c3)).eval (.tmp 1) = .pointer (some ⟨g, 0, none⟩) := hx1
      have h23x : (a'.put (oO3 p).dst (.slice A3 (xs.length + L5) c3)).eval (.tmp 6) = .slice A3 (xs.length + L5) c3 := hx6
      unfold execOp
      simp only [oO4, h5x, h23x, Sem.run_bind, hst, Result.andThen_ok]
      rfl) ?_
    have hput : a'.put (some 6) (.slice A3 (xs.length + L5) c3) = puts [(3, v), (4, x), (5, .slice A5 L5 c5), (6, .slice A3 (xs.length + L5) c3)] a := by
      have h1 := hF.puts [(3, v), (4, x), (5, .slice A5 L5 c5)] (by
        intro x hx
        simp only [List.mem_cons, List.not_mem_nil, or_false] at hx
        rcases hx with rfl | rfl | rfl
        · exact e0
        · exact e1
        · exact e2) rfl (by rw [hN]; rfl)
      conv => lhs; rw [h1]
      rfl
    show Q .normal (a'.put (some 6) (.slice A3 (xs.length + L5) c3)) _
    rw [hput]
    subst hl5
    exact hQ _ _ w' W2 hgr hown2 hg2 hb52
theorem OutS.of {B g n : Nat} {v v' : Value} {zs : List UInt8} {W : World} (hB : B ≤ W.heap.size) (hc : W.heap[g]? = some (.cells #[v] 29 (0, 0))) (ho : W.ownsRow B 5 1 v' n (zs.map enc)) : OutS B g zs (W.setCell ⟨g, 0, none⟩ v') := by
  obtain rfl := own_len ho
  refine ⟨⟨v', ?_, (SameT.set hc v').own ho (by decide)⟩, by rw [World.size_setCell]; exact hB⟩
  have := blk_set hc 0 v'
  simpa using this
theorem OutS.below {B g : Nat} {w W1 W2 : World} {v v' : Value} {n : Nat} {vs : List Value} (hb : B ≤ w.heap.size) (hBg : B ≤ g) (ho : w.ownsRow B 5 1 v n vs) (hg : Grew w W1) (hgr : W1.grownBy W2 v.ownBlock) : Below B w (W2.setCell ⟨g, 0, none⟩ v') := by
  have h1 : Below B w W1 := Below.mono hg hb
  have h2 : Below B w W2 := h1.grown hgr (Nat.le_trans hb (Below.size hg)) (fun k e => (ho.lt k e).1)
  exact h2.setCell hBg _
set_option maxRecDepth 100000 in
set_option maxHeartbeats 2000000 in
theorem number_any (B g : Nat) (xs : List UInt8) (m : Nat) (hm : m < 18446744073709551616) (hlen : xs.length ≤ 100000000) (w : World) (hBg : B ≤ g) (h : OutS B g xs w) :
    Calls Tryd.prog 46 #[.int .u64 (m : Int), .pointer (some ⟨g, 0, none⟩)] w fun e W' => e = .returned (.tuple #[]) ∧ OutS B g (xs ++ vb m) W' ∧ Below B w W' := by
  obtain ⟨v, hc, ho⟩ := h.cell
  have hb := h.base
  have hv := vb_len10 hm
  go_enter Tryd.func46, Tryd.ntmps46
  refine out_region B g v (.int .u64 (m : Int)) xs (vb m) hlen (by omega) _ w _ rfl rfl rfl hc ho hb (enters_of Tryd.func24 (by kernel_rfl) rfl) (fun w' => by simpa using Uint_any none [] 0 0 m rfl hm (by simp) w' (HasA.nil _ _ _)) ?_
  intro u v' W1 W2 hg hown hgr hc2
  simp only [puts, List.foldl_cons, List.foldl_nil, Act.put, List.setIfInBounds_toArray, List.set_cons_succ, List.set_cons_zero]
  go_end0
  exact ⟨rfl, OutS.of (Nat.le_trans hb (Nat.le_trans (Below.size hg) hgr.size)) hc2 hown, OutS.below hb hBg ho hg hgr⟩
set_option maxRecDepth 100000 in
set_option maxHeartbeats 2000000 in
theorem text_any (B g : Nat) (xs : List UInt8) (s : ByteArray) (hs : s.size ≤ 1000000) (hlen : xs.length ≤ 100000000) (w : World) (hBg : B ≤ g) (h : OutS B g xs w) :
    Calls Tryd.prog 47 #[.string s, .pointer (some ⟨g, 0, none⟩)] w fun e W' => e = .returned (.tuple #[]) ∧ OutS B g (xs ++ txt s) W' ∧ Below B w W' := by
  obtain ⟨v, hc, ho⟩ := h.cell
  have hb := h.base
  have hv := txt_len hs
  go_enter Tryd.func47, Tryd.ntmps47
  refine out_region B g v (.string s) xs (txt s) hlen (by omega) _ w _ rfl rfl rfl hc ho hb (enters_of Tryd.func48 (by kernel_rfl) rfl) (fun w' => by simpa [txt] using Text_any none [] 0 0 rfl s hs (by simp) w' (HasA.nil _ _ _)) ?_
  intro u v' W1 W2 hg hown hgr hc2
  simp only [puts, List.foldl_cons, List.foldl_nil, Act.put, List.setIfInBounds_toArray, List.set_cons_succ, List.set_cons_zero]
  go_end0
  exact ⟨rfl, OutS.of (Nat.le_trans hb (Nat.le_trans (Below.size hg) hgr.size)) hc2 hown, OutS.below hb hBg ho hg hgr⟩
end Go.Proofs.YtfaplmpenlbajaaDoor

-- CqP
namespace Go.Proofs.YtfaplmpenlbajaaDoor
open Go.RowKit

def oP0 (p : String) : Oper := { dst := some 50, op := Op.load 29 (Operand.tmp 3), type := 29, pos := p, after := #[], guard := none }
def oP1 (p : String) : Oper := { dst := some 51, op := Op.fieldAddr 26 (Operand.tmp 1) 6, type := 0, pos := p, after := #[], guard := none }
def oP2 (p : String) : Oper := { dst := some 52, op := Op.load 2 (Operand.tmp 51), type := 2, pos := p, after := #[{ on := 1, ground := Ground.data }], guard := none }
def oP3 (p : String) : Oper := { dst := some 53, op := Op.call { callee := Callee.value (Operand.func 49), args := #[Operand.const (Value.slice none 0 0), Operand.tmp 52], argTypes := #[29, 2] }, type := 29, pos := p, after := #[{ on := 2, ground := Ground.data }], guard := none }
def oP4 (p : String) : Oper := { dst := some 54, op := Op.call { callee := Callee.builtin Builtin.append, args := #[Operand.tmp 50, Operand.tmp 53], argTypes := #[29, 29] }, type := 29, pos := p, after := #[{ on := 0, ground := Ground.data }, { on := 3, ground := Ground.data }, { on := 3, ground := Ground.chain }], guard := none }
def oP5 (p : String) : Oper := { dst := some 2, op := Op.assign (Operand.tmp 54), type := 29, pos := p, after := #[{ on := 4, ground := Ground.data }, { on := 4, ground := Ground.chain }, { on := 0, ground := Ground.phase }, { on := 1, ground := Ground.phase }, { on := 2, ground := Ground.phase }, { on := 3, ground := Ground.phase }, { on := 4, ground := Ground.phase }], guard := none }
def opsP (p : String) : List Oper := [oP0 p, oP1 p, oP2 p, oP3 p]
theorem opsP_back (p : String) : backwards (opsP p ++ [oP4 p, oP5 p]) = true := by kernel_rfl
theorem opsP_slots (p : String) : slotsOk 55 (opsP p) = true := by kernel_rfl
theorem opsP_all (p : String) : ((List.range ((opsP p).length + 1)).all (hasEdge (oP5 p))) = true := by kernel_rfl
theorem opsP_pen (p : String) (L : Nat → Bool) (hcl : ∀ j o' e, (opsP p ++ [oP4 p, oP5 p]).toArray[j]? = some o' → L j = true → e ∈ o'.after → Region.binds .any e = true → L e.on = true) (hp : ∀ e ∈ (oP4 p).after, Region.binds .any e = true → L e.on = true) : ∀ j, j < (opsP p).length → L j = true := by
  have h0 : L 0 = true := hp { on := 0, ground := Ground.data } (by simp [oP4]) rfl
  have h3 : L 3 = true := hp { on := 3, ground := Ground.data } (by simp [oP4]) rfl
  have h2 : L 2 = true := hcl 3 (oP3 p) { on := 2, ground := Ground.data } rfl h3 (by simp [oP3]) rfl
  have h1 : L 1 = true := hcl 2 (oP2 p) { on := 1, ground := Ground.data } rfl h2 (by simp [oP2]) rfl
  intro j hj
  have hj' : j < 4 := hj
  rcases j with _ | _ | _ | _ | j
  · exact h0
  · exact h1
  · exact h2
  · exact h3
  · omega
def psiP (c : Nat) (v : Value) (m : Int) (ys : List UInt8) : Nat → Value → World → Prop
  | 0, u, _ => u = v
  | 1, u, _ => u = .pointer (some ⟨c, 6, none⟩)
  | 2, u, _ => u = .int .i64 m
  | 3, u, w => IsB w u ys
  | _, _, _ => True
theorem psiP_grew (c : Nat) (v : Value) (m : Int) (ys : List UInt8) : ∀ i u w w', psiP c v m ys i u w → Grew w w' → psiP c v m ys i u w' := by
  intro i u w w' h hg
  rcases i with _ | _ | _ | _ | i
  · exact h
  · exact h
  · exact h
  · exact IsB.grew h hg
  · trivial
theorem run_fld6 (w : World) (c : Nat) : (Instr.fieldAt 26 (.pointer (some ⟨c, 0, none⟩)) 6).run Tryd.prog w = .ok (.pointer (some ⟨c, 6, none⟩)) w := by
  simp [go_sem]
theorem run_ld64 (w : World) (p : Addr) (v : Value) (h : w.cell? p = some v) : (Instr.loadAt 2 (.pointer (some p))).run Tryd.prog w = .ok v w := by
  simp [go_sem, h]

set_option maxRecDepth 100000 in
set_option maxHeartbeats 4000000 in
theorem last_region {p : String} (B g c : Nat) (v : Value) (m : Int) (xs ys : List UInt8) (hx : xs.length ≤ 100000000) (hy : ys.length ≤ 2000000) (a : Act) (w : World) (Q : Exit → Act → World → Prop) (hN : a.tmps.size = 55)
    (h1 : a.tmps.getD 1 undef = .pointer (some ⟨c, 0, none⟩)) (h3 : a.tmps.getD 3 undef = .pointer (some ⟨g, 0, none⟩)) (hg : w.heap[g]? = some (.cells #[v] 29 (0, 0))) (hm : w.cell? ⟨c, 6, none⟩ = some (.int .i64 m)) (hcw : c < w.heap.size)
    (hown : w.ownsRow B 5 1 v xs.length (xs.map enc)) (hB : B ≤ w.heap.size) (hcall : ∀ w', Calls Tryd.prog 49 #[.slice none 0 0, .int .i64 m] w' (Gives w' ys))
    (hQ : ∀ (u v' : Value) (W1 W2 : World), Grew w W1 → W2.ownsRow B 5 1 v' (xs.length + ys.length) ((xs ++ ys).map enc) → W1.grownBy W2 v.ownBlock → Q .normal (puts [(50, v), (51, .pointer (some ⟨c, 6, none⟩)), (52, .int .i64 m), (53, u), (54, v'), (2, v')] a) W2) :
    (Code.region 15 (opsP p ++ [oP4 p, oP5 p]).toArray true).wp Tryd.prog Q a w := by
  obtain ⟨i0, hi, hz0, hz1, hz2⟩ := info_parts info5
  have hgw : g < w.heap.size := (Array.getElem?_eq_some_iff.1 hg).1
  have hc : w.cell? ⟨g, 0, none⟩ = some v := by simpa using blk_cell hg 0
  refine (wpIn_wide (n := 1)).1 (wpIn_region_two 55 hN follows (opsP_back p) (opsP_slots p) (opsP_all p) (opsP_pen p) Grew Grew.refl Grew.trans (psiP c v m ys) (psiP_grew c v m ys) ?_ ?_)
  · intro i o d ho hd a' w' hF hR hp
    rcases i with _ | _ | _ | _ | i
    · obtain rfl : oP0 p = o := Option.some.inj ho
      obtain rfl : 50 = d := Option.some.inj hd
      have hx : a'.eval (.tmp 3) = .pointer (some ⟨g, 0, none⟩) := hF.at 3 rfl h3
      exact step_run (o := oP0 p) (v := v) (w' := w') rfl rfl (by intro c h; cases h) (by simp [Oper.about, oP0]) (by simp [execOp, oP0, hx, run_ldO w' _ v ((Below.cell hR.undraw (p := ⟨g, 0, none⟩) hgw).trans hc)]) ⟨_, rfl, rfl, Grew.refl _⟩
    · obtain rfl : oP1 p = o := Option.some.inj ho
      obtain rfl : 51 = d := Option.some.inj hd
      have hx : a'.eval (.tmp 1) = .pointer (some ⟨c, 0, none⟩) := hF.at 1 rfl h1
      exact step_run (o := oP1 p) (v := .pointer (some ⟨c, 6, none⟩)) (w' := w') rfl rfl (by intro c h; cases h) (by simp [Oper.about, oP1]) (by simp [execOp, oP1, hx, run_fld6 w' c]) ⟨_, rfl, rfl, Grew.refl _⟩
    · obtain rfl : oP2 p = o := Option.some.inj ho
      obtain rfl : 52 = d := Option.some.inj hd
      have hx : a'.eval (.tmp 51) = .pointer (some ⟨c, 6, none⟩) := hp 1 (oP1 p) 51 rfl rfl rfl
      exact step_run (o := oP2 p) (v := .int .i64 m) (w' := w') rfl rfl (by intro c h; cases h) (by simp [Oper.about, oP2]) (by simp [execOp, oP2, hx, run_ld64 w' _ _ ((Below.cell hR.undraw (p := ⟨c, 6, none⟩) hcw).trans hm)]) ⟨_, rfl, rfl, Grew.refl _⟩
    · obtain rfl : oP3 p = o := Option.some.inj ho
      obtain rfl : 53 = d := Option.some.inj hd
      have hx : a'.tmps.getD 52 undef = .int .i64 m := hp 2 (oP2 p) 52 rfl rfl rfl
      refine step_call (o := oP3 p) rfl rfl (xs := #[.const (.slice none 0 0), .tmp 52]) (ts := #[29, 2]) rfl trivial (fun _ => by omega) (enters_of Tryd.func49 (by kernel_rfl) rfl) ?_
      rw [show Array.map a'.eval #[.const (.slice none 0 0), .tmp 52] = #[.slice none 0 0, .int .i64 m] from by simp only [List.map_toArray, List.map_cons, List.map_nil, Act.eval, hx]]
      refine (callsIn_wide.2 (hcall w')).mono ?_
      rintro e w'' ⟨gg, L, c, rfl, ho, hb⟩
      exact ⟨_, rfl, _, rfl, IsB.own ho, hb⟩
    · exact absurd ((Array.getElem?_eq_some_iff.1 ho).1) (by simp [opsP])
  · intro a' w' hF hR hp
    have e0 : a'.tmps.getD 50 undef = v := hp 0 (oP0 p) 50 rfl rfl
    have e1 : a'.tmps.getD 51 undef = .pointer (some ⟨c, 6, none⟩) := hp 1 (oP1 p) 51 rfl rfl
    have e2 : a'.tmps.getD 52 undef = .int .i64 m := hp 2 (oP2 p) 52 rfl rfl
    obtain ⟨A5, L5, c5, e3, hl5, hA5⟩ : IsB w' (a'.tmps.getD 53 undef) ys := hp 3 (oP3 p) 53 rfl rfl
    have hgr := hR.undraw
    have hown' := own_below hown hgr
    obtain ⟨v', W2, hrun, hown2, hg2⟩ := run_append_has (P := Tryd.prog) (w := w') B 29 29 5 i0 Tryd.underlying29 hi hz0 hz1 hz2 v xs.length xs hown' _ A5 L5 c5 ys hl5 hA5 (by omega) (Nat.le_trans hB (Below.size hgr))
    have hx3 : a'.eval (.tmp 50) = v := e0
    have hx5 : a'.eval (.tmp 53) = .slice A5 L5 c5 := e3
    refine step_run (o := oP4 p) (v := v') (w' := W2) rfl rfl (by intro c h; cases h) (by simp [Oper.about, oP4, resolve, Target.leads, Sem.run_pure]) (by
      unfold execOp
      simp only [oP4, resolve, invoke, builtin, Sem.run_bind, Sem.run_pure, Result.andThen_ok, List.map_toArray, List.map_cons, List.map_nil, hx3, hx5, hrun]) ?_
    have hx6 : (a'.put (oP4 p).dst v').eval (.tmp 54) = v' := getD_put_same (by rw [hF.size, hN]; decide)
    refine step_assign (o := oP5 p) rfl rfl rfl hx6 ?_
    have hput : a'.put (some 54) v' = puts [(50, v), (51, .pointer (some ⟨c, 6, none⟩)), (52, .int .i64 m), (53, .slice A5 L5 c5), (54, v')] a := by
      have h1 := hF.puts [(50, v), (51, .pointer (some ⟨c, 6, none⟩)), (52, .int .i64 m), (53, .slice A5 L5 c5)] (by
        intro x hx
        simp only [List.mem_cons, List.not_mem_nil, or_false] at hx
        rcases hx with rfl | rfl | rfl | rfl
        · exact e0
        · exact e1
        · exact e2
        · exact e3) rfl (by rw [hN]; rfl)
      conv => lhs; rw [h1]
      rfl
    show Q .normal ((a'.put (some 54) v').put (some 2) v') _
    rw [hput]
    subst hl5
    exact hQ (.slice A5 ys.length c5) v' w' W2 hgr hown2 hg2
end Go.Proofs.YtfaplmpenlbajaaDoor

-- CqB
namespace Go.Proofs.YtfaplmpenlbajaaDoor
open Go.RowKit

/-- The captured bytes, and what stays: blocks below the variable's. -/
def OutW (g : Nat) (W0 : World) (xs : List UInt8) (W : World) : Prop := OutS g g xs W ∧ Below g W0 W
theorem one_le {a : CmdV} (ha : a.m.Wf) (hs : a.m.Short) : a.m.one.length ≤ 70000 := by
  have h1 := vb_len10 (n := a.cl) (by have := ha.cl; simp only [CmdV.m] at this; omega)
  have h2 := vb_len10 (n := a.sq) (by have := ha.sq; simp only [CmdV.m] at this; omega)
  have h3 := vb_len10 (n := a.kd) (by have := ha.kd; simp only [CmdV.m] at this; omega)
  have hk := hs.ks
  have h4 := vb_len10 (n := a.ks.length) (by simp only [CmdV.m] at hk; omega)
  have h5 := flat_len a.ks 500 (by omega) hs.each
  have h6 := txt_le (s := a.old) (by have := hs.old; simp only [CmdV.m] at this; omega)
  have h7 := txt_le (s := a.new) (by have := hs.new; simp only [CmdV.m] at this; omega)
  have h8 := vb_len10 (n := foldN a.n) (foldN_lt ha.n.1 ha.n.2)
  have ho := hs.old
  have hn := hs.new
  simp only [CmdV.m] at hk ho hn
  have h9 : a.ks.length * (500 + 10) ≤ 100 * 510 := Nat.mul_le_mul hk (by omega)
  simp only [CM.one, CmdV.m, List.length_append]
  omega
theorem keysTo_le {l : List ByteArray} (h : ∀ k ∈ l, k.size ≤ 500) (hl : l.length ≤ 100) (j : Nat) : (keysTo l j).length ≤ 51000 := by
  have h1 := flat_len (l.take j) 500 (by omega) (fun x hx => h x (List.mem_of_mem_take hx))
  have h2 : (l.take j).length ≤ 100 := by rw [List.length_take]; omega
  have h3 : (l.take j).length * (500 + 10) ≤ 100 * 510 := Nat.mul_le_mul h2 (by omega)
  simp only [keysTo]
  omega
set_option maxRecDepth 100000 in
set_option maxHeartbeats 8000000 in
theorem bytesOf_any (a : CmdV) (w : World) (ha : a.ok w) (hs : a.m.Short) : Calls Tryd.prog 25 #[a.val] w (Gives w a.m.one) := by
  have hmf : ∀ (fn : Fn) (first cap : Array Value) (w : World), (Instr.makeFunc fn first cap).run Tryd.prog w = .ok (.func fn first cap) w := fun _ _ _ _ => rfl
  obtain ⟨acl, asq, akd, A, M, c, ks, old, new, n⟩ := a
  obtain ⟨hcl, hsq, hkd, hn64, hlen, hmx, hhas, heach, hold, hnew⟩ := ha
  obtain ⟨hks, heach5, ho5, hn5⟩ := hs
  simp only [CmdV.m] at hcl hsq hkd hn64 hlen hmx hhas heach hold hnew hks heach5 ho5 hn5
  simp only [CmdV.val, CmdV.cells, CmdV.m]
  have l1 := vb_len10 (n := acl) (by omega)
  have l2 := vb_len10 (n := asq) (by omega)
  have l3 := vb_len10 (n := akd) (by omega)
  have l4 := vb_len10 (n := M) (by omega)
  have l8 := vb_len10 (n := foldN n) (foldN_lt hn64.1 hn64.2)
  have l6 := txt_le (s := old) (by omega)
  have l7 := txt_le (s := new) (by omega)
  have LL := Lib.hid (And.intro l1 (And.intro l2 (And.intro l3 (And.intro l4 (And.intro l6 (And.intro l7 l8))))))
  have HH := Lib.hid (And.intro hhas (And.intro hlen heach5))
  have HS5 := Lib.hid (And.intro hks (And.intro ho5 hn5))
  have H64 := Lib.hid hn64
  have c1 : (acl : Int) < 4294967296 := by omega
  have c2 : (asq : Int) < 4294967296 := by omega
  have c3 : (akd : Int) < 256 := by omega
  have c4 : (M : Int) ≤ 140737488351232 := by omega
  have HC := Lib.hid (And.intro hcl (And.intro hsq (And.intro hkd hmx)))
  clear hhas hlen heach hold hnew hn64 hmx l1 l2 l3 l4 l6 l7 l8 heach5 hks ho5 hn5 hcl hsq hkd
  go_enter Tryd.func25, Tryd.ntmps25
  go_upto_region 4 with (fail)
  obtain ⟨W1, hW1⟩ : ∃ W1, W1 = (w.alloc (Obj.cells #[.int .u32 (acl : Int), .int .u32 (asq : Int), .int .u8 (akd : Int), .slice A M c, .string old, .string new, .int .i64 n] 26)).alloc (Obj.cells #[Value.slice none 0 0] 29) := ⟨_, rfl⟩
  rw [← hW1]
  obtain ⟨p, hp⟩ : ∃ p, p = w.heap.size := ⟨_, rfl⟩
  rw [← hp]
  obtain ⟨g, hg⟩ : ∃ g, g = p + 1 := ⟨_, rfl⟩
  rw [← hg]
  have hB : Below w.heap.size w W1 := by rw [hW1]; exact ((Below.refl _ w).alloc (Nat.le_refl _) _).alloc (by simp) _
  have hsz : W1.heap.size = g + 1 := by rw [hW1, hg, hp]; simp
  have k1 : W1.heap[p]? = some (.cells #[.int .u32 (acl : Int), .int .u32 (asq : Int), .int .u8 (akd : Int), .slice A M c, .string old, .string new, .int .i64 n] 26 (0, 0)) := by
    rw [hW1, hp, Below.heap_alloc _ _ _ (by simp)]; exact World.alloc_heap_new w _
  have k2 : W1.heap[g]? = some (.cells #[Value.slice none 0 0] 29 (0, 0)) := by
    have := World.alloc_heap_new (w.alloc (Obj.cells #[.int .u32 (acl : Int), .int .u32 (asq : Int), .int .u8 (akd : Int), .slice A M c, .string old, .string new, .int .i64 n] 26)) (Obj.cells #[Value.slice none 0 0] 29)
    rw [hW1, hg, hp]; simpa using this
  have FF : Hid (∀ W i u, Below g W1 W → (#[.int .u32 (acl : Int), .int .u32 (asq : Int), .int .u8 (akd : Int), .slice A M c, .string old, .string new, .int .i64 n] : Array Value)[i]? = some u → W.cell? ⟨p, i, none⟩ = some u) := Lib.hid (fun W i u hb hu => (hb.cell (p := ⟨p, i, none⟩) (by show p < g; omega)).trans (by rw [blk_cell k1 i]; simpa using hu))
  have S0 : Hid (OutS g g [] W1) := Lib.hid ⟨⟨_, k2, ⟨rfl, .inl ⟨rfl, rfl⟩⟩⟩, by omega⟩
  have BW := Lib.hid hB
  have HG := Lib.hid (And.intro hp hg)
  clear hW1 hp hg hB hsz k1 k2
  have x0 := FF.out W1 0 _ (Below.refl _ _) rfl
  go_wp2_with fail
  refine (number_any g g [] acl (by have := HC.out.1; omega) (by simp) W1 (Nat.le_refl _) S0.out).mono ?_
  rintro e V1 ⟨rfl, hs1, hb1⟩
  have S1 := Lib.hid (And.intro hs1 hb1)
  have x1 := FF.out V1 1 _ hb1 rfl
  clear hs1 hb1 x0
  go_wp2_with fail
  refine (number_any g g _ asq (by have := HC.out.2.1; omega) (by have := LL.out; simp only [List.length_append, List.length_nil]; omega) V1 (Nat.le_refl _) S1.out.1).mono ?_
  rintro e V2 ⟨rfl, hs2, hb2⟩
  have S2 := Lib.hid (And.intro hs2 (S1.out.2.trans hb2))
  have x2 := FF.out V2 2 _ S2.out.2 rfl
  clear hs2 hb2 x1
  go_wp2_with fail
  refine (number_any g g _ akd (by have := HC.out.2.2.1; omega) (by have := LL.out; simp only [List.length_append, List.length_nil]; omega) V2 (Nat.le_refl _) S2.out.1).mono ?_
  rintro e V3 ⟨rfl, hs3, hb3⟩
  have S3 := Lib.hid (And.intro hs3 (S2.out.2.trans hb3))
  have x3 := FF.out V3 3 _ S3.out.2 rfl
  clear hs3 hb3 x2
  go_wp2_with fail
  refine (number_any g g _ M (by have := HC.out.2.2.2; omega) (by have := LL.out; simp only [List.length_append, List.length_nil]; omega) V3 (Nat.le_refl _) S3.out.1).mono ?_
  rintro e V4 ⟨rfl, hs4, hb4⟩
  have S4 := Lib.hid (And.intro hs4 (S3.out.2.trans hb4))
  have x4 := FF.out V4 3 _ S4.out.2 rfl
  clear hs4 hb4 x3
  obtain ⟨hd, hhd⟩ : ∃ hd, hd = [] ++ vb acl ++ vb asq ++ vb akd ++ vb M := ⟨_, rfl⟩
  rw [← hhd] at S4
  have hdl : hd.length ≤ 40 := by rw [hhd]; have := LL.out; simp only [List.length_append, List.length_nil]; omega
  have HD := Lib.hid (And.intro hhd hdl)
  clear hhd hdl
  go_wp2
  go_loopw [7, 34] (fun v7 i wr => ∃ k : Nat, k ≤ M ∧ i = .int .i64 (k : Int) ∧ Hid (OutW g W1 (hd ++ keysTo ks k) wr)) (fun _ i _ => M - (intOf i).toNat)
  case atStart => exact ⟨0, Nat.zero_le _, rfl, Lib.hid (by simpa [keysTo, OutW] using S4.out)⟩
  case round =>
    obtain ⟨k, hk, rfl, hb⟩ := hrel
    have hkt := keysTo_le HH.out.2.2 HS5.out.1 k
    have HKT := Lib.hid hkt
    clear hkt
    by_cases hlt : k < M
    · have hki : (k : Int) < M := by omega
      have hk1 : k < ks.length := by have := HH.out.2.1; omega
      obtain ⟨bk, o1, e1, l1, f1⟩ := HH.out.1 (by rintro rfl; simp at hk1)
      subst e1
      have hbw : Below w.heap.size w wr := BW.out.trans (Below.mono hb.out.2 (by have := HG.out; omega))
      have g1 := (hbw.cell (p := ⟨bk, o1 + k, none⟩) l1).trans (f1 k hk1)
      obtain ⟨X, hX⟩ : ∃ X, X = ks[k] := ⟨_, rfl⟩
      rw [← hX] at g1
      have hXs : X.size ≤ 500 := by rw [hX]; exact HH.out.2.2 _ (List.getElem_mem hk1)
      have HX := Lib.hid (And.intro hX hXs)
      clear hX f1 hbw hXs l1
      go_wp2_with fail
      refine (text_any g g _ X (by have := HX.out.2; omega) (by have := HD.out.2; have := HKT.out; simp only [List.length_append]; omega) wr (Nat.le_refl _) hb.out.1).mono ?_
      rintro e V5 ⟨rfl, hs5, hb5⟩
      have S5 : Hid (OutW g W1 (hd ++ keysTo ks (k + 1)) V5) := Lib.hid ⟨by rw [keysTo_succ hk1, ← HX.out.1, ← List.append_assoc]; exact hs5, hb.out.2.trans hb5⟩
      clear hs5 hb5 g1
      go_wp2
      exact ⟨⟨k + 1, by omega, by congr 1, S5⟩, by simp only [intOf]; omega⟩
    · obtain rfl : k = M := by omega
      have hki : ¬ (k : Int) < k := by omega
      have y4 := FF.out wr 4 _ hb.out.2 rfl
      clear hlt x4
      go_wp2_with fail
      refine (text_any g g _ old (by have := HS5.out.2.1; omega) (by have := HD.out.2; have := HKT.out; simp only [List.length_append]; omega) wr (Nat.le_refl _) hb.out.1).mono ?_
      rintro e V6 ⟨rfl, hs6, hb6⟩
      have S6 := Lib.hid (And.intro hs6 (hb.out.2.trans hb6))
      have y5 := FF.out V6 5 _ S6.out.2 rfl
      clear hs6 hb6 y4
      go_wp2_with fail
      refine (text_any g g _ new (by have := HS5.out.2.2; omega) (by have := HD.out.2; have := HKT.out; have := LL.out; have := HS5.out; simp only [List.length_append]; omega) V6 (Nat.le_refl _) S6.out.1).mono ?_
      rintro e V7 ⟨rfl, hs7, hb7⟩
      have S7 := Lib.hid (And.intro hs7 (S6.out.2.trans hb7))
      have y6 := FF.out V7 6 _ S7.out.2 rfl
      clear hs7 hb7 y5
      go_upto_region 15 with (fail)
      obtain ⟨v, hc, ho⟩ := S7.out.1.cell
      refine last_region g g p v n _ (vb (foldN n)) (by have := HD.out.2; have := HKT.out; have := LL.out; have := HS5.out; simp only [List.length_append]; omega) (by have := LL.out; omega) _ V7 _ rfl rfl rfl hc y6 (by have := S7.out.1.base; have := HG.out; omega) ho S7.out.1.base (fun w' => by simpa using Int_any none [] 0 0 rfl n H64.out.1 H64.out.2 (by simp) w' (HasA.nil _ _ _)) ?_
      intro u v' U1 U2 hgu hown hgr
      simp only [puts, List.foldl_cons, List.foldl_nil, Act.put, List.setIfInBounds_toArray, List.set_cons_succ, List.set_cons_zero]
      have hbU : Below g W1 U2 := (S7.out.2.trans (Below.mono hgu S7.out.1.base)).grown hgr (Nat.le_trans S7.out.1.base (Below.size hgu)) (fun k e => (ho.lt k e).1)
      have hbw : Below w.heap.size w U2 := BW.out.trans (Below.mono hbU (by have := HG.out; omega))
      have hlist : (hd ++ keysTo ks k ++ txt old ++ txt new ++ vb (foldN n)) = CM.one ⟨acl, asq, akd, ks, old, new, n⟩ := by
        rw [HD.out.1, CM.one, keysTo, List.take_of_length_le (by rw [← HH.out.2.1]; exact Nat.le_refl _), HH.out.2.1]
        simp only [List.nil_append, List.append_assoc]
      rw [hlist] at hown
      obtain ⟨g2, c2', rfl, _⟩ := hown.form (by
        have : 0 < (vb (foldN n)).length := List.length_pos_iff.2 (vb_ne _)
        omega)
      have hown2 := own_base hown (base' := w.heap.size) (by have := HG.out; omega)
      have HO := Lib.hid (And.intro hown2 hbw)
      clear hown hown2 hbw hbU hlist hgr hgu
      go_wp2
      go_ret
      exact ⟨_, _, _, rfl, HO.out.1, HO.out.2⟩
end Go.Proofs.YtfaplmpenlbajaaDoor

-- CqU
namespace Go.Proofs.YtfaplmpenlbajaaDoor
open Go.RowKit

set_option maxRecDepth 100000 in
set_option maxHeartbeats 4000000 in
theorem Put_any (A : Option Addr) (L c : Nat) (bs : List UInt8) (a : CmdV) (w : World) (hL : L = bs.length) (hm : L ≤ 1000) (hA : HasA w w.heap.size A bs) (ha : a.ok w) (hs : a.m.Short) :
    Calls Tryd.prog 12 #[.slice A L c, a.val] w fun e W' => ∃ v n, e = .returned v ∧ W'.ownsRow w.heap.size 5 1 v n ((bs ++ a.m.one).map enc) ∧ Below w.heap.size w W' := by
  have hol := one_le ha.wf hs
  have hpos : 0 < a.m.one.length := by
    have : 0 < (vb (foldN a.m.n)).length := List.length_pos_iff.2 (vb_ne _)
    simp only [CM.one, List.length_append]; omega
  have HO : Hid (∀ W, Below w.heap.size w W → Calls Tryd.prog 25 #[a.val] W (Gives W a.m.one)) := Lib.hid (fun W h => bytesOf_any a W (ha.below h) hs)
  obtain ⟨one, hone⟩ : ∃ x, x = a.m.one := ⟨_, rfl⟩
  rw [← hone] at hol hpos HO ⊢
  obtain ⟨acl, asq, akd, KA, M, kc, ks, old, new, n⟩ := a
  simp only [CmdV.val, CmdV.cells] at HO ⊢
  have HL := Lib.hid (And.intro hL (And.intro hm (And.intro hol hpos)))
  have HA := Lib.hid hA
  clear hL hA ha hs hone hol hpos hm
  go_enter Tryd.func12, Tryd.ntmps12
  go_upto_region 1 with (fail)
  obtain ⟨W0, hW0⟩ : ∃ W0, W0 = w.alloc (Obj.cells #[.int .u32 (acl : Int), .int .u32 (asq : Int), .int .u8 (akd : Int), .slice KA M kc, .string old, .string new, .int .i64 n] 26) := ⟨_, rfl⟩
  rw [← hW0]
  obtain ⟨hB, k1⟩ := boxed hW0
  obtain ⟨p, hp⟩ : ∃ p, p = w.heap.size := ⟨_, rfl⟩
  rw [← hp] at k1 ⊢
  have x0 := blk_cell k1 0
  have x1 := blk_cell k1 1
  have x2 := blk_cell k1 2
  have x3 := blk_cell k1 3
  have x4 := blk_cell k1 4
  have x5 := blk_cell k1 5
  have x6 := blk_cell k1 6
  simp at x0 x1 x2 x3 x4 x5 x6
  have BW := Lib.hid hB
  have HP := Lib.hid hp
  clear hW0 hp hB k1
  go_wp2_with fail
  refine (HO.out W0 BW.out).mono ?_
  rintro e W1 ⟨g, L1, c1, rfl, hown, hb⟩
  have hl1 := own_len hown
  have O1 := Lib.hid hown
  have B1 := Lib.hid (BW.out.trans (Below.mono hb BW.out.size))
  have HL1 := Lib.hid hl1
  clear hown hb hl1 x0 x1 x2 x3 x4 x5 x6
  go_wp2_with fail
  obtain ⟨W2, hW2⟩ : ∃ W2, W2 = W1.alloc (Obj.cells #[Value.slice A L c, Value.slice (some ⟨g, 0, none⟩) L1 c1] 29) := ⟨_, rfl⟩
  rw [← hW2]
  obtain ⟨hB2, k2⟩ := boxed hW2
  have hw2 : Below w.heap.size w W2 := B1.out.trans (Below.mono hB2 B1.out.size)
  refine (Concat_any W1.heap.size 2 2 [bs, one] rfl (by omega) (by omega) (by have := HL.out; simp only [List.flatten_cons, List.flatten_nil, List.length_append, List.length_nil]; omega) (by have := HL.out; simp only [List.flatten_cons, List.flatten_nil, List.length_append, List.length_nil]; omega) W2 (Array.getElem?_eq_some_iff.1 k2).1 ?_).mono ?_
  · intro i hi
    have hi2 : i = 0 ∨ i = 1 := by simp at hi; omega
    rcases hi2 with rfl | rfl
    · exact ⟨A, L, c, by rw [blk_cell k2]; rfl, HL.out.1, HA.out.below' hw2⟩
    · exact ⟨_, L1, c1, by rw [blk_cell k2]; rfl, HL1.out, HasA.of_own (own_below O1.out hB2)⟩
  rintro e W3 ⟨g3, L3, c3, rfl, hown, hb⟩
  have HO3 := Lib.hid (And.intro (own_base hown (base' := w.heap.size) hw2.size) (hw2.trans (Below.mono hb hw2.size)))
  clear hown hb hw2 hB2 k2 hW2
  go_wp2
  go_ret
  refine ⟨_, L3, rfl, ?_, HO3.out.2⟩
  have := HO3.out.1
  simpa using this
end Go.Proofs.YtfaplmpenlbajaaDoor

-- CqF
namespace Go.Proofs.YtfaplmpenlbajaaDoor
open Go.RowKit

set_option maxRecDepth 100000 in
set_option maxHeartbeats 4000000 in
theorem invalid_any (a : CmdV) (w : World) (hT : TabQ w) (ha : a.ok w) : Calls Tryd.prog 43 #[a.val] w fun e W' => e = .returned (.bool (!a.m.may)) ∧ Below w.heap.size w W' := by
  have HK : Hid (∀ W, Below w.heap.size w W → Calls Tryd.prog 10 #[a.val] W fun e W' => e = .returned (.int .i64 ((if a.m.may then 0 else 1 : Nat) : Int)) ∧ Below W.heap.size W W') := Lib.hid (fun W h => Check_any a W (hT.grew h) (ha.below h))
  obtain ⟨b, hb⟩ : ∃ b, b = a.m.may := ⟨_, rfl⟩
  rw [← hb] at HK ⊢
  obtain ⟨acl, asq, akd, A, M, c, ks, old, new, n⟩ := a
  simp only [CmdV.val, CmdV.cells] at HK ⊢
  clear hb ha hT
  go_enter Tryd.func43, Tryd.ntmps43
  go_upto_region 1 with (fail)
  obtain ⟨W0, hW0⟩ : ∃ W0, W0 = w.alloc (Obj.cells #[.int .u32 (acl : Int), .int .u32 (asq : Int), .int .u8 (akd : Int), .slice A M c, .string old, .string new, .int .i64 n] 26) := ⟨_, rfl⟩
  rw [← hW0]
  obtain ⟨hB, k1⟩ := boxed hW0
  obtain ⟨p, hp⟩ : ∃ p, p = w.heap.size := ⟨_, rfl⟩
  rw [← hp] at k1 ⊢
  have x0 := blk_cell k1 0
  have x1 := blk_cell k1 1
  have x2 := blk_cell k1 2
  have x3 := blk_cell k1 3
  have x4 := blk_cell k1 4
  have x5 := blk_cell k1 5
  have x6 := blk_cell k1 6
  simp at x0 x1 x2 x3 x4 x5 x6
  have BW := Lib.hid hB
  have HP := Lib.hid hp
  clear hW0 hp hB k1
  go_wp2_with fail
  refine (HK.out W0 BW.out).mono ?_
  rintro e W1 ⟨rfl, hb1⟩
  have B1 := Lib.hid (BW.out.trans (Below.mono hb1 BW.out.size))
  clear hb1
  cases b
  all_goals
    go_wp2
    go_ret
    exact ⟨rfl, B1.out⟩
def mayTo (l : List CmdV) (k : Nat) : Prop := ∀ j (h : j < l.length), j < k → (l[j]).m.may = true
set_option maxRecDepth 100000 in
set_option maxHeartbeats 4000000 in
theorem index_c (A : Option Addr) (L c : Nat) (l : List CmdV) (hL : L = l.length) (hm : L ≤ 100000000) (w : World) (hT : TabQ w) (hA : HasC w A l) :
    Calls Tryd.prog 56 #[.slice A L c, .func (.func 43) #[] #[]] w fun e W' => ∃ z : Int, e = .returned (.int .i64 z) ∧ IdxP (l.any fun a => !a.m.may) z ∧ Below w.heap.size w W' := by
  have HL := Lib.hid hL
  have HA := Lib.hid hA
  have HT := Lib.hid hT
  have hLi : (L : Int) ≤ 100000000 := by omega
  clear hL hA hT hm
  go_enter Tryd.func56, Tryd.ntmps56
  go_wp2
  go_loopw [5, 8] (fun v5 i wr => ∃ k : Nat, k ≤ L ∧ i = .int .i64 (k : Int) ∧ Hid (Below w.heap.size w wr ∧ mayTo l k)) (fun _ i _ => L - (intOf i).toNat)
  case atStart => exact ⟨0, Nat.zero_le _, rfl, Lib.hid ⟨Below.refl _ _, fun j _ h => by omega⟩⟩
  case round =>
    obtain ⟨k, hk, rfl, hb⟩ := hrel
    by_cases hlt : k < L
    · have hki : (k : Int) < L := by omega
      have hk1 : k < l.length := by have := HL.out; omega
      obtain ⟨bk, o1, e1, l1, f1⟩ := HA.out (by rintro rfl; simp at hk1)
      subst e1
      have g1 := f1 k hk1
      obtain ⟨a, ha⟩ : ∃ a, a = l[k] := ⟨_, rfl⟩
      rw [← ha] at g1
      have HI : Hid (Calls Tryd.prog 43 #[a.val] wr fun e W' => e = .returned (.bool (!a.m.may)) ∧ Below wr.heap.size wr W') := Lib.hid (invalid_any a wr (HT.out.grew hb.out.1) (g1.2.below hb.out.1))
      obtain ⟨b, hbm⟩ : ∃ b, b = a.m.may := ⟨_, rfl⟩
      rw [← hbm] at HI
      have HE := Lib.hid (And.intro ha hbm)
      obtain ⟨acl, asq, akd, KA, KL, kc, ks, old, new, n⟩ := a
      simp only [CmdV.val, CmdV.cells] at HI
      have cA : ∀ i u, (#[.int .u32 (acl : Int), .int .u32 (asq : Int), .int .u8 (akd : Int), .slice KA KL kc, .string old, .string new, .int .i64 n] : Array Value)[i]? = some u → wr.cell? ⟨bk, o1 + k * 7 + i, none⟩ = some u := fun i u hu => (hb.out.1.cell (p := ⟨bk, o1 + k * 7 + i, none⟩) l1).trans (g1.1 i u hu)
      have a0 := cA 0 _ rfl
      have a1 := cA 1 _ rfl
      have a2 := cA 2 _ rfl
      have a3 := cA 3 _ rfl
      have a4 := cA 4 _ rfl
      have a5 := cA 5 _ rfl
      have a6 := cA 6 _ rfl
      simp only [Nat.add_zero] at a0
      clear cA g1 f1 ha hbm
      go_wp2_with fail
      refine HI.out.mono ?_
      rintro e W1 ⟨rfl, hb1⟩
      have B1 := Lib.hid (hb.out.1.trans (Below.mono hb1 hb.out.1.size))
      clear hb1 a0 a1 a2 a3 a4 a5 a6
      cases b with
      | false =>
        have hy : (l.any fun a => !a.m.may) = true := by
          rw [List.any_eq_true]
          exact ⟨l[k], List.getElem_mem hk1, by rw [← HE.out.1, ← HE.out.2]; rfl⟩
        have HY := Lib.hid hy
        clear hy
        go_wp2
        go_ret
        exact ⟨_, rfl, ⟨by omega, by omega, fun _ => by omega, fun h => (by rw [HY.out] at h; cases h)⟩, B1.out⟩
      | true =>
        go_wp2
        refine ⟨⟨k + 1, by omega, by congr 1, Lib.hid ⟨B1.out, fun j hj hjk => ?_⟩⟩, by simp only [intOf]; omega⟩
        rcases Nat.lt_or_ge j k with h | h
        · exact hb.out.2 j hj h
        · have : j = k := by omega
          subst this
          rw [← HE.out.1, ← HE.out.2]
    · obtain rfl : k = L := by omega
      have hki : ¬ (k : Int) < k := by omega
      have hn : (l.any fun a => !a.m.may) = false := by
        rw [List.any_eq_false]
        intro x hx
        obtain ⟨j, hj, rfl⟩ := List.getElem_of_mem hx
        simp [hb.out.2 j hj (by have := HL.out; omega)]
      have HN := Lib.hid hn
      clear hn hlt
      go_wp2
      go_ret
      exact ⟨_, rfl, ⟨by omega, by omega, fun h => (by rw [HN.out] at h; cases h), fun _ => rfl⟩, hb.out.1⟩
set_option maxRecDepth 100000 in
theorem contains_c (A : Option Addr) (L c : Nat) (l : List CmdV) (hL : L = l.length) (hm : L ≤ 100000000) (w : World) (hT : TabQ w) (hA : HasC w A l) :
    Calls Tryd.prog 44 #[.slice A L c, .func (.func 43) #[] #[]] w fun e W' => e = .returned (.bool (l.any fun a => !a.m.may)) ∧ Below w.heap.size w W' := by
  obtain ⟨b, hb⟩ : ∃ b, b = l.any fun a => !a.m.may := ⟨_, rfl⟩
  rw [← hb]
  have h := index_c A L c l hL hm w hT hA
  rw [← hb] at h
  have H := Lib.hid h
  clear hb h hL hm hT hA
  go_enter Tryd.func44, Tryd.ntmps44
  go_wp2_with fail
  refine H.out.mono ?_
  rintro e W1 ⟨z, rfl, hz, hb1⟩
  have B1 := Lib.hid hb1
  clear hb1
  cases b with
  | true =>
    have h0 := hz.yes rfl
    clear hz
    go_wp2
    go_ret
    exact ⟨rfl, B1.out⟩
  | false =>
    have h0 := hz.no rfl
    subst h0
    clear hz
    go_wp2
    go_ret
    exact ⟨rfl, B1.out⟩
open Classical in
theorem mayB_iff (l : List CmdV) : (decide (l.length ≤ 8) && !(l.any fun a => !a.m.may)) = decide (MayB (l.map CmdV.m)) := by
  rw [Bool.eq_iff_iff]
  simp only [Bool.and_eq_true, decide_eq_true_eq, Bool.not_eq_true', List.any_eq_false]
  constructor
  · rintro ⟨h1, h2⟩
    exact ⟨by simpa using h1, fun m hm => by
      obtain ⟨a, ha, rfl⟩ := List.mem_map.1 hm
      have := h2 a ha
      simpa [CM.may_iff] using this⟩
  · rintro ⟨h1, h2⟩
    refine ⟨by simpa using h1, fun a ha => ?_⟩
    have := h2 a.m (List.mem_map.2 ⟨a, ha, rfl⟩)
    simpa [CM.may_iff] using this
open Classical in
set_option maxRecDepth 100000 in
theorem batchFits_any (A : Option Addr) (L c : Nat) (l : List CmdV) (hL : L = l.length) (hm : L ≤ 100000000) (w : World) (hT : TabQ w) (hA : HasC w A l) :
    Calls Tryd.prog 23 #[.slice A L c] w fun e W' => e = .returned (.bool (decide (MayB (l.map CmdV.m)))) ∧ Below w.heap.size w W' := by
  have h := contains_c A L c l hL hm w hT hA
  rw [← mayB_iff, ← hL]
  obtain ⟨b, hb⟩ : ∃ b, b = l.any fun a => !a.m.may := ⟨_, rfl⟩
  rw [← hb] at h ⊢
  have H := Lib.hid h
  have hmi : (L : Int) ≤ 100000000 := by omega
  clear hb h hL hT hA
  by_cases h8 : L ≤ 8
  · have h8i : (L : Int) ≤ 8 := by omega
    simp only [h8, decide_true, Bool.true_and]
    clear h8 hm
    go_enter Tryd.func23, Tryd.ntmps23
    go_wp2_with (go_at_call 44; refine H.out.mono ?_; rintro e W1 ⟨rfl, hb1⟩; have B1 := Lib.hid hb1; clear hb1)
    go_ret
    exact ⟨rfl, B1.out⟩
  · have h8i : ¬ (L : Int) ≤ 8 := by omega
    simp only [h8, decide_false, Bool.false_and]
    clear h8 hm
    go_enter Tryd.func23, Tryd.ntmps23
    go_wp2
    go_ret
    exact ⟨rfl, Below.refl _ _⟩
end Go.Proofs.YtfaplmpenlbajaaDoor

-- CqA
namespace Go.Proofs.YtfaplmpenlbajaaDoor
open Go.RowKit

def onesV (l : List CmdV) (k : Nat) : List UInt8 := (l.take k).flatMap fun a => a.m.one
theorem onesV_succ {l : List CmdV} {k : Nat} (h : k < l.length) : onesV l (k + 1) = onesV l k ++ l[k].m.one := by
  unfold onesV
  rw [List.take_succ_eq_append_getElem h, List.flatMap_append]
  simp
theorem onesV_all (l : List CmdV) : vb l.length ++ onesV l l.length = batchM (l.map CmdV.m) := by
  simp [onesV, batchM, List.flatMap_map]
open Classical in
set_option maxRecDepth 100000 in
set_option maxHeartbeats 4000000 in
theorem Batch_any (A : Option Addr) (L c : Nat) (l : List CmdV) (w : World) (hT : TabQ w) (hL : L = l.length) (hm : L ≤ 100) (hA : HasC w A l) (hs : ∀ a ∈ l, a.m.Short) :
    Calls Tryd.prog 8 #[.slice A L c] w fun e W' => ∃ v, e = .returned (.tuple #[v, .int .i64 ((batchR (l.map CmdV.m)).2 : Int)]) ∧ IsBc W' v (batchR (l.map CmdV.m)).1 ∧ Below w.heap.size w W' := by
  obtain ⟨i0, hi, hz0, hz1, hz2⟩ := info_parts info5
  have HF := Lib.hid (batchFits_any A L c l hL (by omega) w hT hA)
  have HL := Lib.hid (And.intro hL hm)
  have HA := Lib.hid hA
  have HS := Lib.hid hs
  have HT := Lib.hid hT
  have hmi : (L : Int) ≤ 100 := by omega
  by_cases hM : MayB (l.map CmdV.m)
  · have hd : decide (MayB (l.map CmdV.m)) = true := by simpa using hM
    rw [batchR_ok hM]
    rw [hd] at HF
    have h8 : L ≤ 8 := by have := hM.len; rw [List.length_map] at this; omega
    have hl1 := vb_len10 (n := L) (by omega)
    have HV := Lib.hid hl1
    clear hL hA hs hT hM hd hm hl1
    go_enter Tryd.func8, Tryd.ntmps8
    go_wp2_with fail
    refine HF.out.mono ?_
    rintro e W0 ⟨rfl, hb0⟩
    have B0 := Lib.hid hb0
    clear hb0
    go_wp2_with fail
    refine (Uint_any none [] 0 0 L rfl (by omega) (by simp) W0 (HasA.nil _ _ _)).mono ?_
    rintro e W1 ⟨g1, L1, c1, rfl, hown, hb1⟩
    rw [List.nil_append] at hown
    have hl1 : L1 ≤ 10 := by have := own_len hown; have := HV.out; omega
    have O1 := Lib.hid (own_base hown (base' := w.heap.size) B0.out.size)
    have B1 := Lib.hid (B0.out.trans (Below.mono hb1 B0.out.size))
    clear hown hb1
    go_wp2
    go_loopw [4, 6, 16] (fun v4 v6 i wr => ∃ k Lk : Nat, k ≤ L ∧ i = .int .i64 (k : Int) ∧ Lk ≤ 10 + k * 70000 ∧ Hid (OneS w wr v4 Lk (vb L ++ onesV l k))) (fun _ _ i _ => L - (intOf i).toNat)
    case atStart => exact ⟨0, L1, Nat.zero_le _, rfl, by omega, Lib.hid ⟨by simpa [onesV] using O1.out, B1.out⟩⟩
    case round =>
      obtain ⟨k, Lk, hk, rfl, hLk, hb⟩ := hrel
      by_cases hlt : k < L
      · have hki : (k : Int) < L := by omega
        have hk1 : k < l.length := by have := HL.out; omega
        obtain ⟨bk, o1, e1, l1, f1⟩ := HA.out (by rintro rfl; simp at hk1)
        subst e1
        have g1 := f1 k hk1
        obtain ⟨a, ha⟩ : ∃ a, a = l[k] := ⟨_, rfl⟩
        rw [← ha] at g1
        have hsa : a.m.Short := by rw [ha]; exact HS.out _ (List.getElem_mem hk1)
        have HB : Hid (∀ W, Below wr.heap.size wr W → Calls Tryd.prog 25 #[a.val] W (Gives W a.m.one)) := Lib.hid (fun W h => bytesOf_any a W ((g1.2.below hb.out.below).below h) hsa)
        have hol := one_le (g1.2.wf) hsa
        obtain ⟨one, hone⟩ : ∃ x, x = a.m.one := ⟨_, rfl⟩
        rw [← hone] at HB hol
        have HE := Lib.hid (And.intro (And.intro ha hone) hol)
        obtain ⟨acl, asq, akd, KA, KL, kc, ks, old, new, n⟩ := a
        simp only [CmdV.val, CmdV.cells] at HB
        have cA : ∀ i u, (#[.int .u32 (acl : Int), .int .u32 (asq : Int), .int .u8 (akd : Int), .slice KA KL kc, .string old, .string new, .int .i64 n] : Array Value)[i]? = some u → wr.cell? ⟨bk, o1 + k * 7 + i, none⟩ = some u := fun i u hu => (hb.out.below.cell (p := ⟨bk, o1 + k * 7 + i, none⟩) l1).trans (g1.1 i u hu)
        have a0 := cA 0 _ rfl
        have a1 := cA 1 _ rfl
        have a2 := cA 2 _ rfl
        have a3 := cA 3 _ rfl
        have a4 := cA 4 _ rfl
        have a5 := cA 5 _ rfl
        have a6 := cA 6 _ rfl
        simp only [Nat.add_zero] at a0
        clear cA g1 f1 ha hone hol hsa
        go_upto_region 7 with (fail)
        obtain ⟨W2, hW2⟩ : ∃ W2, W2 = wr.alloc (Obj.cells #[.int .u32 (acl : Int), .int .u32 (asq : Int), .int .u8 (akd : Int), .slice KA KL kc, .string old, .string new, .int .i64 n] 26) := ⟨_, rfl⟩
        rw [← hW2]
        obtain ⟨hB, k1⟩ := boxed hW2
        obtain ⟨p, hp⟩ : ∃ p, p = wr.heap.size := ⟨_, rfl⟩
        rw [← hp] at k1 ⊢
        have x0 := blk_cell k1 0
        have x1 := blk_cell k1 1
        have x2 := blk_cell k1 2
        have x3 := blk_cell k1 3
        have x4 := blk_cell k1 4
        have x5 := blk_cell k1 5
        have x6 := blk_cell k1 6
        simp at x0 x1 x2 x3 x4 x5 x6
        have BW := Lib.hid hB
        have HP := Lib.hid hp
        clear hW2 hp hB k1 a0 a1 a2 a3 a4 a5 a6
        go_wp2_with fail
        refine (HB.out W2 BW.out).mono ?_
        rintro e W3 ⟨g3, L3, c3, rfl, hown3, hb3⟩
        have hl3 : L3 ≤ 70000 := by have := own_len hown3; have := HE.out.2; omega
        have O3 := Lib.hid hown3
        have hbr : Below wr.heap.size wr W3 := BW.out.trans (Below.mono hb3 BW.out.size)
        have OO := Lib.hid (own_below hb.out.own hbr)
        have BB := Lib.hid (hb.out.below.trans (Below.mono hbr hb.out.below.size))
        clear hown3 hb3 hbr x0 x1 x2 x3 x4 x5 x6
        go_wp2_with (at_builtin; refine wpList_append_has rfl (.tmp 20) (.tmp 22) 29 rfl w.heap.size 5 i0 Tryd.underlying29 hi hz0 hz1 hz2 _ Lk (vb L ++ onesV l k) rfl OO.out _ _ L3 c3 one rfl (own_len O3.out) (HasA.of_own O3.out) (by omega) BB.out.size ?_; intro u5 U5 hown hg; have hb2 : Below w.heap.size w U5 := BB.out.grown hg BB.out.size (fun k e => (OO.out.lt k e).1); have O5 := Lib.hid hown; have B5 := Lib.hid hb2; clear hown hg hb2)
        refine ⟨⟨k + 1, Lk + L3, by omega, by congr 1, by omega, Lib.hid ⟨?_, B5.out⟩⟩, by simp only [intOf]; omega⟩
        have h5 := O5.out
        rw [HE.out.1.2, HE.out.1.1, List.append_assoc, ← onesV_succ hk1] at h5
        exact h5
      · obtain rfl : k = L := by omega
        have hki : ¬ (k : Int) < k := by omega
        have hO := hb.out.own
        have hbB := hb.out.below
        have hlist : vb k ++ onesV l k = batchM (l.map CmdV.m) := by rw [HL.out.1]; exact onesV_all l
        rw [hlist] at hO
        obtain ⟨A9, c9, rfl⟩ := own_form hO
        have HO9 := Lib.hid (And.intro hO hbB)
        clear hO hbB hlt hlist
        go_wp2
        go_ret2
        exact ⟨_, rfl, ⟨A9, Lk, c9, rfl, own_len HO9.out.1, own_cap HO9.out.1, HasA.of_own HO9.out.1⟩, HO9.out.2⟩
  · have hd : decide (MayB (l.map CmdV.m)) = false := by simpa using hM
    rw [batchR_no hM]
    rw [hd] at HF
    clear hL hA hs hT hM hd hm
    go_enter Tryd.func8, Tryd.ntmps8
    go_wp2_with fail
    refine HF.out.mono ?_
    rintro e W0 ⟨rfl, hb0⟩
    have B0 := Lib.hid hb0
    clear hb0
    go_wp2
    go_ret2
    exact ⟨_, rfl, ⟨none, 0, 0, rfl, rfl, Nat.le_refl _, HasA.nil _ _ _⟩, B0.out⟩
end Go.Proofs.YtfaplmpenlbajaaDoor
