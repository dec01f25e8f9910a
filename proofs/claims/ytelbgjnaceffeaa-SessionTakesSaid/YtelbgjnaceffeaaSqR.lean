/- The four statements of a round of Put: the bytes of a client, a number, a code, a text behind the captured ones. -/
import Derived.Test.YtelbgjnaceffeaaSqI
import Derived.Test.YtelbgjnaceffeaaVarTxt
namespace Go.Proofs.Ytelbgjnaceffeaa
open Go.RowKit

theorem run_ldB (w : World) (p : Addr) (v : Value) (h : w.cell? p = some v) : (Instr.loadAt 22 (.pointer (some p))).run Try.prog w = .ok v w := by
  simp [go_sem, h]
theorem run_ldU (w : World) (p : Addr) (v : Value) (h : w.cell? p = some v) : (Instr.loadAt 34 (.pointer (some p))).run Try.prog w = .ok v w := by
  simp [go_sem, h]
theorem run_ldC (w : World) (p : Addr) (v : Value) (h : w.cell? p = some v) : (Instr.loadAt 5 (.pointer (some p))).run Try.prog w = .ok v w := by
  simp [go_sem, h]
theorem run_ldT (w : World) (p : Addr) (v : Value) (h : w.cell? p = some v) : (Instr.loadAt 9 (.pointer (some p))).run Try.prog w = .ok v w := by
  simp [go_sem, h]
theorem run_fdS0 (w : World) (q o : Nat) : (Instr.fieldAt 58 (.pointer (some ⟨q, o, none⟩)) 0).run Try.prog w = .ok (.pointer (some ⟨q, o, none⟩)) w := by
  first
    | kernel_rfl
    | (simp [go_sem, Instr.fieldAt]; done)
theorem run_fdS1 (w : World) (q o : Nat) : (Instr.fieldAt 58 (.pointer (some ⟨q, o, none⟩)) 1).run Try.prog w = .ok (.pointer (some ⟨q, o + 1, none⟩)) w := by
  first
    | kernel_rfl
    | (simp [go_sem, Instr.fieldAt]; done)
theorem run_fdR0 (w : World) (q o : Nat) : (Instr.fieldAt 36 (.pointer (some ⟨q, o, none⟩)) 0).run Try.prog w = .ok (.pointer (some ⟨q, o, none⟩)) w := by
  first
    | kernel_rfl
    | (simp [go_sem, Instr.fieldAt]; done)
theorem run_fdR1 (w : World) (q o : Nat) : (Instr.fieldAt 36 (.pointer (some ⟨q, o, none⟩)) 1).run Try.prog w = .ok (.pointer (some ⟨q, o + 1, none⟩)) w := by
  first
    | kernel_rfl
    | (simp [go_sem, Instr.fieldAt]; done)
theorem run_cv32 (w : World) (m : Nat) (h : m < 4294967296) : (convert 34 53 (.int .u32 (m : Int))).run Try.prog w = .ok (.int .u64 (m : Int)) w := by
  simp [go_sem, IntKind.wrap_u64]
  omega
theorem run_cv8 (w : World) (m : Nat) (h : m < 256) : (convert 5 53 (.int .u8 (m : Int))).run Try.prog w = .ok (.int .u64 (m : Int)) w := by
  simp [go_sem, IntKind.wrap_u64]
  omega
theorem run_stB (w : World) (b : Nat) (A' : Option Addr) (n c : Nat) (u : Value) (h : w.cell? ⟨b, 0, none⟩ = some u) (hf : w.frozen? ⟨b, 0, none⟩ = false) : (Instr.storeAt 22 (.pointer (some ⟨b, 0, none⟩)) (.slice A' n c)).run Try.prog w = .ok () (w.setCell ⟨b, 0, none⟩ (.slice A' n c)) := by
  simp [go_sem, h, hf]
theorem vb_short (m : Nat) (h : m < 18446744073709551616) : (vb m).length ≤ 2000000 := by
  have := vb_len10 (n := m) h
  omega

def oPa0 (p : String) : Oper := { dst := some 16, op := Op.load 22 (Operand.tmp 5), type := 22, pos := p, after := #[], guard := none }
def oPa1 (p : String) : Oper := { dst := some 17, op := Op.move (Operand.tmp 6), type := 34, pos := p, after := #[], guard := none }
def oPa2 (p : String) : Oper := { dst := some 18, op := Op.convert 34 53 (Operand.tmp 17), type := 53, pos := p, after := #[{ on := 1, ground := Ground.data }], guard := none }
def oPa3 (p : String) : Oper := { dst := some 19, op := Op.call { callee := Callee.value (Operand.func 21), args := #[Operand.const (Value.slice none 0 0), Operand.tmp 18], argTypes := #[22, 53] }, type := 22, pos := p, after := #[{ on := 2, ground := Ground.data }], guard := none }
def oPa4 (p : String) : Oper := { dst := some 20, op := Op.call { callee := Callee.builtin Builtin.append, args := #[Operand.tmp 16, Operand.tmp 19], argTypes := #[22, 22] }, type := 22, pos := p, after := #[{ on := 0, ground := Ground.data }, { on := 3, ground := Ground.data }, { on := 3, ground := Ground.chain }], guard := none }
def oPa5 (p : String) : Oper := { dst := none, op := Op.store 22 (Operand.tmp 5) (Operand.tmp 20), type := 0, pos := p, after := #[{ on := 4, ground := Ground.data }, { on := 4, ground := Ground.chain }, { on := 0, ground := Ground.phase }, { on := 1, ground := Ground.phase }, { on := 2, ground := Ground.phase }, { on := 3, ground := Ground.phase }, { on := 4, ground := Ground.phase }], guard := none }
def opsPa (p : String) : List Oper := [oPa0 p, oPa1 p, oPa2 p, oPa3 p]
theorem opsPa_back (p : String) : backwards (opsPa p ++ [oPa4 p, oPa5 p]) = true := by kernel_rfl
theorem opsPa_slots (p : String) : slotsOk 44 (opsPa p) = true := by kernel_rfl
theorem opsPa_all (p : String) : ((List.range ((opsPa p).length + 1)).all (hasEdge (oPa5 p))) = true := by kernel_rfl
theorem opsPa_pen (p : String) (L : Nat → Bool) (hcl : ∀ j o' e, (opsPa p ++ [oPa4 p, oPa5 p]).toArray[j]? = some o' → L j = true → e ∈ o'.after → Region.binds .any e = true → L e.on = true) (hp : ∀ e ∈ (oPa4 p).after, Region.binds .any e = true → L e.on = true) : ∀ j, j < (opsPa p).length → L j = true := by
  have h0 : L 0 = true := hp { on := 0, ground := Ground.data } (by simp [oPa4]) rfl
  have h3 : L 3 = true := hp { on := 3, ground := Ground.data } (by simp [oPa4]) rfl
  have h2 : L 2 = true := hcl 3 (oPa3 p) { on := 2, ground := Ground.data } rfl h3 (by simp [oPa3]) rfl
  have h1 : L 1 = true := hcl 2 (oPa2 p) { on := 1, ground := Ground.data } rfl h2 (by simp [oPa2]) rfl
  intro j hj
  have hj' : j < 4 := hj
  rcases j with _ | _ | _ | _ | j
  · exact h0
  · exact h1
  · exact h2
  · exact h3
  · omega
def psiPa (v : Value) (m : Nat) (ys : List UInt8) : Nat → Value → World → Prop
  | 0, u, _ => u = v
  | 1, u, _ => u = .int .u32 (m : Int)
  | 2, u, _ => u = .int .u64 (m : Int)
  | 3, u, w => IsB w u ys
  | _, _, _ => True
theorem psiPa_grew (v : Value) (m : Nat) (ys : List UInt8) : ∀ i u w w', psiPa v m ys i u w → Grew w w' → psiPa v m ys i u w' := by
  intro i u w w' h hg
  rcases i with _ | _ | _ | _ | i
  · exact h
  · exact h
  · exact h
  · exact IsB.grew h hg
  · trivial
set_option maxRecDepth 100000 in
set_option maxHeartbeats 4000000 in
theorem put_regionPa {p : String} (l n : Nat) (hn : 1 ≤ n) (B g : Nat) (v : Value) (m : Nat) (xs : List UInt8) (hx : xs.length ≤ 100000000) (hy : m < 4294967296) (a : Act) (w : World) (Q : Exit → Act → World → Prop) (hN : a.tmps.size = 44)
    (h0 : a.tmps.getD 6 undef = .int .u32 (m : Int)) (h1 : a.tmps.getD 5 undef = .pointer (some ⟨g, 0, none⟩)) (hg : w.heap[g]? = some (.cells #[v] 22 (0, 0))) (hown : w.ownsRow B 5 1 v xs.length (xs.map enc)) (hB : B ≤ w.heap.size)
    (hQ : ∀ (u v' : Value) (W1 W2 : World), Grew w W1 → W2.ownsRow B 5 1 v' (xs.length + (vb m).length) ((xs ++ vb m).map enc) → W1.grownBy W2 v.ownBlock → W2.heap[g]? = some (.cells #[v] 22 (0, 0)) → Q .normal (puts [(16, v), (17, .int .u32 (m : Int)), (18, .int .u64 (m : Int)), (19, u), (20, v')] a) (W2.setCell ⟨g, 0, none⟩ v')) :
    (Code.region 5 (opsPa p ++ [oPa4 p, oPa5 p]).toArray true).wpIn (Fence.wide.inRound l) n Try.prog Q a w := by
  obtain ⟨i0, hi, hz0, hz1, hz2⟩ := info_parts info5
  have hyl : (vb m).length ≤ 2000000 := vb_short m (by omega)
  have hgw : g < w.heap.size := (Array.getElem?_eq_some_iff.1 hg).1
  have hc : w.cell? ⟨g, 0, none⟩ = some v := by simpa using blk_cell hg 0
  obtain ⟨ys, hys⟩ : ∃ ys, ys = vb m := ⟨_, rfl⟩
  rw [← hys] at hQ hyl
  refine wpIn_region_two 44 hN follows (opsPa_back p) (opsPa_slots p) (opsPa_all p) (opsPa_pen p) Grew Grew.refl Grew.trans (psiPa v m ys) (psiPa_grew v m ys) ?_ ?_
  · intro i o d ho hd a' w' hF hR hp
    rcases i with _ | _ | _ | _ | i
    · obtain rfl : oPa0 p = o := Option.some.inj ho
      obtain rfl : 16 = d := Option.some.inj hd
      have hx : a'.eval (.tmp 5) = .pointer (some ⟨g, 0, none⟩) := hF.at 5 rfl h1
      exact step_run (o := oPa0 p) (v := v) (w' := w') rfl rfl (by intro c h; cases h) (by simp [Oper.about, oPa0]) (by simp [execOp, oPa0, hx, run_ldB w' _ v ((Below.cell hR.undraw (p := ⟨g, 0, none⟩) hgw).trans hc)]) ⟨_, rfl, rfl, Grew.refl _⟩
    · obtain rfl : oPa1 p = o := Option.some.inj ho
      obtain rfl : 17 = d := Option.some.inj hd
      have hx : a'.eval (.tmp 6) = .int .u32 (m : Int) := hF.at 6 rfl h0
      exact step_run (o := oPa1 p) (v := .int .u32 (m : Int)) (w' := w') rfl rfl (by intro c h; cases h) (by simp [Oper.about, oPa1]) (by simp [execOp, oPa1, hx]) ⟨_, rfl, rfl, Grew.refl _⟩
    · obtain rfl : oPa2 p = o := Option.some.inj ho
      obtain rfl : 18 = d := Option.some.inj hd
      have hx : a'.eval (.tmp 17) = .int .u32 (m : Int) := hp 1 (oPa1 p) 17 rfl rfl rfl
      exact step_run (o := oPa2 p) (v := .int .u64 (m : Int)) (w' := w') rfl rfl (by intro c h; cases h) (by simp [Oper.about, oPa2]) (by simp [execOp, oPa2, hx, run_cv32 w' m hy]) ⟨_, rfl, rfl, Grew.refl _⟩
    · obtain rfl : oPa3 p = o := Option.some.inj ho
      obtain rfl : 19 = d := Option.some.inj hd
      have hx : a'.tmps.getD 18 undef = .int .u64 (m : Int) := hp 2 (oPa2 p) 18 rfl rfl rfl
      refine step_call (o := oPa3 p) rfl rfl (xs := #[.const (.slice none 0 0), .tmp 18]) (ts := #[22, 53]) rfl trivial (fun _ => by omega) (enters_of Try.func21 (by kernel_rfl) rfl) ?_
      rw [show Array.map a'.eval #[.const (.slice none 0 0), .tmp 18] = #[.slice none 0 0, .int .u64 (m : Int)] from by simp only [List.map_toArray, List.map_cons, List.map_nil, Act.eval, hx]]
      refine (CallsIn.inRound l (callsIn_wide.2 (Uint_any none [] 0 0 m rfl (by omega) (by simp) w' (HasA.nil _ _ _)))).mono ?_
      rintro e w'' ⟨gg, L, c, rfl, ho, hb⟩
      rw [show ([] ++ vb m) = ys by rw [hys]; rfl] at ho
      exact ⟨_, rfl, _, rfl, IsB.own ho, hb⟩
    · exact absurd ((Array.getElem?_eq_some_iff.1 ho).1) (by simp [opsPa])
  · intro a' w' hF hR hp
    have e0 : a'.tmps.getD 16 undef = v := hp 0 (oPa0 p) 16 rfl rfl
    have e1 : a'.tmps.getD 17 undef = .int .u32 (m : Int) := hp 1 (oPa1 p) 17 rfl rfl
    have e2 : a'.tmps.getD 18 undef = .int .u64 (m : Int) := hp 2 (oPa2 p) 18 rfl rfl
    obtain ⟨A5, L5, c5, e3, hl5, hA5⟩ : IsB w' (a'.tmps.getD 19 undef) ys := hp 3 (oPa3 p) 19 rfl rfl
    have hgr := hR.undraw
    have hown' := own_below hown hgr
    obtain ⟨v', W2, hrun, hown2, hg2⟩ := run_append_has (P := Try.prog) (w := w') B 22 22 5 i0 Try.underlying22 hi hz0 hz1 hz2 v xs.length xs hown' _ A5 L5 c5 ys hl5 hA5 (by omega) (Nat.le_trans hB (Below.size hgr))
    obtain ⟨A3, c3, rfl⟩ := own_form hown2
    have hx3 : a'.eval (.tmp 16) = v := e0
    have hx5 : a'.eval (.tmp 19) = .slice A5 L5 c5 := e3
    refine step_run (o := oPa4 p) (v := .slice A3 (xs.length + L5) c3) (w' := W2) rfl rfl (by intro c h; cases h) (by simp [Oper.about, oPa4, resolve, Target.leads, Sem.run_pure]) (by
      unfold execOp
      simp only [oPa4, resolve, invoke, builtin, Sem.run_bind, Sem.run_pure, Result.andThen_ok, List.map_toArray, List.map_cons, List.map_nil, hx3, hx5, hrun]) ?_
    have hty := own_typed hown'
    have hb5' : w'.heap[g]? = some (.cells #[v] 22 (0, 0)) := SameT.grew (T := []) hgr _ _ _ (by simp) hg
    have hb52 : W2.heap[g]? = some (.cells #[v] 22 (0, 0)) := SameT.grown hg2 hty _ _ _ (by decide) hb5'
    have hx1 : (a'.put (some 20) (.slice A3 (xs.length + L5) c3)).eval (.tmp 5) = .pointer (some ⟨g, 0, none⟩) := (getD_put_ne (by decide)).trans (hF.at 5 rfl h1)
    have hx6 : (a'.put (some 20) (.slice A3 (xs.length + L5) c3)).eval (.tmp 20) = .slice A3 (xs.length + L5) c3 := getD_put_same (by rw [hF.size, hN]; decide)
    refine step_skip (o := oPa5 p) (w' := W2.setCell ⟨g, 0, none⟩ (.slice A3 (xs.length + L5) c3)) rfl rfl (by intro c h; cases h) (by simp [Oper.about, oPa5]) (by
      have hst := run_stB W2 g A3 (xs.length + L5) c3 v (by simpa using blk_cell hb52 0) (blk_frozen hb52 0)
      have h5x : (a'.put (oPa4 p).dst (.slice A3 (xs.length + L5) c3)).eval (.tmp 5) = .pointer (some ⟨g, 0, none⟩) := hx1
      have h23x : (a'.put (oPa4 p).dst (.slice A3 (xs.length + L5) c3)).eval (.tmp 20) = .slice A3 (xs.length + L5) c3 := hx6
      unfold execOp
      simp only [oPa5, h5x, h23x, Sem.run_bind, hst, Result.andThen_ok]
      rfl) ?_
    have hput : a'.put (some 20) (.slice A3 (xs.length + L5) c3) = puts [(16, v), (17, .int .u32 (m : Int)), (18, .int .u64 (m : Int)), (19, .slice A5 L5 c5), (20, .slice A3 (xs.length + L5) c3)] a := by
      have h1 := hF.puts [(16, v), (17, .int .u32 (m : Int)), (18, .int .u64 (m : Int)), (19, .slice A5 L5 c5)] (by
        intro x hx
        simp only [List.mem_cons, List.not_mem_nil, or_false] at hx
        rcases hx with rfl | rfl | rfl | rfl
        · exact e0
        · exact e1
        · exact e2
        · exact e3) rfl (by rw [hN]; rfl)
      conv => lhs; rw [h1]
      rfl
    show Q .normal (a'.put (some 20) (.slice A3 (xs.length + L5) c3)) _
    rw [hput]
    subst hl5
    exact hQ _ _ w' W2 hgr hown2 hg2 hb52
def oPb0 (p : String) : Oper := { dst := some 21, op := Op.load 22 (Operand.tmp 5), type := 22, pos := p, after := #[], guard := none }
def oPb1 (p : String) : Oper := { dst := some 22, op := Op.fieldAddr 58 (Operand.tmp 7) 0, type := 0, pos := p, after := #[], guard := none }
def oPb2 (p : String) : Oper := { dst := some 23, op := Op.load 34 (Operand.tmp 22), type := 34, pos := p, after := #[{ on := 1, ground := Ground.data }], guard := none }
def oPb3 (p : String) : Oper := { dst := some 24, op := Op.convert 34 53 (Operand.tmp 23), type := 53, pos := p, after := #[{ on := 2, ground := Ground.data }], guard := none }
def oPb4 (p : String) : Oper := { dst := some 25, op := Op.call { callee := Callee.value (Operand.func 21), args := #[Operand.const (Value.slice none 0 0), Operand.tmp 24], argTypes := #[22, 53] }, type := 22, pos := p, after := #[{ on := 3, ground := Ground.data }], guard := none }
def oPb5 (p : String) : Oper := { dst := some 26, op := Op.call { callee := Callee.builtin Builtin.append, args := #[Operand.tmp 21, Operand.tmp 25], argTypes := #[22, 22] }, type := 22, pos := p, after := #[{ on := 0, ground := Ground.data }, { on := 4, ground := Ground.data }, { on := 4, ground := Ground.chain }], guard := none }
def oPb6 (p : String) : Oper := { dst := none, op := Op.store 22 (Operand.tmp 5) (Operand.tmp 26), type := 0, pos := p, after := #[{ on := 5, ground := Ground.data }, { on := 5, ground := Ground.chain }, { on := 0, ground := Ground.phase }, { on := 1, ground := Ground.phase }, { on := 2, ground := Ground.phase }, { on := 3, ground := Ground.phase }, { on := 4, ground := Ground.phase }, { on := 5, ground := Ground.phase }], guard := none }
def opsPb (p : String) : List Oper := [oPb0 p, oPb1 p, oPb2 p, oPb3 p, oPb4 p]
theorem opsPb_back (p : String) : backwards (opsPb p ++ [oPb5 p, oPb6 p]) = true := by kernel_rfl
theorem opsPb_slots (p : String) : slotsOk 44 (opsPb p) = true := by kernel_rfl
theorem opsPb_all (p : String) : ((List.range ((opsPb p).length + 1)).all (hasEdge (oPb6 p))) = true := by kernel_rfl
theorem opsPb_pen (p : String) (L : Nat → Bool) (hcl : ∀ j o' e, (opsPb p ++ [oPb5 p, oPb6 p]).toArray[j]? = some o' → L j = true → e ∈ o'.after → Region.binds .any e = true → L e.on = true) (hp : ∀ e ∈ (oPb5 p).after, Region.binds .any e = true → L e.on = true) : ∀ j, j < (opsPb p).length → L j = true := by
  have h0 : L 0 = true := hp { on := 0, ground := Ground.data } (by simp [oPb5]) rfl
  have h4 : L 4 = true := hp { on := 4, ground := Ground.data } (by simp [oPb5]) rfl
  have h3 : L 3 = true := hcl 4 (oPb4 p) { on := 3, ground := Ground.data } rfl h4 (by simp [oPb4]) rfl
  have h2 : L 2 = true := hcl 3 (oPb3 p) { on := 2, ground := Ground.data } rfl h3 (by simp [oPb3]) rfl
  have h1 : L 1 = true := hcl 2 (oPb2 p) { on := 1, ground := Ground.data } rfl h2 (by simp [oPb2]) rfl
  intro j hj
  have hj' : j < 5 := hj
  rcases j with _ | _ | _ | _ | _ | j
  · exact h0
  · exact h1
  · exact h2
  · exact h3
  · exact h4
  · omega
def psiPb (v : Value) (q m : Nat) (ys : List UInt8) : Nat → Value → World → Prop
  | 0, u, _ => u = v
  | 1, u, _ => u = .pointer (some ⟨q, 0, none⟩)
  | 2, u, _ => u = .int .u32 (m : Int)
  | 3, u, _ => u = .int .u64 (m : Int)
  | 4, u, w => IsB w u ys
  | _, _, _ => True
theorem psiPb_grew (v : Value) (q m : Nat) (ys : List UInt8) : ∀ i u w w', psiPb v q m ys i u w → Grew w w' → psiPb v q m ys i u w' := by
  intro i u w w' h hg
  rcases i with _ | _ | _ | _ | _ | i
  · exact h
  · exact h
  · exact h
  · exact h
  · exact IsB.grew h hg
  · trivial
set_option maxRecDepth 100000 in
set_option maxHeartbeats 4000000 in
theorem put_regionPb {p : String} (l n : Nat) (hn : 1 ≤ n) (B g : Nat) (v : Value) (q m : Nat) (xs : List UInt8) (hx : xs.length ≤ 100000000) (hy : m < 4294967296) (a : Act) (w : World) (Q : Exit → Act → World → Prop) (hN : a.tmps.size = 44)
    (h0 : a.tmps.getD 7 undef = .pointer (some ⟨q, 0, none⟩)) (hcl : w.cell? ⟨q, 0, none⟩ = some (.int .u32 (m : Int))) (h1 : a.tmps.getD 5 undef = .pointer (some ⟨g, 0, none⟩)) (hg : w.heap[g]? = some (.cells #[v] 22 (0, 0))) (hown : w.ownsRow B 5 1 v xs.length (xs.map enc)) (hB : B ≤ w.heap.size)
    (hQ : ∀ (u v' : Value) (W1 W2 : World), Grew w W1 → W2.ownsRow B 5 1 v' (xs.length + (vb m).length) ((xs ++ vb m).map enc) → W1.grownBy W2 v.ownBlock → W2.heap[g]? = some (.cells #[v] 22 (0, 0)) → Q .normal (puts [(21, v), (22, .pointer (some ⟨q, 0, none⟩)), (23, .int .u32 (m : Int)), (24, .int .u64 (m : Int)), (25, u), (26, v')] a) (W2.setCell ⟨g, 0, none⟩ v')) :
    (Code.region 6 (opsPb p ++ [oPb5 p, oPb6 p]).toArray true).wpIn (Fence.wide.inRound l) n Try.prog Q a w := by
  obtain ⟨i0, hi, hz0, hz1, hz2⟩ := info_parts info5
  have hyl : (vb m).length ≤ 2000000 := vb_short m (by omega)
  have hgw : g < w.heap.size := (Array.getElem?_eq_some_iff.1 hg).1
  have hc : w.cell? ⟨g, 0, none⟩ = some v := by simpa using blk_cell hg 0
  have hqw : q < w.heap.size := World.block_lt_of_cell? w ⟨q, 0, none⟩ hcl
  obtain ⟨ys, hys⟩ : ∃ ys, ys = vb m := ⟨_, rfl⟩
  rw [← hys] at hQ hyl
  refine wpIn_region_two 44 hN follows (opsPb_back p) (opsPb_slots p) (opsPb_all p) (opsPb_pen p) Grew Grew.refl Grew.trans (psiPb v q m ys) (psiPb_grew v q m ys) ?_ ?_
  · intro i o d ho hd a' w' hF hR hp
    rcases i with _ | _ | _ | _ | _ | i
    · obtain rfl : oPb0 p = o := Option.some.inj ho
      obtain rfl : 21 = d := Option.some.inj hd
      have hx : a'.eval (.tmp 5) = .pointer (some ⟨g, 0, none⟩) := hF.at 5 rfl h1
      exact step_run (o := oPb0 p) (v := v) (w' := w') rfl rfl (by intro c h; cases h) (by simp [Oper.about, oPb0]) (by simp [execOp, oPb0, hx, run_ldB w' _ v ((Below.cell hR.undraw (p := ⟨g, 0, none⟩) hgw).trans hc)]) ⟨_, rfl, rfl, Grew.refl _⟩
    · obtain rfl : oPb1 p = o := Option.some.inj ho
      obtain rfl : 22 = d := Option.some.inj hd
      have hx : a'.eval (.tmp 7) = .pointer (some ⟨q, 0, none⟩) := hF.at 7 rfl h0
      exact step_run (o := oPb1 p) (v := .pointer (some ⟨q, 0, none⟩)) (w' := w') rfl rfl (by intro c h; cases h) (by simp [Oper.about, oPb1]) (by simp [execOp, oPb1, hx, run_fdS0 w' q 0]) ⟨_, rfl, rfl, Grew.refl _⟩
    · obtain rfl : oPb2 p = o := Option.some.inj ho
      obtain rfl : 23 = d := Option.some.inj hd
      have hx : a'.eval (.tmp 22) = .pointer (some ⟨q, 0, none⟩) := hp 1 (oPb1 p) 22 rfl rfl rfl
      exact step_run (o := oPb2 p) (v := .int .u32 (m : Int)) (w' := w') rfl rfl (by intro c h; cases h) (by simp [Oper.about, oPb2]) (by simp [execOp, oPb2, hx, run_ldU w' ⟨q, 0, none⟩ _ ((Below.cell hR.undraw (p := ⟨q, 0, none⟩) hqw).trans hcl)]) ⟨_, rfl, rfl, Grew.refl _⟩
    · obtain rfl : oPb3 p = o := Option.some.inj ho
      obtain rfl : 24 = d := Option.some.inj hd
      have hx : a'.eval (.tmp 23) = .int .u32 (m : Int) := hp 2 (oPb2 p) 23 rfl rfl rfl
      exact step_run (o := oPb3 p) (v := .int .u64 (m : Int)) (w' := w') rfl rfl (by intro c h; cases h) (by simp [Oper.about, oPb3]) (by simp [execOp, oPb3, hx, run_cv32 w' m hy]) ⟨_, rfl, rfl, Grew.refl _⟩
    · obtain rfl : oPb4 p = o := Option.some.inj ho
      obtain rfl : 25 = d := Option.some.inj hd
      have hx : a'.tmps.getD 24 undef = .int .u64 (m : Int) := hp 3 (oPb3 p) 24 rfl rfl rfl
      refine step_call (o := oPb4 p) rfl rfl (xs := #[.const (.slice none 0 0), .tmp 24]) (ts := #[22, 53]) rfl trivial (fun _ => by omega) (enters_of Try.func21 (by kernel_rfl) rfl) ?_
      rw [show Array.map a'.eval #[.const (.slice none 0 0), .tmp 24] = #[.slice none 0 0, .int .u64 (m : Int)] from by simp only [List.map_toArray, List.map_cons, List.map_nil, Act.eval, hx]]
      refine (CallsIn.inRound l (callsIn_wide.2 (Uint_any none [] 0 0 m rfl (by omega) (by simp) w' (HasA.nil _ _ _)))).mono ?_
      rintro e w'' ⟨gg, L, c, rfl, ho, hb⟩
      rw [show ([] ++ vb m) = ys by rw [hys]; rfl] at ho
      exact ⟨_, rfl, _, rfl, IsB.own ho, hb⟩
    · exact absurd ((Array.getElem?_eq_some_iff.1 ho).1) (by simp [opsPb])
  · intro a' w' hF hR hp
    have e0 : a'.tmps.getD 21 undef = v := hp 0 (oPb0 p) 21 rfl rfl
    have e1 : a'.tmps.getD 22 undef = .pointer (some ⟨q, 0, none⟩) := hp 1 (oPb1 p) 22 rfl rfl
    have e2 : a'.tmps.getD 23 undef = .int .u32 (m : Int) := hp 2 (oPb2 p) 23 rfl rfl
    have e3 : a'.tmps.getD 24 undef = .int .u64 (m : Int) := hp 3 (oPb3 p) 24 rfl rfl
    obtain ⟨A5, L5, c5, e4, hl5, hA5⟩ : IsB w' (a'.tmps.getD 25 undef) ys := hp 4 (oPb4 p) 25 rfl rfl
    have hgr := hR.undraw
    have hown' := own_below hown hgr
    obtain ⟨v', W2, hrun, hown2, hg2⟩ := run_append_has (P := Try.prog) (w := w') B 22 22 5 i0 Try.underlying22 hi hz0 hz1 hz2 v xs.length xs hown' _ A5 L5 c5 ys hl5 hA5 (by omega) (Nat.le_trans hB (Below.size hgr))
    obtain ⟨A3, c3, rfl⟩ := own_form hown2
    have hx3 : a'.eval (.tmp 21) = v := e0
    have hx5 : a'.eval (.tmp 25) = .slice A5 L5 c5 := e4
    refine step_run (o := oPb5 p) (v := .slice A3 (xs.length + L5) c3) (w' := W2) rfl rfl (by intro c h; cases h) (by simp [Oper.about, oPb5, resolve, Target.leads, Sem.run_pure]) (by
      unfold execOp
      simp only [oPb5, resolve, invoke, builtin, Sem.run_bind, Sem.run_pure, Result.andThen_ok, List.map_toArray, List.map_cons, List.map_nil, hx3, hx5, hrun]) ?_
    have hty := own_typed hown'
    have hb5' : w'.heap[g]? = some (.cells #[v] 22 (0, 0)) := SameT.grew (T := []) hgr _ _ _ (by simp) hg
    have hb52 : W2.heap[g]? = some (.cells #[v] 22 (0, 0)) := SameT.grown hg2 hty _ _ _ (by decide) hb5'
    have hx1 : (a'.put (some 26) (.slice A3 (xs.length + L5) c3)).eval (.tmp 5) = .pointer (some ⟨g, 0, none⟩) := (getD_put_ne (by decide)).trans (hF.at 5 rfl h1)
    have hx6 : (a'.put (some 26) (.slice A3 (xs.length + L5) c3)).eval (.tmp 26) = .slice A3 (xs.length + L5) c3 := getD_put_same (by rw [hF.size, hN]; decide)
    refine step_skip (o := oPb6 p) (w' := W2.setCell ⟨g, 0, none⟩ (.slice A3 (xs.length + L5) c3)) rfl rfl (by intro c h; cases h) (by simp [Oper.about, oPb6]) (by
      have hst := run_stB W2 g A3 (xs.length + L5) c3 v (by simpa using blk_cell hb52 0) (blk_frozen hb52 0)
      have h5x : (a'.put (oPb5 p).dst (.slice A3 (xs.length + L5) c3)).eval (.tmp 5) = .pointer (some ⟨g, 0, none⟩) := hx1
      have h23x : (a'.put (oPb5 p).dst (.slice A3 (xs.length + L5) c3)).eval (.tmp 26) = .slice A3 (xs.length + L5) c3 := hx6
      unfold execOp
      simp only [oPb6, h5x, h23x, Sem.run_bind, hst, Result.andThen_ok]
      rfl) ?_
    have hput : a'.put (some 26) (.slice A3 (xs.length + L5) c3) = puts [(21, v), (22, .pointer (some ⟨q, 0, none⟩)), (23, .int .u32 (m : Int)), (24, .int .u64 (m : Int)), (25, .slice A5 L5 c5), (26, .slice A3 (xs.length + L5) c3)] a := by
      have h1 := hF.puts [(21, v), (22, .pointer (some ⟨q, 0, none⟩)), (23, .int .u32 (m : Int)), (24, .int .u64 (m : Int)), (25, .slice A5 L5 c5)] (by
        intro x hx
        simp only [List.mem_cons, List.not_mem_nil, or_false] at hx
        rcases hx with rfl | rfl | rfl | rfl | rfl
        · exact e0
        · exact e1
        · exact e2
        · exact e3
        · exact e4) rfl (by rw [hN]; rfl)
      conv => lhs; rw [h1]
      rfl
    show Q .normal (a'.put (some 26) (.slice A3 (xs.length + L5) c3)) _
    rw [hput]
    subst hl5
    exact hQ _ _ w' W2 hgr hown2 hg2 hb52
def oPc0 (p : String) : Oper := { dst := some 27, op := Op.load 22 (Operand.tmp 5), type := 22, pos := p, after := #[], guard := none }
def oPc1 (p : String) : Oper := { dst := some 28, op := Op.fieldAddr 58 (Operand.tmp 7) 1, type := 0, pos := p, after := #[], guard := none }
def oPc2 (p : String) : Oper := { dst := some 29, op := Op.fieldAddr 36 (Operand.tmp 28) 0, type := 0, pos := p, after := #[{ on := 1, ground := Ground.data }], guard := none }
def oPc3 (p : String) : Oper := { dst := some 30, op := Op.load 5 (Operand.tmp 29), type := 5, pos := p, after := #[{ on := 2, ground := Ground.data }], guard := none }
def oPc4 (p : String) : Oper := { dst := some 31, op := Op.convert 5 53 (Operand.tmp 30), type := 53, pos := p, after := #[{ on := 3, ground := Ground.data }], guard := none }
def oPc5 (p : String) : Oper := { dst := some 32, op := Op.call { callee := Callee.value (Operand.func 21), args := #[Operand.const (Value.slice none 0 0), Operand.tmp 31], argTypes := #[22, 53] }, type := 22, pos := p, after := #[{ on := 4, ground := Ground.data }], guard := none }
def oPc6 (p : String) : Oper := { dst := some 33, op := Op.call { callee := Callee.builtin Builtin.append, args := #[Operand.tmp 27, Operand.tmp 32], argTypes := #[22, 22] }, type := 22, pos := p, after := #[{ on := 0, ground := Ground.data }, { on := 5, ground := Ground.data }, { on := 5, ground := Ground.chain }], guard := none }
def oPc7 (p : String) : Oper := { dst := none, op := Op.store 22 (Operand.tmp 5) (Operand.tmp 33), type := 0, pos := p, after := #[{ on := 6, ground := Ground.data }, { on := 6, ground := Ground.chain }, { on := 0, ground := Ground.phase }, { on := 1, ground := Ground.phase }, { on := 2, ground := Ground.phase }, { on := 3, ground := Ground.phase }, { on := 4, ground := Ground.phase }, { on := 5, ground := Ground.phase }, { on := 6, ground := Ground.phase }], guard := none }
def opsPc (p : String) : List Oper := [oPc0 p, oPc1 p, oPc2 p, oPc3 p, oPc4 p, oPc5 p]
theorem opsPc_back (p : String) : backwards (opsPc p ++ [oPc6 p, oPc7 p]) = true := by kernel_rfl
theorem opsPc_slots (p : String) : slotsOk 44 (opsPc p) = true := by kernel_rfl
theorem opsPc_all (p : String) : ((List.range ((opsPc p).length + 1)).all (hasEdge (oPc7 p))) = true := by kernel_rfl
theorem opsPc_pen (p : String) (L : Nat → Bool) (hcl : ∀ j o' e, (opsPc p ++ [oPc6 p, oPc7 p]).toArray[j]? = some o' → L j = true → e ∈ o'.after → Region.binds .any e = true → L e.on = true) (hp : ∀ e ∈ (oPc6 p).after, Region.binds .any e = true → L e.on = true) : ∀ j, j < (opsPc p).length → L j = true := by
  have h0 : L 0 = true := hp { on := 0, ground := Ground.data } (by simp [oPc6]) rfl
  have h5 : L 5 = true := hp { on := 5, ground := Ground.data } (by simp [oPc6]) rfl
  have h4 : L 4 = true := hcl 5 (oPc5 p) { on := 4, ground := Ground.data } rfl h5 (by simp [oPc5]) rfl
  have h3 : L 3 = true := hcl 4 (oPc4 p) { on := 3, ground := Ground.data } rfl h4 (by simp [oPc4]) rfl
  have h2 : L 2 = true := hcl 3 (oPc3 p) { on := 2, ground := Ground.data } rfl h3 (by simp [oPc3]) rfl
  have h1 : L 1 = true := hcl 2 (oPc2 p) { on := 1, ground := Ground.data } rfl h2 (by simp [oPc2]) rfl
  intro j hj
  have hj' : j < 6 := hj
  rcases j with _ | _ | _ | _ | _ | _ | j
  · exact h0
  · exact h1
  · exact h2
  · exact h3
  · exact h4
  · exact h5
  · omega
def psiPc (v : Value) (q m : Nat) (ys : List UInt8) : Nat → Value → World → Prop
  | 0, u, _ => u = v
  | 1, u, _ => u = .pointer (some ⟨q, 1, none⟩)
  | 2, u, _ => u = .pointer (some ⟨q, 1, none⟩)
  | 3, u, _ => u = .int .u8 (m : Int)
  | 4, u, _ => u = .int .u64 (m : Int)
  | 5, u, w => IsB w u ys
  | _, _, _ => True
theorem psiPc_grew (v : Value) (q m : Nat) (ys : List UInt8) : ∀ i u w w', psiPc v q m ys i u w → Grew w w' → psiPc v q m ys i u w' := by
  intro i u w w' h hg
  rcases i with _ | _ | _ | _ | _ | _ | i
  · exact h
  · exact h
  · exact h
  · exact h
  · exact h
  · exact IsB.grew h hg
  · trivial
set_option maxRecDepth 100000 in
set_option maxHeartbeats 4000000 in
theorem put_regionPc {p : String} (l n : Nat) (hn : 1 ≤ n) (B g : Nat) (v : Value) (q m : Nat) (xs : List UInt8) (hx : xs.length ≤ 100000000) (hy : m < 256) (a : Act) (w : World) (Q : Exit → Act → World → Prop) (hN : a.tmps.size = 44)
    (h0 : a.tmps.getD 7 undef = .pointer (some ⟨q, 0, none⟩)) (hcl : w.cell? ⟨q, 1, none⟩ = some (.int .u8 (m : Int))) (h1 : a.tmps.getD 5 undef = .pointer (some ⟨g, 0, none⟩)) (hg : w.heap[g]? = some (.cells #[v] 22 (0, 0))) (hown : w.ownsRow B 5 1 v xs.length (xs.map enc)) (hB : B ≤ w.heap.size)
    (hQ : ∀ (u v' : Value) (W1 W2 : World), Grew w W1 → W2.ownsRow B 5 1 v' (xs.length + (vb m).length) ((xs ++ vb m).map enc) → W1.grownBy W2 v.ownBlock → W2.heap[g]? = some (.cells #[v] 22 (0, 0)) → Q .normal (puts [(27, v), (28, .pointer (some ⟨q, 1, none⟩)), (29, .pointer (some ⟨q, 1, none⟩)), (30, .int .u8 (m : Int)), (31, .int .u64 (m : Int)), (32, u), (33, v')] a) (W2.setCell ⟨g, 0, none⟩ v')) :
    (Code.region 7 (opsPc p ++ [oPc6 p, oPc7 p]).toArray true).wpIn (Fence.wide.inRound l) n Try.prog Q a w := by
  obtain ⟨i0, hi, hz0, hz1, hz2⟩ := info_parts info5
  have hyl : (vb m).length ≤ 2000000 := vb_short m (by omega)
  have hgw : g < w.heap.size := (Array.getElem?_eq_some_iff.1 hg).1
  have hc : w.cell? ⟨g, 0, none⟩ = some v := by simpa using blk_cell hg 0
  have hqw : q < w.heap.size := World.block_lt_of_cell? w ⟨q, 1, none⟩ hcl
  obtain ⟨ys, hys⟩ : ∃ ys, ys = vb m := ⟨_, rfl⟩
  rw [← hys] at hQ hyl
  refine wpIn_region_two 44 hN follows (opsPc_back p) (opsPc_slots p) (opsPc_all p) (opsPc_pen p) Grew Grew.refl Grew.trans (psiPc v q m ys) (psiPc_grew v q m ys) ?_ ?_
  · intro i o d ho hd a' w' hF hR hp
    rcases i with _ | _ | _ | _ | _ | _ | i
    · obtain rfl : oPc0 p = o := Option.some.inj ho
      obtain rfl : 27 = d := Option.some.inj hd
      have hx : a'.eval (.tmp 5) = .pointer (some ⟨g, 0, none⟩) := hF.at 5 rfl h1
      exact step_run (o := oPc0 p) (v := v) (w' := w') rfl rfl (by intro c h; cases h) (by simp [Oper.about, oPc0]) (by simp [execOp, oPc0, hx, run_ldB w' _ v ((Below.cell hR.undraw (p := ⟨g, 0, none⟩) hgw).trans hc)]) ⟨_, rfl, rfl, Grew.refl _⟩
    · obtain rfl : oPc1 p = o := Option.some.inj ho
      obtain rfl : 28 = d := Option.some.inj hd
      have hx : a'.eval (.tmp 7) = .pointer (some ⟨q, 0, none⟩) := hF.at 7 rfl h0
      exact step_run (o := oPc1 p) (v := .pointer (some ⟨q, 1, none⟩)) (w' := w') rfl rfl (by intro c h; cases h) (by simp [Oper.about, oPc1]) (by simp [execOp, oPc1, hx, run_fdS1 w' q 0]) ⟨_, rfl, rfl, Grew.refl _⟩
    · obtain rfl : oPc2 p = o := Option.some.inj ho
      obtain rfl : 29 = d := Option.some.inj hd
      have hx : a'.eval (.tmp 28) = .pointer (some ⟨q, 1, none⟩) := hp 1 (oPc1 p) 28 rfl rfl rfl
      exact step_run (o := oPc2 p) (v := .pointer (some ⟨q, 1, none⟩)) (w' := w') rfl rfl (by intro c h; cases h) (by simp [Oper.about, oPc2]) (by simp [execOp, oPc2, hx, run_fdR0 w' q 1]) ⟨_, rfl, rfl, Grew.refl _⟩
    · obtain rfl : oPc3 p = o := Option.some.inj ho
      obtain rfl : 30 = d := Option.some.inj hd
      have hx : a'.eval (.tmp 29) = .pointer (some ⟨q, 1, none⟩) := hp 2 (oPc2 p) 29 rfl rfl rfl
      exact step_run (o := oPc3 p) (v := .int .u8 (m : Int)) (w' := w') rfl rfl (by intro c h; cases h) (by simp [Oper.about, oPc3]) (by simp [execOp, oPc3, hx, run_ldC w' ⟨q, 1, none⟩ _ ((Below.cell hR.undraw (p := ⟨q, 1, none⟩) hqw).trans hcl)]) ⟨_, rfl, rfl, Grew.refl _⟩
    · obtain rfl : oPc4 p = o := Option.some.inj ho
      obtain rfl : 31 = d := Option.some.inj hd
      have hx : a'.eval (.tmp 30) = .int .u8 (m : Int) := hp 3 (oPc3 p) 30 rfl rfl rfl
      exact step_run (o := oPc4 p) (v := .int .u64 (m : Int)) (w' := w') rfl rfl (by intro c h; cases h) (by simp [Oper.about, oPc4]) (by simp [execOp, oPc4, hx, run_cv8 w' m hy]) ⟨_, rfl, rfl, Grew.refl _⟩
    · obtain rfl : oPc5 p = o := Option.some.inj ho
      obtain rfl : 32 = d := Option.some.inj hd
      have hx : a'.tmps.getD 31 undef = .int .u64 (m : Int) := hp 4 (oPc4 p) 31 rfl rfl rfl
      refine step_call (o := oPc5 p) rfl rfl (xs := #[.const (.slice none 0 0), .tmp 31]) (ts := #[22, 53]) rfl trivial (fun _ => by omega) (enters_of Try.func21 (by kernel_rfl) rfl) ?_
      rw [show Array.map a'.eval #[.const (.slice none 0 0), .tmp 31] = #[.slice none 0 0, .int .u64 (m : Int)] from by simp only [List.map_toArray, List.map_cons, List.map_nil, Act.eval, hx]]
      refine (CallsIn.inRound l (callsIn_wide.2 (Uint_any none [] 0 0 m rfl (by omega) (by simp) w' (HasA.nil _ _ _)))).mono ?_
      rintro e w'' ⟨gg, L, c, rfl, ho, hb⟩
      rw [show ([] ++ vb m) = ys by rw [hys]; rfl] at ho
      exact ⟨_, rfl, _, rfl, IsB.own ho, hb⟩
    · exact absurd ((Array.getElem?_eq_some_iff.1 ho).1) (by simp [opsPc])
  · intro a' w' hF hR hp
    have e0 : a'.tmps.getD 27 undef = v := hp 0 (oPc0 p) 27 rfl rfl
    have e1 : a'.tmps.getD 28 undef = .pointer (some ⟨q, 1, none⟩) := hp 1 (oPc1 p) 28 rfl rfl
    have e2 : a'.tmps.getD 29 undef = .pointer (some ⟨q, 1, none⟩) := hp 2 (oPc2 p) 29 rfl rfl
    have e3 : a'.tmps.getD 30 undef = .int .u8 (m : Int) := hp 3 (oPc3 p) 30 rfl rfl
    have e4 : a'.tmps.getD 31 undef = .int .u64 (m : Int) := hp 4 (oPc4 p) 31 rfl rfl
    obtain ⟨A5, L5, c5, e5, hl5, hA5⟩ : IsB w' (a'.tmps.getD 32 undef) ys := hp 5 (oPc5 p) 32 rfl rfl
    have hgr := hR.undraw
    have hown' := own_below hown hgr
    obtain ⟨v', W2, hrun, hown2, hg2⟩ := run_append_has (P := Try.prog) (w := w') B 22 22 5 i0 Try.underlying22 hi hz0 hz1 hz2 v xs.length xs hown' _ A5 L5 c5 ys hl5 hA5 (by omega) (Nat.le_trans hB (Below.size hgr))
    obtain ⟨A3, c3, rfl⟩ := own_form hown2
    have hx3 : a'.eval (.tmp 27) = v := e0
    have hx5 : a'.eval (.tmp 32) = .slice A5 L5 c5 := e5
    refine step_run (o := oPc6 p) (v := .slice A3 (xs.length + L5) c3) (w' := W2) rfl rfl (by intro c h; cases h) (by simp [Oper.about, oPc6, resolve, Target.leads, Sem.run_pure]) (by
      unfold execOp
      simp only [oPc6, resolve, invoke, builtin, Sem.run_bind, Sem.run_pure, Result.andThen_ok, List.map_toArray, List.map_cons, List.map_nil, hx3, hx5, hrun]) ?_
    have hty := own_typed hown'
    have hb5' : w'.heap[g]? = some (.cells #[v] 22 (0, 0)) := SameT.grew (T := []) hgr _ _ _ (by simp) hg
    have hb52 : W2.heap[g]? = some (.cells #[v] 22 (0, 0)) := SameT.grown hg2 hty _ _ _ (by decide) hb5'
    have hx1 : (a'.put (some 33) (.slice A3 (xs.length + L5) c3)).eval (.tmp 5) = .pointer (some ⟨g, 0, none⟩) := (getD_put_ne (by decide)).trans (hF.at 5 rfl h1)
    have hx6 : (a'.put (some 33) (.slice A3 (xs.length + L5) c3)).eval (.tmp 33) = .slice A3 (xs.length + L5) c3 := getD_put_same (by rw [hF.size, hN]; decide)
    refine step_skip (o := oPc7 p) (w' := W2.setCell ⟨g, 0, none⟩ (.slice A3 (xs.length + L5) c3)) rfl rfl (by intro c h; cases h) (by simp [Oper.about, oPc7]) (by
      have hst := run_stB W2 g A3 (xs.length + L5) c3 v (by simpa using blk_cell hb52 0) (blk_frozen hb52 0)
      have h5x : (a'.put (oPc6 p).dst (.slice A3 (xs.length + L5) c3)).eval (.tmp 5) = .pointer (some ⟨g, 0, none⟩) := hx1
      have h23x : (a'.put (oPc6 p).dst (.slice A3 (xs.length + L5) c3)).eval (.tmp 33) = .slice A3 (xs.length + L5) c3 := hx6
      unfold execOp
      simp only [oPc7, h5x, h23x, Sem.run_bind, hst, Result.andThen_ok]
      rfl) ?_
    have hput : a'.put (some 33) (.slice A3 (xs.length + L5) c3) = puts [(27, v), (28, .pointer (some ⟨q, 1, none⟩)), (29, .pointer (some ⟨q, 1, none⟩)), (30, .int .u8 (m : Int)), (31, .int .u64 (m : Int)), (32, .slice A5 L5 c5), (33, .slice A3 (xs.length + L5) c3)] a := by
      have h1 := hF.puts [(27, v), (28, .pointer (some ⟨q, 1, none⟩)), (29, .pointer (some ⟨q, 1, none⟩)), (30, .int .u8 (m : Int)), (31, .int .u64 (m : Int)), (32, .slice A5 L5 c5)] (by
        intro x hx
        simp only [List.mem_cons, List.not_mem_nil, or_false] at hx
        rcases hx with rfl | rfl | rfl | rfl | rfl | rfl
        · exact e0
        · exact e1
        · exact e2
        · exact e3
        · exact e4
        · exact e5) rfl (by rw [hN]; rfl)
      conv => lhs; rw [h1]
      rfl
    show Q .normal (a'.put (some 33) (.slice A3 (xs.length + L5) c3)) _
    rw [hput]
    subst hl5
    exact hQ _ _ w' W2 hgr hown2 hg2 hb52
def oPd0 (p : String) : Oper := { dst := some 34, op := Op.load 22 (Operand.tmp 5), type := 22, pos := p, after := #[], guard := none }
def oPd1 (p : String) : Oper := { dst := some 35, op := Op.fieldAddr 58 (Operand.tmp 7) 1, type := 0, pos := p, after := #[], guard := none }
def oPd2 (p : String) : Oper := { dst := some 36, op := Op.fieldAddr 36 (Operand.tmp 35) 1, type := 0, pos := p, after := #[{ on := 1, ground := Ground.data }], guard := none }
def oPd3 (p : String) : Oper := { dst := some 37, op := Op.load 9 (Operand.tmp 36), type := 9, pos := p, after := #[{ on := 2, ground := Ground.data }], guard := none }
def oPd4 (p : String) : Oper := { dst := some 38, op := Op.call { callee := Callee.value (Operand.func 23), args := #[Operand.const (Value.slice none 0 0), Operand.tmp 37], argTypes := #[22, 9] }, type := 22, pos := p, after := #[{ on := 3, ground := Ground.data }], guard := none }
def oPd5 (p : String) : Oper := { dst := some 39, op := Op.call { callee := Callee.builtin Builtin.append, args := #[Operand.tmp 34, Operand.tmp 38], argTypes := #[22, 22] }, type := 22, pos := p, after := #[{ on := 0, ground := Ground.data }, { on := 4, ground := Ground.data }, { on := 4, ground := Ground.chain }], guard := none }
def oPd6 (p : String) : Oper := { dst := none, op := Op.store 22 (Operand.tmp 5) (Operand.tmp 39), type := 0, pos := p, after := #[{ on := 5, ground := Ground.data }, { on := 5, ground := Ground.chain }, { on := 0, ground := Ground.phase }, { on := 1, ground := Ground.phase }, { on := 2, ground := Ground.phase }, { on := 3, ground := Ground.phase }, { on := 4, ground := Ground.phase }, { on := 5, ground := Ground.phase }], guard := none }
def opsPd (p : String) : List Oper := [oPd0 p, oPd1 p, oPd2 p, oPd3 p, oPd4 p]
theorem opsPd_back (p : String) : backwards (opsPd p ++ [oPd5 p, oPd6 p]) = true := by kernel_rfl
theorem opsPd_slots (p : String) : slotsOk 44 (opsPd p) = true := by kernel_rfl
theorem opsPd_all (p : String) : ((List.range ((opsPd p).length + 1)).all (hasEdge (oPd6 p))) = true := by kernel_rfl
theorem opsPd_pen (p : String) (L : Nat → Bool) (hcl : ∀ j o' e, (opsPd p ++ [oPd5 p, oPd6 p]).toArray[j]? = some o' → L j = true → e ∈ o'.after → Region.binds .any e = true → L e.on = true) (hp : ∀ e ∈ (oPd5 p).after, Region.binds .any e = true → L e.on = true) : ∀ j, j < (opsPd p).length → L j = true := by
  have h0 : L 0 = true := hp { on := 0, ground := Ground.data } (by simp [oPd5]) rfl
  have h4 : L 4 = true := hp { on := 4, ground := Ground.data } (by simp [oPd5]) rfl
  have h3 : L 3 = true := hcl 4 (oPd4 p) { on := 3, ground := Ground.data } rfl h4 (by simp [oPd4]) rfl
  have h2 : L 2 = true := hcl 3 (oPd3 p) { on := 2, ground := Ground.data } rfl h3 (by simp [oPd3]) rfl
  have h1 : L 1 = true := hcl 2 (oPd2 p) { on := 1, ground := Ground.data } rfl h2 (by simp [oPd2]) rfl
  intro j hj
  have hj' : j < 5 := hj
  rcases j with _ | _ | _ | _ | _ | j
  · exact h0
  · exact h1
  · exact h2
  · exact h3
  · exact h4
  · omega
def psiPd (v : Value) (q : Nat) (x : ByteArray) (ys : List UInt8) : Nat → Value → World → Prop
  | 0, u, _ => u = v
  | 1, u, _ => u = .pointer (some ⟨q, 1, none⟩)
  | 2, u, _ => u = .pointer (some ⟨q, 2, none⟩)
  | 3, u, _ => u = .string x
  | 4, u, w => IsB w u ys
  | _, _, _ => True
theorem psiPd_grew (v : Value) (q : Nat) (x : ByteArray) (ys : List UInt8) : ∀ i u w w', psiPd v q x ys i u w → Grew w w' → psiPd v q x ys i u w' := by
  intro i u w w' h hg
  rcases i with _ | _ | _ | _ | _ | i
  · exact h
  · exact h
  · exact h
  · exact h
  · exact IsB.grew h hg
  · trivial
set_option maxRecDepth 100000 in
set_option maxHeartbeats 4000000 in
theorem put_regionPd {p : String} (l n : Nat) (hn : 1 ≤ n) (B g : Nat) (v : Value) (q : Nat) (x : ByteArray) (xs : List UInt8) (hx : xs.length ≤ 100000000) (hy : x.size ≤ 1000000) (a : Act) (w : World) (Q : Exit → Act → World → Prop) (hN : a.tmps.size = 44)
    (h0 : a.tmps.getD 7 undef = .pointer (some ⟨q, 0, none⟩)) (hcl : w.cell? ⟨q, 2, none⟩ = some (.string x)) (h1 : a.tmps.getD 5 undef = .pointer (some ⟨g, 0, none⟩)) (hg : w.heap[g]? = some (.cells #[v] 22 (0, 0))) (hown : w.ownsRow B 5 1 v xs.length (xs.map enc)) (hB : B ≤ w.heap.size)
    (hQ : ∀ (u v' : Value) (W1 W2 : World), Grew w W1 → W2.ownsRow B 5 1 v' (xs.length + (txt x).length) ((xs ++ txt x).map enc) → W1.grownBy W2 v.ownBlock → W2.heap[g]? = some (.cells #[v] 22 (0, 0)) → Q .normal (puts [(34, v), (35, .pointer (some ⟨q, 1, none⟩)), (36, .pointer (some ⟨q, 2, none⟩)), (37, .string x), (38, u), (39, v')] a) (W2.setCell ⟨g, 0, none⟩ v')) :
    (Code.region 8 (opsPd p ++ [oPd5 p, oPd6 p]).toArray true).wpIn (Fence.wide.inRound l) n Try.prog Q a w := by
  obtain ⟨i0, hi, hz0, hz1, hz2⟩ := info_parts info5
  have hyl : (txt x).length ≤ 2000000 := by have := txt_len hy; omega
  have hgw : g < w.heap.size := (Array.getElem?_eq_some_iff.1 hg).1
  have hc : w.cell? ⟨g, 0, none⟩ = some v := by simpa using blk_cell hg 0
  have hqw : q < w.heap.size := World.block_lt_of_cell? w ⟨q, 2, none⟩ hcl
  obtain ⟨ys, hys⟩ : ∃ ys, ys = txt x := ⟨_, rfl⟩
  rw [← hys] at hQ hyl
  refine wpIn_region_two 44 hN follows (opsPd_back p) (opsPd_slots p) (opsPd_all p) (opsPd_pen p) Grew Grew.refl Grew.trans (psiPd v q x ys) (psiPd_grew v q x ys) ?_ ?_
  · intro i o d ho hd a' w' hF hR hp
    rcases i with _ | _ | _ | _ | _ | i
    · obtain rfl : oPd0 p = o := Option.some.inj ho
      obtain rfl : 34 = d := Option.some.inj hd
      have hx : a'.eval (.tmp 5) = .pointer (some ⟨g, 0, none⟩) := hF.at 5 rfl h1
      exact step_run (o := oPd0 p) (v := v) (w' := w') rfl rfl (by intro c h; cases h) (by simp [Oper.about, oPd0]) (by simp [execOp, oPd0, hx, run_ldB w' _ v ((Below.cell hR.undraw (p := ⟨g, 0, none⟩) hgw).trans hc)]) ⟨_, rfl, rfl, Grew.refl _⟩
    · obtain rfl : oPd1 p = o := Option.some.inj ho
      obtain rfl : 35 = d := Option.some.inj hd
      have hx : a'.eval (.tmp 7) = .pointer (some ⟨q, 0, none⟩) := hF.at 7 rfl h0
      exact step_run (o := oPd1 p) (v := .pointer (some ⟨q, 1, none⟩)) (w' := w') rfl rfl (by intro c h; cases h) (by simp [Oper.about, oPd1]) (by simp [execOp, oPd1, hx, run_fdS1 w' q 0]) ⟨_, rfl, rfl, Grew.refl _⟩
    · obtain rfl : oPd2 p = o := Option.some.inj ho
      obtain rfl : 36 = d := Option.some.inj hd
      have hx : a'.eval (.tmp 35) = .pointer (some ⟨q, 1, none⟩) := hp 1 (oPd1 p) 35 rfl rfl rfl
      exact step_run (o := oPd2 p) (v := .pointer (some ⟨q, 2, none⟩)) (w' := w') rfl rfl (by intro c h; cases h) (by simp [Oper.about, oPd2]) (by simp [execOp, oPd2, hx, run_fdR1 w' q 1]) ⟨_, rfl, rfl, Grew.refl _⟩
    · obtain rfl : oPd3 p = o := Option.some.inj ho
      obtain rfl : 37 = d := Option.some.inj hd
      have hx : a'.eval (.tmp 36) = .pointer (some ⟨q, 2, none⟩) := hp 2 (oPd2 p) 36 rfl rfl rfl
      exact step_run (o := oPd3 p) (v := .string x) (w' := w') rfl rfl (by intro c h; cases h) (by simp [Oper.about, oPd3]) (by simp [execOp, oPd3, hx, run_ldT w' ⟨q, 2, none⟩ _ ((Below.cell hR.undraw (p := ⟨q, 2, none⟩) hqw).trans hcl)]) ⟨_, rfl, rfl, Grew.refl _⟩
    · obtain rfl : oPd4 p = o := Option.some.inj ho
      obtain rfl : 38 = d := Option.some.inj hd
      have hx : a'.tmps.getD 37 undef = .string x := hp 3 (oPd3 p) 37 rfl rfl rfl
      refine step_call (o := oPd4 p) rfl rfl (xs := #[.const (.slice none 0 0), .tmp 37]) (ts := #[22, 9]) rfl trivial (fun _ => by omega) (enters_of Try.func23 (by kernel_rfl) rfl) ?_
      rw [show Array.map a'.eval #[.const (.slice none 0 0), .tmp 37] = #[.slice none 0 0, .string x] from by simp only [List.map_toArray, List.map_cons, List.map_nil, Act.eval, hx]]
      refine (CallsIn.inRound l (callsIn_wide.2 (Text_any none [] 0 0 rfl x hy (by simp) w' (HasA.nil _ _ _)))).mono ?_
      rintro e w'' ⟨gg, L, c, rfl, ho, hb⟩
      rw [show ([] ++ vb x.size ++ x.data.toList) = ys by rw [hys]; rfl] at ho
      exact ⟨_, rfl, _, rfl, IsB.own ho, hb⟩
    · exact absurd ((Array.getElem?_eq_some_iff.1 ho).1) (by simp [opsPd])
  · intro a' w' hF hR hp
    have e0 : a'.tmps.getD 34 undef = v := hp 0 (oPd0 p) 34 rfl rfl
    have e1 : a'.tmps.getD 35 undef = .pointer (some ⟨q, 1, none⟩) := hp 1 (oPd1 p) 35 rfl rfl
    have e2 : a'.tmps.getD 36 undef = .pointer (some ⟨q, 2, none⟩) := hp 2 (oPd2 p) 36 rfl rfl
    have e3 : a'.tmps.getD 37 undef = .string x := hp 3 (oPd3 p) 37 rfl rfl
    obtain ⟨A5, L5, c5, e4, hl5, hA5⟩ : IsB w' (a'.tmps.getD 38 undef) ys := hp 4 (oPd4 p) 38 rfl rfl
    have hgr := hR.undraw
    have hown' := own_below hown hgr
    obtain ⟨v', W2, hrun, hown2, hg2⟩ := run_append_has (P := Try.prog) (w := w') B 22 22 5 i0 Try.underlying22 hi hz0 hz1 hz2 v xs.length xs hown' _ A5 L5 c5 ys hl5 hA5 (by omega) (Nat.le_trans hB (Below.size hgr))
    obtain ⟨A3, c3, rfl⟩ := own_form hown2
    have hx3 : a'.eval (.tmp 34) = v := e0
    have hx5 : a'.eval (.tmp 38) = .slice A5 L5 c5 := e4
    refine step_run (o := oPd5 p) (v := .slice A3 (xs.length + L5) c3) (w' := W2) rfl rfl (by intro c h; cases h) (by simp [Oper.about, oPd5, resolve, Target.leads, Sem.run_pure]) (by
      unfold execOp
      simp only [oPd5, resolve, invoke, builtin, Sem.run_bind, Sem.run_pure, Result.andThen_ok, List.map_toArray, List.map_cons, List.map_nil, hx3, hx5, hrun]) ?_
    have hty := own_typed hown'
    have hb5' : w'.heap[g]? = some (.cells #[v] 22 (0, 0)) := SameT.grew (T := []) hgr _ _ _ (by simp) hg
    have hb52 : W2.heap[g]? = some (.cells #[v] 22 (0, 0)) := SameT.grown hg2 hty _ _ _ (by decide) hb5'
    have hx1 : (a'.put (some 39) (.slice A3 (xs.length + L5) c3)).eval (.tmp 5) = .pointer (some ⟨g, 0, none⟩) := (getD_put_ne (by decide)).trans (hF.at 5 rfl h1)
    have hx6 : (a'.put (some 39) (.slice A3 (xs.length + L5) c3)).eval (.tmp 39) = .slice A3 (xs.length + L5) c3 := getD_put_same (by rw [hF.size, hN]; decide)
    refine step_skip (o := oPd6 p) (w' := W2.setCell ⟨g, 0, none⟩ (.slice A3 (xs.length + L5) c3)) rfl rfl (by intro c h; cases h) (by simp [Oper.about, oPd6]) (by
      have hst := run_stB W2 g A3 (xs.length + L5) c3 v (by simpa using blk_cell hb52 0) (blk_frozen hb52 0)
      have h5x : (a'.put (oPd5 p).dst (.slice A3 (xs.length + L5) c3)).eval (.tmp 5) = .pointer (some ⟨g, 0, none⟩) := hx1
      have h23x : (a'.put (oPd5 p).dst (.slice A3 (xs.length + L5) c3)).eval (.tmp 39) = .slice A3 (xs.length + L5) c3 := hx6
      unfold execOp
      simp only [oPd6, h5x, h23x, Sem.run_bind, hst, Result.andThen_ok]
      rfl) ?_
    have hput : a'.put (some 39) (.slice A3 (xs.length + L5) c3) = puts [(34, v), (35, .pointer (some ⟨q, 1, none⟩)), (36, .pointer (some ⟨q, 2, none⟩)), (37, .string x), (38, .slice A5 L5 c5), (39, .slice A3 (xs.length + L5) c3)] a := by
      have h1 := hF.puts [(34, v), (35, .pointer (some ⟨q, 1, none⟩)), (36, .pointer (some ⟨q, 2, none⟩)), (37, .string x), (38, .slice A5 L5 c5)] (by
        intro x hx
        simp only [List.mem_cons, List.not_mem_nil, or_false] at hx
        rcases hx with rfl | rfl | rfl | rfl | rfl
        · exact e0
        · exact e1
        · exact e2
        · exact e3
        · exact e4) rfl (by rw [hN]; rfl)
      conv => lhs; rw [h1]
      rfl
    show Q .normal (a'.put (some 39) (.slice A3 (xs.length + L5) c3)) _
    rw [hput]
    subst hl5
    exact hQ _ _ w' W2 hgr hown2 hg2 hb52
end Go.Proofs.Ytelbgjnaceffeaa
