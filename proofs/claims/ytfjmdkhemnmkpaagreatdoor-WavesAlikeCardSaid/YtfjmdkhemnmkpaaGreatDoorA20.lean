/- Parts of the proof: WxDo, WxAskR, WvCut. -/
import Derived.Test.YtfjmdkhemnmkpaaGreatDoorA18
import Derived.Test.YtfjmdkhemnmkpaaGreatDoorA19
import Derived.Test.YtfjmdkhemnmkpaaGreatDoorA13
import Derived.Test.YtfjmdkhemnmkpaaGreatDoorA17
import Derived.Laws.Append
namespace Go.Proofs.YtfjmdkhemnmkpaaGreatDoor
open Go.RowKit Go.Maps
section
variable {F : Nat → Prop} {w W W' : World} {R b r : Nat} {A : Option Addr} {L c : Nat} {f : Value} {a : AM} {T : Nat → DV} {t : Nat}
theorem RunQ.reply {x cd : Nat} {tx : ByteArray} (h : RunQ F w R b r A L c f a T t W) (k : RepB W x cd tx) : x ≠ r ∧ x ≠ b ∧ ∀ F', AppQ F' W R a → ¬ F' x := by
  refine ⟨?_, ?_, fun F' hA hf => ?_⟩
  · rintro rfl
    have := h.at.1
    rw [blk_cell k 0] at this
    simp at this
  · rintro rfl
    have h1 := h.go.row
    rw [show W.heap[x]? = _ from k] at h1
    simp at h1
  · have h0 : W.cell? ⟨x, 0, none⟩ = some (.int .u8 (cd : Int)) := by rw [blk_cell k 0]; rfl
    rcases (appQ_kindF hA x hf).cell h0 with ⟨q, e⟩ | ⟨q, e⟩ <;> cases e
theorem RunQ.drew (h : RunQ F w R b r A L c f a T t W) : RunQ F w R b r A L c f a T t W.drew := h.grew (Below.refl _ W).drew
theorem RunQ.cellSet {x i : Nat} {u : Value} (h : RunQ F w R b r A L c f a T t W) (hx : w.heap.size ≤ x) (h1 : x ≠ r) (h2 : x ≠ b) (h3 : ∀ F', AppQ F' W R a → ¬ F' x) : RunQ F w R b r A L c f a T t (W.setCell ⟨x, i, none⟩ u) := by
  obtain ⟨F', k1, k2, k3⟩ := h.go.ex
  have hs : ∀ {g : Nat}, g ≠ x → (W.setCell ⟨x, i, none⟩ u).heap[g]? = W.heap[g]? := fun hg => Below.heap_setCell _ _ _ _ hg
  exact ⟨⟨⟨F', k1.keep ((Only.refl (fun k => k = x) W).setCell (p := ⟨x, i, none⟩) (.inl rfl) _) (fun k hk e => h3 F' k1 (e ▸ hk)), k2, k3⟩, h.go.only.setCell (p := ⟨x, i, none⟩) (.inr hx) _, h.go.lo, (hs (Ne.symm h2)).trans h.go.row⟩, (hs (Ne.symm h1)).trans h.cell, h.lo, h.ne⟩
theorem RunQ.row {q : Nat} (h : RunQ F w R b r A L c f a T t W) (d : DV) (hq : q < L) : RunQ F w R b r A L c f a (updT T q d) t (setDn W b q d) := by
  have hs : ∀ {g : Nat}, g ≠ b → (setDn W b q d).heap[g]? = W.heap[g]? := fun hg => ((Below.heap_setCell _ _ _ _ hg).trans ((Below.heap_setCell _ _ _ _ hg).trans ((Below.heap_setCell _ _ _ _ hg).trans ((Below.heap_setCell _ _ _ _ hg).trans (Below.heap_setCell _ _ _ _ hg)))))
  exact ⟨h.go.set d hq, (hs h.ne).trans h.cell, h.lo, h.ne⟩
theorem RunQ.turn (h : RunQ F w R b r A L c f a T t W) : RunQ F w R b r A L c f a T (t + 1) (W.setCell ⟨r, 4, none⟩ (.int .i64 ((t : Int) + 1))) := by
  obtain ⟨F', k1, k2, k3⟩ := h.go.ex
  have h3 := h.apart k1
  have hs : ∀ {g : Nat}, g ≠ r → (W.setCell ⟨r, 4, none⟩ (.int .i64 ((t : Int) + 1))).heap[g]? = W.heap[g]? := fun hg => Below.heap_setCell _ _ _ _ hg
  exact ⟨⟨⟨F', k1.keep ((Only.refl (fun k => k = r) W).setCell (p := ⟨r, 4, none⟩) (.inl rfl) _) (fun k hk e => h3 (e ▸ hk)), k2, k3⟩, h.go.only.setCell (p := ⟨r, 4, none⟩) (.inr h.lo) _, h.go.lo, (hs (Ne.symm h.ne)).trans h.go.row⟩, blk_set h.cell 4 _, h.lo, h.ne⟩
end
set_option maxRecDepth 100000 in
set_option maxHeartbeats 4000000 in
theorem wdo_any {F : Nat → Prop} {w W : World} {R b r cb co L c : Nat} {f : Value} {a a0 : AM} {T : Nat → DV} {t : Nat} (H : RunQ F w R b r (some ⟨cb, co, none⟩) L c f a T t W) (hT : TabK w) (h0 : AppQ F w R a0) (hl : LimA a) (q wv : Nat) (v : CmdV) (hq : q < L) (hcb : cb < W.heap.size)
    (hv : ∀ j u, v.cells[j]? = some u → W.cell? ⟨cb, co + q * 7 + j, none⟩ = some u) (hok : v.ok W) (hk : v.ks.length ≤ 100) (ht : t ≤ 1000) :
    Calls Tryz.prog 39 #[.pointer (some ⟨r, 0, none⟩), .int .i64 (q : Int), .int .i64 (wv : Int)] W fun e W' => e = .returned (.tuple #[]) ∧ RunQ F w R b r (some ⟨cb, co, none⟩) L c f (doA a v.m).1 (updT T q ⟨(doA a v.m).2.1.1, (doA a v.m).2.1.2, (doA a v.m).2.2, wv, t⟩) (t + 1) W' ∧ FarW r b W W' := by
  obtain ⟨V, hV⟩ : ∃ V, V = W.drew := ⟨_, rfl⟩
  have HV : RunQ F w R b r (some ⟨cb, co, none⟩) L c f a T t V := by rw [hV]; exact H.drew
  obtain ⟨F', q1, q2, q3⟩ := HV.go.ex
  have hokV : v.ok V := by rw [hV]; exact hok.below (Below.refl _ W).drew
  obtain ⟨d, hd⟩ : ∃ x, x = doA a v.m := ⟨_, rfl⟩
  have hC : ∀ w', Below V.heap.size V w' → Calls Tryz.prog 22 #[.pointer (some ⟨R, 0, none⟩), v.val] w' fun e W' => e = .returned (.tuple #[ReplyV d.2.1, .bool d.2.2]) ∧ (RunQ F w R b r (some ⟨cb, co, none⟩) L c f d.1 T t W' ∧ V.heap.size ≤ W'.heap.size ∧ ∀ k, k < V.heap.size → ¬ F' k → W'.heap[k]? = V.heap[k]?) ∧ w'.heap.size ≤ W'.heap.size ∧ ∀ k, V.heap.size ≤ k → k < w'.heap.size → W'.heap[k]? = w'.heap[k]? := fun w' hb => by
    have Hw := HV.grew hb
    have qw : AppQ F' w' R a := q1.keep (Only.of_grew (F := fun _ => False) hb) (fun _ _ => id)
    refine (ado_any v qw (Hw.go.tab hT h0) hl (hokV.below hb) hk).mono ?_
    rintro e W' ⟨rfl, F2, k1, k2, k3⟩
    rw [← hd] at k1 ⊢
    refine ⟨rfl, ⟨⟨⟨⟨F2, k1, fun k hk => ?_, fun hk => ?_⟩, Hw.go.only.trans k2 q2, Hw.go.lo, (k2.block b Hw.go.lt q3).trans Hw.go.row⟩, (k2.block r Hw.lt (Hw.apart qw)).trans Hw.cell, Hw.lo, Hw.ne⟩, Nat.le_trans hb.size k2.size, fun k hk1 hk2 => (k2.block k (Nat.lt_of_lt_of_le hk1 hb.size) hk2).trans (hb.block k hk1)⟩, k2.size, fun k hk1 hk2 => k2.block k hk2 fun hf => by have := q1.lt k hf; omega⟩
    · rcases k3 k hk with e | e
      · exact q2 k e
      · exact .inr (Nat.le_trans Hw.go.only.size e)
    · rcases k3 b hk with e | e
      · exact q3 e
      · have := Hw.go.lt; omega
  obtain ⟨x0, x1, _, _, _⟩ := HV.at
  have hvV : ∀ j u, v.cells[j]? = some u → V.cell? ⟨cb, co + q * 7 + j, none⟩ = some u := fun j u hu => by rw [hV]; exact hv j u hu
  have hrl := HV.lt
  have hcl : cb < V.heap.size := by rw [hV]; exact hcb
  rw [← hd]
  obtain ⟨a2, ⟨cd, tx⟩, fr⟩ := d
  simp only [ReplyV] at hC ⊢
  have HC := Lib.hid hC
  have HVV := Lib.hid (And.intro hvV HV)
  have hti : (t : Int) ≤ 1000 := by omega
  have HF := Lib.hid (show ∀ k, F' k → KindT W k from fun k hk => by
    have := appQ_kindT q1 k hk
    rw [hV] at this
    exact this)
  clear hC hvV HV q1 q2 q3 hokV hd H hT h0 hl hcb hv hok hk
  go_enter Tryz.func39, Tryz.ntmps39
  go_upto_region 0 with (fail)
  refine wvdo_a (fun W1 => RunQ F w R b r (some ⟨cb, co, none⟩) L c f a2 T t W1 ∧ V.heap.size ≤ W1.heap.size ∧ ∀ k, k < V.heap.size → ¬ F' k → W1.heap[k]? = V.heap[k]?) R r q cb co L c cd tx fr v _ W _ rfl rfl rfl (by rw [← hV]; exact hrl) (by rw [← hV]; exact hcl) hq (by rw [← hV]; exact x0) (by rw [← hV]; exact x1) (by rw [← hV]; exact HVV.out.1) (fun W1 o h => ⟨h.1.grew ((Below.refl _ W1).alloc (Nat.le_refl _) o), Nat.le_trans h.2.1 (by rw [World.size_alloc]; omega), fun k h1 h2 => (((Below.refl _ W1).alloc (Nat.le_refl _) o).block k (Nat.lt_of_lt_of_le h1 h.2.1)).trans (h.2.2 k h1 h2)⟩) (by rw [← hV]; exact HC.out) ⟨fun _ => Below.refl _ _, Nat.le_refl _, fun h => (by cases h), fun h => (by cases h), fun h => (by cases h)⟩ ?_
  intro u V2 hws
  obtain ⟨_, _, _, _, h5⟩ := hws
  obtain ⟨x, W1, rfl, hx1, ⟨hJ, hJs, hJk⟩, hR, hV2⟩ := h5 rfl
  obtain ⟨n1, n2, n3⟩ := hJ.reply hR
  have hR2 : RepB V2 x cd tx := by rw [hV2]; exact hR.set cd tx
  have hxw : w.heap.size ≤ x := Nat.le_trans HVV.out.2.go.only.size (by rw [hV]; exact hx1)
  have H2 : RunQ F w R b r (some ⟨cb, co, none⟩) L c f a2 T t V2.drew := by
    rw [hV2]
    have s1 := hJ.cellSet (i := 0) (u := .int .u8 (cd : Int)) hxw n1 n2 n3
    have r1 : RepB (W1.setCell ⟨x, 0, none⟩ (.int .u8 (cd : Int))) x cd ⟨#[]⟩ := blk_set hR 0 _
    obtain ⟨m1, m2, m3⟩ := s1.reply r1
    exact (s1.cellSet (i := 1) (u := .string tx) hxw m1 m2 m3).drew
  obtain ⟨_, _, _, y3, y4⟩ := H2.at
  obtain ⟨_, _, _, _, _, c0, c1, c2, c3, c4⟩ := H2.go.at hq
  have hst := run_stDn V2.drew b q ⟨cd, tx, fr, wv, t⟩ ⟨_, c0⟩ ⟨_, c1⟩ ⟨_, c2⟩ ⟨_, c3⟩ ⟨_, c4⟩ (blk_frozen H2.go.row)
  have hfar : FarW r b W V2.drew := by
    have hsz : V.heap.size = W.heap.size := by rw [hV]; rfl
    refine ⟨by rw [hV2]; show W.heap.size ≤ ((W1.setCell ⟨x, 0, none⟩ (.int .u8 (cd : Int))).setCell ⟨x, 1, none⟩ (.string tx)).heap.size; simp; omega, fun k e1 e2 e3 e4 => ?_⟩
    have hkx : k ≠ x := by
      have : V.heap.size ≤ x := by rw [hV]; exact hx1
      omega
    have e5 := hJk k (by omega) (fun hf => e4 (HF.out k hf))
    have e6 : V2.heap[k]? = W1.heap[k]? := by
      rw [hV2]
      exact (Below.heap_setCell _ _ _ _ hkx).trans (Below.heap_setCell _ _ _ _ hkx)
    have e7 : V.heap[k]? = W.heap[k]? := by rw [hV]; rfl
    exact (e6.trans e5).trans e7
  have HFR := Lib.hid hfar
  have H3 := Lib.hid (H2.row ⟨cd, tx, fr, wv, t⟩ hq)
  have HR2 := Lib.hid (show RepB V2.drew x cd tx from hR2)
  simp only [puts, List.foldl_cons, List.foldl_nil, Act.put, List.setIfInBounds_toArray, List.set_cons_succ, List.set_cons_zero]
  clear hfar hJs hJk hJ hR hV2 n1 n2 n3 hR2 H2 c0 c1 c2 c3 c4 h5 x0 x1 hrl hcl HC
  go_upto_region 1 with (fail)
  refine wvdo_b r q wv b x L t cd tx fr _ V2 _ rfl rfl rfl rfl rfl rfl hq y3 y4 HR2.out hst ⟨fun _ => rfl, fun h => (by cases h)⟩ ?_
  intro u V3 hws
  have hV3 := hws.2 rfl
  have hfar : FarW r b W V3 := by
    rw [hV3]
    exact ⟨Nat.le_trans HFR.out.1 (setDn_only (F := fun k => k = b) (Only.refl _ V2.drew) (.inl rfl)).size, fun k e1 e2 e3 e4 => (setDn_heap e3).trans (HFR.out.2 k e1 e2 e3 e4)⟩
  have HFR2 := Lib.hid hfar
  rw [← hV3] at H3
  clear hfar
  obtain ⟨_, _, _, _, z4⟩ := H3.out.at
  have f4 := blk_frozen H3.out.cell 4
  have H4 := Lib.hid H3.out.turn
  simp only [puts, List.foldl_cons, List.foldl_nil, Act.put, List.setIfInBounds_toArray, List.set_cons_succ, List.set_cons_zero]
  clear hV3 hws hst y3 y4 HR2 H3
  go_wp2
  go_end0
  exact ⟨rfl, H4.out, by simpa using HFR2.out.1, fun k e1 e2 e3 e4 => (Below.heap_setCell _ _ _ _ e2).trans (HFR2.out.2 k e1 e2 e3 e4)⟩
end Go.Proofs.YtfjmdkhemnmkpaaGreatDoor

namespace Go.Proofs.YtfjmdkhemnmkpaaGreatDoor
open Go.RowKit
theorem run_fdW2 (w : World) (g : Nat) : (Instr.fieldAt 73 (.pointer (some ⟨g, 0, none⟩)) 2).run Tryz.prog w = .ok (.pointer (some ⟨g, 2, none⟩)) w := by
  first
    | kernel_rfl
    | (simp [go_sem, Instr.fieldAt]; done)
theorem run_ldFn (w : World) (p : Addr) (v : Value) (h : w.cell? p = some v) : (Instr.loadAt 42 (.pointer (some p))).run Tryz.prog w = .ok v w := by
  simp [go_sem, h]
section
variable {n : Nat} {Q : Exit → Act → World → Prop} {ops : Array Oper} {i : Nat} {o : Oper} {a : Act} {w : World} {K : Act → World → Prop}
theorem step_callV {f : FuncId} {x : Operand} {fi ca : Array Value} {xs : Array Operand} {ts : Array TypeId} {vs : Array Value} (hi : ops[i]? = some o) (hw : Region.wanted o (yielded ops a.tmps) = true)
    (ho : o.op = .call { callee := .value x, args := xs, argTypes := ts }) (hx : a.eval x = .func (.func f) fi ca) (eg : ∀ args w, (callFunc f args).run Tryz.prog w = .ok (.enter f args) w) (hxs : xs.map a.eval = vs)
    (hc : Calls Tryz.prog f (fi ++ vs ++ ca) w fun e w' => ∃ v, e = .returned v ∧ K (a.put o.dst v) w') : wpOpIn Fence.wide n Tryz.prog ops Q i K a w := by
  unfold wpOpIn
  simp only [hi, hw, if_true]
  have hres : (resolve a.eval { callee := .value x, args := xs, argTypes := ts } o.type).run Tryz.prog w = .ok { target := .fn (.func f) ca, args := fi ++ vs } w := by
    simp [resolve, hx, hxs, Deferred.ofValue]
  refine ⟨fun g hg => ?_, ?_⟩
  · simp [Oper.about, ho, hres, Target.leads] at hg
    subst hg; trivial
  · rw [Oper.semAt_plain _ _ _ (by rw [ho]; intro c hc'; cases hc')]
    have hex : (execOp a.eval o).run Tryz.prog w = .ok (.enter f (fi ++ vs ++ ca)) w := by
      simp [execOp, ho, hres, invoke, eg]
    rw [hex]
    refine ⟨fun h => (by cases h), (callsIn_wide.2 hc).mono ?_⟩
    rintro e w' ⟨v, rfl, h⟩
    exact h
end
def oWxA0 (pp : String) : Oper := { dst := some 10, op := Op.move (Operand.tmp 0), type := 68, pos := pp, after := #[], guard := none }
def oWxA1 (pp : String) : Oper := { dst := some 11, op := Op.nilCheck (Operand.tmp 10), type := 0, pos := pp, after := #[{ on := 0, ground := Ground.data }], guard := none }
def oWxA2 (pp : String) : Oper := { dst := some 12, op := Op.fieldAddr 73 (Operand.tmp 11) 2, type := 0, pos := pp, after := #[{ on := 1, ground := Ground.data }], guard := none }
def oWxA3 (pp : String) : Oper := { dst := some 13, op := Op.load 42 (Operand.tmp 12), type := 42, pos := pp, after := #[{ on := 2, ground := Ground.data }], guard := none }
def oWxA4 (pp : String) : Oper := { dst := some 14, op := Op.load 3 (Operand.tmp 5), type := 3, pos := pp, after := #[], guard := none }
def oWxA5 (pp : String) : Oper := { dst := some 15, op := Op.load 3 (Operand.tmp 6), type := 3, pos := pp, after := #[], guard := none }
def oWxA6 (pp : String) : Oper := { dst := some 16, op := Op.load 3 (Operand.tmp 7), type := 3, pos := pp, after := #[], guard := none }
def oWxA7 (pp : String) : Oper := { dst := some 17, op := Op.call { callee := Callee.value (Operand.tmp 13), args := #[Operand.tmp 14, Operand.tmp 15, Operand.tmp 16], argTypes := #[3, 3, 3] }, type := 3, pos := pp, after := #[{ on := 3, ground := Ground.data }, { on := 4, ground := Ground.data }, { on := 5, ground := Ground.data }, { on := 6, ground := Ground.data }], guard := none }
def oWxA8 (pp : String) : Oper := { dst := none, op := Op.store 3 (Operand.tmp 8) (Operand.tmp 17), type := 0, pos := pp, after := #[{ on := 7, ground := Ground.data }, { on := 7, ground := Ground.chain }, { on := 0, ground := Ground.phase }, { on := 1, ground := Ground.phase }, { on := 2, ground := Ground.phase }, { on := 3, ground := Ground.phase }, { on := 4, ground := Ground.phase }, { on := 5, ground := Ground.phase }, { on := 6, ground := Ground.phase }, { on := 7, ground := Ground.phase }], guard := none }
def opsWxA (pp : String) : List Oper := [oWxA0 pp, oWxA1 pp, oWxA2 pp, oWxA3 pp, oWxA4 pp, oWxA5 pp, oWxA6 pp, oWxA7 pp, oWxA8 pp]
theorem opsWxA_back (pp : String) : backwards (opsWxA pp) = true := by kernel_rfl
def wsWxA (_r _wv _k _n _p5 _p6 _p7 p8 : Nat) (p : Int) (_fid : Nat) (_fi _ca : Array Value) (W0 : World) (L : Nat → Bool) (_u : Value) (w : World) : Prop := (L 7 = false → w = W0) ∧ (L 7 = true → L 8 = false → Below W0.heap.size W0 w) ∧ (L 8 = true → ∃ W1, Below W0.heap.size W0 W1 ∧ w = W1.setCell ⟨p8, 0, none⟩ (.int .i64 p))
theorem wsWxA_same (r wv k n p5 p6 p7 p8 : Nat) (p : Int) (fid : Nat) (fi ca : Array Value) {W0 : World} {L : Nat → Bool} {i : Nat} {u : Value} {w : World} (k7 : ((7 : Nat) == i) = false) (k8 : ((8 : Nat) == i) = false) (h : wsWxA r wv k n p5 p6 p7 p8 p fid fi ca W0 L u w) : wsWxA r wv k n p5 p6 p7 p8 p fid fi ca W0 (fun j => L j || j == i) u w := by
  unfold wsWxA at h ⊢
  simp only [beq_noF k7, beq_noF k8]
  exact h
structure InvWxA (r wv k n p5 p6 p7 p8 : Nat) (p : Int) (fid : Nat) (fi ca : Array Value) (W0 : World) (a : Act) (pp : String) (L : Nat → Bool) (a' : Act) (w' : World) : Prop where
  frm : Frm (opsWxA pp) a a'
  f0 : L 0 = true → a'.tmps.getD 10 undef = .pointer (some ⟨r, 0, none⟩)
  f1 : L 1 = true → a'.tmps.getD 11 undef = .pointer (some ⟨r, 0, none⟩)
  f2 : L 2 = true → a'.tmps.getD 12 undef = .pointer (some ⟨r, 2, none⟩)
  f3 : L 3 = true → a'.tmps.getD 13 undef = .func (.func fid) fi ca
  f4 : L 4 = true → a'.tmps.getD 14 undef = .int .i64 (wv : Int)
  f5 : L 5 = true → a'.tmps.getD 15 undef = .int .i64 (k : Int)
  f6 : L 6 = true → a'.tmps.getD 16 undef = .int .i64 (n : Int)
  f7 : L 7 = true → a'.tmps.getD 17 undef = .int .i64 p
  ex : ∃ u : Value, wsWxA r wv k n p5 p6 p7 p8 p fid fi ca W0 L u w'
set_option maxRecDepth 100000 in
set_option maxHeartbeats 4000000 in
theorem wxask {pp : String} (r wv k n p5 p6 p7 p8 : Nat) (p : Int) (fid : Nat) (fi ca : Array Value) (a : Act) (w : World) (Q : Exit → Act → World → Prop) (hN : a.tmps.size = 18) (h0 : a.tmps.getD 0 undef = .pointer (some ⟨r, 0, none⟩)) (h5 : a.tmps.getD 5 undef = .pointer (some ⟨p5, 0, none⟩)) (h6 : a.tmps.getD 6 undef = .pointer (some ⟨p6, 0, none⟩)) (h7 : a.tmps.getD 7 undef = .pointer (some ⟨p7, 0, none⟩)) (h8f : a.tmps.getD 8 undef = .pointer (some ⟨p8, 0, none⟩)) (x2 : w.drew.cell? ⟨r, 2, none⟩ = some (.func (.func fid) fi ca)) (x5 : w.drew.cell? ⟨p5, 0, none⟩ = some (.int .i64 (wv : Int))) (x6 : w.drew.cell? ⟨p6, 0, none⟩ = some (.int .i64 (k : Int))) (x7 : w.drew.cell? ⟨p7, 0, none⟩ = some (.int .i64 (n : Int))) (h8 : w.drew.heap[p8]? = some (.cells #[.int .i64 0] 3 (0, 0))) (hcf : ∀ args w, (callFunc fid args).run Tryz.prog w = .ok (.enter fid args) w) (hC : Calls Tryz.prog fid (fi ++ #[.int .i64 (wv : Int), .int .i64 (k : Int), .int .i64 (n : Int)] ++ ca) w.drew fun e w' => e = .returned (.int .i64 p) ∧ Below w.drew.heap.size w.drew w') (hW0 : wsWxA r wv k n p5 p6 p7 p8 p fid fi ca w.drew (fun _ => false) undef w.drew) (hQ : ∀ (u : Value) w', wsWxA r wv k n p5 p6 p7 p8 p fid fi ca w.drew (fun _ => true) u w' → Q .normal (puts [(10, .pointer (some ⟨r, 0, none⟩)), (11, .pointer (some ⟨r, 0, none⟩)), (12, .pointer (some ⟨r, 2, none⟩)), (13, .func (.func fid) fi ca), (14, .int .i64 (wv : Int)), (15, .int .i64 (k : Int)), (16, .int .i64 (n : Int)), (17, .int .i64 p)] a) w')
    : (Code.region 2 (opsWxA pp).toArray true).wp Tryz.prog Q a w := by
  refine (wpIn_wide (n := 1)).1 (wpIn_region_by follows (opsWxA_back pp) (InvWxA r wv k n p5 p6 p7 p8 p fid fi ca w.drew a pp) ?_ ?_ ?_)
  · exact ⟨⟨rfl, rfl, fun _ _ => rfl⟩, fun h => (by cases h), fun h => (by cases h), fun h => (by cases h), fun h => (by cases h), fun h => (by cases h), fun h => (by cases h), fun h => (by cases h), fun h => (by cases h), undef, hW0⟩
  · intro L a' w' i o hv ho hLi hpre hcl
    obtain ⟨hF, f0, f1, f2, f3, f4, f5, f6, f7, u, hW⟩ := hv
    have hsz : a'.tmps.size = 18 := hF.size.trans hN
    have frm' : ∀ (d : Nat) (v : Value), o.dst = some d → Frm (opsWxA pp) a (a'.put (some d) v) := fun d v hd => ⟨size_put.trans hF.size, defers_put.trans hF.defers, fun s hs => by
      have hm : o ∈ opsWxA pp := by simpa using List.mem_of_getElem? (by simpa using ho)
      rw [getD_put_ne (fun e => hs o hm (by rw [hd, e]))]
      exact hF.old s hs⟩
    rcases i with _ | _ | _ | _ | _ | _ | _ | _ | _ | i
    · obtain rfl : oWxA0 pp = o := Option.some.inj ho
      exact step_move rfl rfl rfl (hF.at 0 rfl h0) ⟨frm' 10 _ rfl, fun _ => getD_put_same (by rw [hsz]; omega), fun h => (getD_put_ne (by decide)).trans (f1 (by simpa using h)), fun h => (getD_put_ne (by decide)).trans (f2 (by simpa using h)), fun h => (getD_put_ne (by decide)).trans (f3 (by simpa using h)), fun h => (getD_put_ne (by decide)).trans (f4 (by simpa using h)), fun h => (getD_put_ne (by decide)).trans (f5 (by simpa using h)), fun h => (getD_put_ne (by decide)).trans (f6 (by simpa using h)), fun h => (getD_put_ne (by decide)).trans (f7 (by simpa using h)), u, (wsWxA_same _ _ _ _ _ _ _ _ _ _ _ _  rfl rfl hW)⟩
    · obtain rfl : oWxA1 pp = o := Option.some.inj ho
      have q0 : a'.tmps.getD 10 undef = .pointer (some ⟨r, 0, none⟩) := f0 (edge_ofF (o := oWxA1 pp) hpre 0 rfl)
      have nL : L 7 = false := not_yetF hcl 30 (show reachB (opsWxA pp) 30 7 1 = true by kernel_rfl) hLi
      exact step_nilCheckF rfl rfl rfl q0 (trivial) ⟨frm' 11 _ rfl, fun h => (getD_put_ne (by decide)).trans (f0 (by simpa using h)), fun _ => getD_put_same (by rw [hsz]; omega), fun h => (getD_put_ne (by decide)).trans (f2 (by simpa using h)), fun h => (getD_put_ne (by decide)).trans (f3 (by simpa using h)), fun h => (getD_put_ne (by decide)).trans (f4 (by simpa using h)), fun h => (getD_put_ne (by decide)).trans (f5 (by simpa using h)), fun h => (getD_put_ne (by decide)).trans (f6 (by simpa using h)), fun h => (getD_put_ne (by decide)).trans (f7 (by simpa using h)), u, (wsWxA_same _ _ _ _ _ _ _ _ _ _ _ _  rfl rfl hW)⟩
    · obtain rfl : oWxA2 pp = o := Option.some.inj ho
      have q1 : a'.tmps.getD 11 undef = .pointer (some ⟨r, 0, none⟩) := f1 (edge_ofF (o := oWxA2 pp) hpre 1 rfl)
      have nL : L 7 = false := not_yetF hcl 30 (show reachB (opsWxA pp) 30 7 2 = true by kernel_rfl) hLi
      exact step_fieldF rfl rfl rfl q1 (run_fdW2 _ _) ⟨frm' 12 _ rfl, fun h => (getD_put_ne (by decide)).trans (f0 (by simpa using h)), fun h => (getD_put_ne (by decide)).trans (f1 (by simpa using h)), fun _ => getD_put_same (by rw [hsz]; omega), fun h => (getD_put_ne (by decide)).trans (f3 (by simpa using h)), fun h => (getD_put_ne (by decide)).trans (f4 (by simpa using h)), fun h => (getD_put_ne (by decide)).trans (f5 (by simpa using h)), fun h => (getD_put_ne (by decide)).trans (f6 (by simpa using h)), fun h => (getD_put_ne (by decide)).trans (f7 (by simpa using h)), u, (wsWxA_same _ _ _ _ _ _ _ _ _ _ _ _  rfl rfl hW)⟩
    · obtain rfl : oWxA3 pp = o := Option.some.inj ho
      have q2 : a'.tmps.getD 12 undef = .pointer (some ⟨r, 2, none⟩) := f2 (edge_ofF (o := oWxA3 pp) hpre 2 rfl)
      have nL : L 7 = false := not_yetF hcl 30 (show reachB (opsWxA pp) 30 7 3 = true by kernel_rfl) hLi
      exact step_load rfl rfl rfl q2 (by rw [hW.1 nL]; exact run_ldFn _ _ _ x2) ⟨frm' 13 _ rfl, fun h => (getD_put_ne (by decide)).trans (f0 (by simpa using h)), fun h => (getD_put_ne (by decide)).trans (f1 (by simpa using h)), fun h => (getD_put_ne (by decide)).trans (f2 (by simpa using h)), fun _ => getD_put_same (by rw [hsz]; omega), fun h => (getD_put_ne (by decide)).trans (f4 (by simpa using h)), fun h => (getD_put_ne (by decide)).trans (f5 (by simpa using h)), fun h => (getD_put_ne (by decide)).trans (f6 (by simpa using h)), fun h => (getD_put_ne (by decide)).trans (f7 (by simpa using h)), u, (wsWxA_same _ _ _ _ _ _ _ _ _ _ _ _  rfl rfl hW)⟩
    · obtain rfl : oWxA4 pp = o := Option.some.inj ho
      have nL : L 7 = false := not_yetF hcl 30 (show reachB (opsWxA pp) 30 7 4 = true by kernel_rfl) hLi
      exact step_load rfl rfl rfl (hF.at 5 rfl h5) (by rw [hW.1 nL]; exact run_ldIt _ _ _ x5) ⟨frm' 14 _ rfl, fun h => (getD_put_ne (by decide)).trans (f0 (by simpa using h)), fun h => (getD_put_ne (by decide)).trans (f1 (by simpa using h)), fun h => (getD_put_ne (by decide)).trans (f2 (by simpa using h)), fun h => (getD_put_ne (by decide)).trans (f3 (by simpa using h)), fun _ => getD_put_same (by rw [hsz]; omega), fun h => (getD_put_ne (by decide)).trans (f5 (by simpa using h)), fun h => (getD_put_ne (by decide)).trans (f6 (by simpa using h)), fun h => (getD_put_ne (by decide)).trans (f7 (by simpa using h)), u, (wsWxA_same _ _ _ _ _ _ _ _ _ _ _ _  rfl rfl hW)⟩
    · obtain rfl : oWxA5 pp = o := Option.some.inj ho
      have nL : L 7 = false := not_yetF hcl 30 (show reachB (opsWxA pp) 30 7 5 = true by kernel_rfl) hLi
      exact step_load rfl rfl rfl (hF.at 6 rfl h6) (by rw [hW.1 nL]; exact run_ldIt _ _ _ x6) ⟨frm' 15 _ rfl, fun h => (getD_put_ne (by decide)).trans (f0 (by simpa using h)), fun h => (getD_put_ne (by decide)).trans (f1 (by simpa using h)), fun h => (getD_put_ne (by decide)).trans (f2 (by simpa using h)), fun h => (getD_put_ne (by decide)).trans (f3 (by simpa using h)), fun h => (getD_put_ne (by decide)).trans (f4 (by simpa using h)), fun _ => getD_put_same (by rw [hsz]; omega), fun h => (getD_put_ne (by decide)).trans (f6 (by simpa using h)), fun h => (getD_put_ne (by decide)).trans (f7 (by simpa using h)), u, (wsWxA_same _ _ _ _ _ _ _ _ _ _ _ _  rfl rfl hW)⟩
    · obtain rfl : oWxA6 pp = o := Option.some.inj ho
      have nL : L 7 = false := not_yetF hcl 30 (show reachB (opsWxA pp) 30 7 6 = true by kernel_rfl) hLi
      exact step_load rfl rfl rfl (hF.at 7 rfl h7) (by rw [hW.1 nL]; exact run_ldIt _ _ _ x7) ⟨frm' 16 _ rfl, fun h => (getD_put_ne (by decide)).trans (f0 (by simpa using h)), fun h => (getD_put_ne (by decide)).trans (f1 (by simpa using h)), fun h => (getD_put_ne (by decide)).trans (f2 (by simpa using h)), fun h => (getD_put_ne (by decide)).trans (f3 (by simpa using h)), fun h => (getD_put_ne (by decide)).trans (f4 (by simpa using h)), fun h => (getD_put_ne (by decide)).trans (f5 (by simpa using h)), fun _ => getD_put_same (by rw [hsz]; omega), fun h => (getD_put_ne (by decide)).trans (f7 (by simpa using h)), u, (wsWxA_same _ _ _ _ _ _ _ _ _ _ _ _  rfl rfl hW)⟩
    · obtain rfl : oWxA7 pp = o := Option.some.inj ho
      have q3 : a'.tmps.getD 13 undef = .func (.func fid) fi ca := f3 (edge_ofF (o := oWxA7 pp) hpre 3 rfl)
      have q4 : a'.tmps.getD 14 undef = .int .i64 (wv : Int) := f4 (edge_ofF (o := oWxA7 pp) hpre 4 rfl)
      have q5 : a'.tmps.getD 15 undef = .int .i64 (k : Int) := f5 (edge_ofF (o := oWxA7 pp) hpre 5 rfl)
      have q6 : a'.tmps.getD 16 undef = .int .i64 (n : Int) := f6 (edge_ofF (o := oWxA7 pp) hpre 6 rfl)
      have n8 : L 8 = false := not_yetF hcl 30 (show reachB (opsWxA pp) 30 8 7 = true by kernel_rfl) hLi
      have hw := hW.1 hLi
      refine step_callV (vs := #[.int .i64 (wv : Int), .int .i64 (k : Int), .int .i64 (n : Int)]) rfl rfl rfl q3 hcf (show Array.map a'.eval #[.tmp 14, .tmp 15, .tmp 16] = _ from by simp only [List.map_toArray, List.map_cons, List.map_nil, Act.eval, q4, q5, q6]) ?_
      rw [hw]
      refine hC.mono ?_
      rintro e w'' ⟨rfl, hb⟩
      have hW2 : wsWxA r wv k n p5 p6 p7 p8 p fid fi ca w.drew (fun j => L j || j == 7) u w'' := by
        refine ⟨fun h => ?_, fun _ _ => hb, fun h => ?_⟩
        · simp at h
        · have h' : L 8 = true := by simpa using h
          rw [n8] at h'
          cases h'
      exact ⟨_, rfl, ⟨frm' 17 _ rfl, fun h => (getD_put_ne (by decide)).trans (f0 (by simpa using h)), fun h => (getD_put_ne (by decide)).trans (f1 (by simpa using h)), fun h => (getD_put_ne (by decide)).trans (f2 (by simpa using h)), fun h => (getD_put_ne (by decide)).trans (f3 (by simpa using h)), fun h => (getD_put_ne (by decide)).trans (f4 (by simpa using h)), fun h => (getD_put_ne (by decide)).trans (f5 (by simpa using h)), fun h => (getD_put_ne (by decide)).trans (f6 (by simpa using h)), fun _ => getD_put_same (by rw [hsz]; omega), u, hW2⟩⟩
    · obtain rfl : oWxA8 pp = o := Option.some.inj ho
      have q7 : a'.tmps.getD 17 undef = .int .i64 p := f7 (edge_ofF (o := oWxA8 pp) hpre 7 rfl)
      have hb := hW.2.1 (edge_ofF (o := oWxA8 pp) hpre 7 rfl) hLi
      have hx1 : a'.eval (.tmp 8) = .pointer (some ⟨p8, 0, none⟩) := hF.at 8 rfl h8f
      have hx2 : a'.eval (.tmp 17) = .int .i64 p := q7
      have hb8 := (hb.block p8 (Array.getElem?_eq_some_iff.1 h8).1).trans h8
      have c8 := blk_cell hb8 0
      have f8 := blk_frozen hb8 0
      have hst : (Instr.storeAt 3 (.pointer (some ⟨p8, 0, none⟩)) (.int .i64 p)).run Tryz.prog w' = .ok () (w'.setCell ⟨p8, 0, none⟩ (.int .i64 p)) := by simp [go_sem, c8, f8]
      refine step_skip (o := oWxA8 pp) rfl rfl (by intro c h; cases h) (by simp [Oper.about, oWxA8]) (w' := w'.setCell ⟨p8, 0, none⟩ (.int .i64 p)) (by
        unfold execOp
        simp only [oWxA8, hx1, hx2, Sem.run_bind, hst, Result.andThen_ok]
        rfl) ?_
      have hW2 : wsWxA r wv k n p5 p6 p7 p8 p fid fi ca w.drew (fun j => L j || j == 8) u (w'.setCell ⟨p8, 0, none⟩ (.int .i64 p)) := by
        refine ⟨fun h => ?_, fun _ h => ?_, fun _ => ⟨w', hb, rfl⟩⟩
        · have h' : L 7 = false := by simpa using h
          rw [edge_ofF (o := oWxA8 pp) hpre 7 rfl] at h'
          cases h'
        · simp at h
      exact ⟨hF, fun h => f0 (by simpa using h), fun h => f1 (by simpa using h), fun h => f2 (by simpa using h), fun h => f3 (by simpa using h), fun h => f4 (by simpa using h), fun h => f5 (by simpa using h), fun h => f6 (by simpa using h), fun h => f7 (by simpa using h), u, hW2⟩
    · exact absurd ((Array.getElem?_eq_some_iff.1 ho).1) (by simp [opsWxA])
  · intro L a' w' hv hall
    have hL : ∀ j, j < 9 → L j = true := fun j hj => hall j (by simpa [opsWxA] using hj)
    obtain ⟨hF, f0, f1, f2, f3, f4, f5, f6, f7, u, hW⟩ := hv
    have hW2 : wsWxA r wv k n p5 p6 p7 p8 p fid fi ca w.drew (fun _ => true) u w' := by
      unfold wsWxA at hW ⊢
      simp only [hL 7 (by omega), hL 8 (by omega)] at hW ⊢
      exact hW
    have hput : a' = puts [(10, .pointer (some ⟨r, 0, none⟩)), (11, .pointer (some ⟨r, 0, none⟩)), (12, .pointer (some ⟨r, 2, none⟩)), (13, .func (.func fid) fi ca), (14, .int .i64 (wv : Int)), (15, .int .i64 (k : Int)), (16, .int .i64 (n : Int)), (17, .int .i64 p)] a := hF.puts _ (by
      intro z hz
      simp only [List.mem_cons, List.not_mem_nil, or_false] at hz
      rcases hz with rfl | rfl | rfl | rfl | rfl | rfl | rfl | rfl
      · exact f0 (hL 0 (by omega))
      · exact f1 (hL 1 (by omega))
      · exact f2 (hL 2 (by omega))
      · exact f3 (hL 3 (by omega))
      · exact f4 (hL 4 (by omega))
      · exact f5 (hL 5 (by omega))
      · exact f6 (hL 6 (by omega))
      · exact f7 (hL 7 (by omega))) rfl (by rw [hN]; rfl)
    rw [hput]
    exact hQ u w' hW2
end Go.Proofs.YtfjmdkhemnmkpaaGreatDoor

namespace Go.Proofs.YtfjmdkhemnmkpaaGreatDoor
open Go.RowKit
theorem cellsI_at {w : World} {A : Addr} {l : List Nat} (h : HasI w (some A) l) : ∀ j u, (cellsI l)[j]? = some u → w.cell? (A.add j) = some u := by
  intro j u hj
  unfold cellsI at hj
  rw [List.getElem?_map] at hj
  obtain ⟨t, ht, rfl⟩ := Option.map_eq_some_iff.1 hj
  obtain ⟨hl, rfl⟩ := List.getElem?_eq_some_iff.1 ht
  obtain ⟨b, o, e, _, hc⟩ := h (by rintro rfl; simp at hl)
  cases e
  rw [addr_add]
  exact hc j hl
theorem hasI_new {w : World} {l : List Nat} {r : Array Value} {t : TypeId} : HasI (w.drew.alloc (.cells ((cellsI l).toArray ++ r) t)) (some ⟨w.heap.size, 0, none⟩) l := fun _ => by
  have hb : (w.drew.alloc (.cells ((cellsI l).toArray ++ r) t)).heap[w.heap.size]? = some (.cells ((cellsI l).toArray ++ r) t (0, 0)) := World.alloc_heap_new w.drew _
  refine ⟨w.heap.size, 0, rfl, (Array.getElem?_eq_some_iff.1 hb).1, fun j hj => ?_⟩
  rw [blk_cell hb, Array.getElem?_append_left (by simp [cellsI]; omega)]
  simp [cellsI, hj]
theorem run_append_fullI (w : World) (ty : TypeId) (A1 A2 : Option Addr) (n m c2 : Nat) (l1 l2 : List Nat) (h1 : HasI w A1 l1) (h2 : HasI w A2 l2) (hn : n = l1.length) (hm : m = l2.length) (hl : n + m ≤ 1000000) :
    ∃ A' c' W', (Builtin.append_ #[23, 23] ty #[.slice A1 n n, .slice A2 m c2]).run Tryz.prog w = .ok (.slice A' (n + m) c') W' ∧ n + m ≤ c' ∧ Below w.heap.size w W' ∧ HasI W' A' (l1 ++ l2) ∧ (A' = A1 ∨ A' = some ⟨w.heap.size, 0, none⟩) := by
  obtain ⟨i, hi, hz, hsz, hby⟩ := infoI_parts
  have hnew : ∀ o, Below w.heap.size w (w.drew.alloc o) := fun o => ((Below.refl _ w).drew).alloc (Nat.le_refl _) o
  by_cases h0 : l2 = []
  · subst h0
    obtain rfl : m = 0 := hm
    have hfc : ∀ k, (Builtin.firstCells 1 0 (.slice A2 0 k)).run Tryz.prog w = .ok #[] w := fun k => by
      cases A2 <;> simp [Builtin.firstCells, loadCells, loadCellsFrom]
    refine ⟨A1, n, w, ?_, Nat.le_refl _, Below.refl _ w, by rw [List.append_nil]; exact h1, .inl rfl⟩
    cases A1 with
    | none =>
      have e : l1 = [] := by
        cases l1 with
        | nil => rfl
        | cons x l => obtain ⟨b, o, e, _⟩ := h1 (by simp); cases e
      subst e
      obtain rfl : n = 0 := hn
      simp [Builtin.append_, run_underlying Tryz.underlying23, sizeOf, typeInfo, hi, Builtin.lenOf, hsz, hfc]
    | some b => simp [Builtin.append_, run_underlying Tryz.underlying23, sizeOf, typeInfo, hi, Builtin.lenOf, hsz, hfc, storeCells]
  · have hmp : 0 < m := by rw [hm]; exact List.length_pos_iff.2 h0
    obtain ⟨b2, o2, rfl, _, _⟩ := h2 h0
    have c2' := cellsI_at h2
    cases A1 with
    | none =>
      have e : l1 = [] := by
        cases l1 with
        | nil => rfl
        | cons x l => obtain ⟨b, o, e, _⟩ := h1 (by simp); cases e
      subst e
      obtain rfl : n = 0 := hn
      have hr := run_append_nil (P := Tryz.prog) w 23 ty 3 i _ Tryz.underlying23 hi hz ⟨b2, o2, none⟩ m c2 (cellsI l2) (by simp [cellsI, hm, hsz]) c2' hmp (by omega) (by rw [hby]; omega)
      refine ⟨_, _, _, by rw [Nat.zero_add]; exact hr, by rw [Nat.zero_add]; exact grownCap_ge _ _ _ _, hnew _, hasI_new, .inr rfl⟩
    | some A1 =>
      have hr := run_append_grow (P := Tryz.prog) w 23 ty 3 i _ Tryz.underlying23 hi hz A1 n n (cellsI l1) (by simp [cellsI, hn, hsz]) (cellsI_at h1) ⟨b2, o2, none⟩ m c2 (cellsI l2) (by simp [cellsI, hm, hsz]) c2' (by omega) (by omega) (growslice_fits (by omega) (by rw [hby]; omega))
      refine ⟨_, _, _, hr, grownCap_ge _ _ _ _, hnew _, ?_, .inr rfl⟩
      have e : (cellsI l1).toArray ++ (cellsI l2).toArray = (cellsI (l1 ++ l2)).toArray := by simp [cellsI]
      rw [e]
      exact hasI_new
theorem run_cutI (w : World) (ty : TypeId) (A1 A2 : Option Addr) (k m c2 : Nat) (l : List Nat) (hk : k < l.length) (h1 : HasI w A1 (l.take k)) (h2 : HasI w A2 (l.drop (k + 1))) (hm : m = l.length - (k + 1)) (hl : l.length ≤ 1000000) :
    ∃ A' c' W', (Builtin.append_ #[23, 23] ty #[.slice A1 k k, .slice A2 m c2]).run Tryz.prog w = .ok (.slice A' (l.length - 1) c') W' ∧ l.length - 1 ≤ c' ∧ Below w.heap.size w W' ∧ HasI W' A' (l.eraseIdx k) ∧ (A' = A1 ∨ A' = some ⟨w.heap.size, 0, none⟩) := by
  obtain ⟨A', c', W', h3, h4, h5, h6, h7⟩ := run_append_fullI w ty A1 A2 k m c2 _ _ h1 h2 (by rw [List.length_take]; omega) (by rw [List.length_drop, hm]) (by omega)
  have e : k + m = l.length - 1 := by omega
  rw [e] at h3 h4
  exact ⟨A', c', W', h3, h4, h5, by rw [List.eraseIdx_eq_take_drop_succ]; exact h6, h7⟩
def placeN (p : Int) (n : Nat) : Nat := (p % (n : Int)).toNat
theorem place_tmod (p : Int) {n : Nat} (h : 0 < n) : (if p.tmod n < 0 then p.tmod n + n else p.tmod n) = (placeN p n : Int) := by
  have h1 := Int.emod_nonneg p (show (n : Int) ≠ 0 by omega)
  have h2 := Int.emod_lt_of_pos p (show 0 < (n : Int) by omega)
  unfold placeN
  rw [Int.toNat_of_nonneg h1, Int.tmod_eq_emod]
  split <;> rename_i hp <;> simp at hp ⊢ <;> intro hh <;> omega
theorem place_lt (p : Int) {n : Nat} (h : 0 < n) : placeN p n < n := pick_lt p h
theorem orderG_at (pk : Nat → Nat → Int) (k : Nat) {l : List Nat} (h : 0 < l.length) :
    orderG pk l.length k l = (l[placeN (pk k l.length) l.length]'(place_lt _ h)) :: orderG pk (l.eraseIdx (placeN (pk k l.length) l.length)).length (k + 1) (l.eraseIdx (placeN (pk k l.length) l.length)) := by
  have hi := place_lt (pk k l.length) h
  obtain ⟨n, hn⟩ : ∃ n, n = l.length := ⟨_, rfl⟩
  cases l with
  | nil => cases h
  | cons x l =>
    have e : ((x :: l).eraseIdx (placeN (pk k (x :: l).length) (x :: l).length)).length = l.length := by
      rw [List.length_eraseIdx_of_lt hi]
      simp
    rw [e]
    show (((x :: l)[(pk k (x :: l).length % ((x :: l).length : Int)).toNat]?.getD 0) :: orderG pk l.length (k + 1) ((x :: l).eraseIdx (pk k (x :: l).length % ((x :: l).length : Int)).toNat)) = _
    rw [List.getElem?_eq_getElem (show (pk k (x :: l).length % ((x :: l).length : Int)).toNat < (x :: l).length from hi), Option.getD_some]
    rfl
def LeftW (pk : Nat → Nat → Nat → Int) (ord : List Nat) (t wv k : Nat) (left : List Nat) (gs : List (List Nat)) : Prop := ord.drop t = orderG (pk wv) left.length k left ++ orderW pk (wv + 1) gs
theorem LeftW.start {pk : Nat → Nat → Nat → Int} {ord : List Nat} {t wv : Nat} {g : List Nat} {gs : List (List Nat)} (h : ord.drop t = orderW pk wv (g :: gs)) : LeftW pk ord t wv 0 g gs := h
theorem LeftW.fin {pk : Nat → Nat → Nat → Int} {ord : List Nat} {t wv k : Nat} {gs : List (List Nat)} (h : LeftW pk ord t wv k [] gs) : ord.drop t = orderW pk (wv + 1) gs := h
theorem LeftW.step {pk : Nat → Nat → Nat → Int} {ord : List Nat} {t wv k : Nat} {left : List Nat} {gs : List (List Nat)} (h : LeftW pk ord t wv k left gs) (h0 : 0 < left.length) :
    ∃ ht : t < ord.length, ord[t] = left[placeN (pk wv k left.length) left.length]'(place_lt _ h0) ∧ LeftW pk ord (t + 1) wv (k + 1) (left.eraseIdx (placeN (pk wv k left.length) left.length)) gs := by
  unfold LeftW at h
  rw [orderG_at (pk wv) k h0, List.cons_append] at h
  have ht : t < ord.length := by
    have := congrArg List.length h
    rw [List.length_drop, List.length_cons] at this
    omega
  rw [List.drop_eq_getElem_cons ht] at h
  exact ⟨ht, (List.cons.inj h).1, (List.cons.inj h).2⟩
end Go.Proofs.YtfjmdkhemnmkpaaGreatDoor
