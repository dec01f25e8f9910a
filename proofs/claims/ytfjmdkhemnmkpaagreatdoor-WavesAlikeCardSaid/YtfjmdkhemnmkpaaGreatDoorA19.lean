/- Parts of the proof: WxDoR. -/
import Derived.Test.YtfjmdkhemnmkpaaGreatDoorA18
namespace Go.Proofs.YtfjmdkhemnmkpaaGreatDoor
open Go.RowKit
theorem run_fdW (w : World) (g : Nat) : (Instr.fieldAt 73 (.pointer (some ⟨g, 0, none⟩)) 0).run Tryz.prog w = .ok (.pointer (some ⟨g, 0, none⟩)) w := by
  first
    | kernel_rfl
    | (simp [go_sem, Instr.fieldAt]; done)
theorem run_fdW1 (w : World) (g : Nat) : (Instr.fieldAt 73 (.pointer (some ⟨g, 0, none⟩)) 1).run Tryz.prog w = .ok (.pointer (some ⟨g, 1, none⟩)) w := by
  first
    | kernel_rfl
    | (simp [go_sem, Instr.fieldAt]; done)
theorem run_fdW3 (w : World) (g : Nat) : (Instr.fieldAt 73 (.pointer (some ⟨g, 0, none⟩)) 3).run Tryz.prog w = .ok (.pointer (some ⟨g, 3, none⟩)) w := by
  first
    | kernel_rfl
    | (simp [go_sem, Instr.fieldAt]; done)
theorem run_fdW4 (w : World) (g : Nat) : (Instr.fieldAt 73 (.pointer (some ⟨g, 0, none⟩)) 4).run Tryz.prog w = .ok (.pointer (some ⟨g, 4, none⟩)) w := by
  first
    | kernel_rfl
    | (simp [go_sem, Instr.fieldAt]; done)
theorem run_ldAp (w : World) (p : Addr) (v : Value) (h : w.cell? p = some v) : (Instr.loadAt 26 (.pointer (some p))).run Tryz.prog w = .ok v w := by
  simp [go_sem, h]
theorem run_ldCs (w : World) (p : Addr) (v : Value) (h : w.cell? p = some v) : (Instr.loadAt 22 (.pointer (some p))).run Tryz.prog w = .ok v w := by
  simp [go_sem, h]
theorem run_ldDs (w : World) (p : Addr) (v : Value) (h : w.cell? p = some v) : (Instr.loadAt 40 (.pointer (some p))).run Tryz.prog w = .ok v w := by
  simp [go_sem, h]
theorem run_ldIt (w : World) (p : Addr) (v : Value) (h : w.cell? p = some v) : (Instr.loadAt 3 (.pointer (some p))).run Tryz.prog w = .ok v w := by
  simp [go_sem, h]
theorem run_ixCm (w : World) (b o L c q : Nat) (h : q < L) : (Instr.indexAt 22 (.slice (some ⟨b, o, none⟩) L c) (.int .i64 (q : Int))).run Tryz.prog w = .ok (.pointer (some ⟨b, o + q * 7, none⟩)) w := by
  have h1 : (q : Int) < L := by omega
  have h0 : (0 : Int) ≤ (q : Int) := by omega
  simp [go_sem, h1, h0]
theorem run_ixDn (w : World) (b L c q : Nat) (h : q < L) : (Instr.indexAt 40 (.slice (some ⟨b, 0, none⟩) L c) (.int .i64 (q : Int))).run Tryz.prog w = .ok (.pointer (some ⟨b, q * 5, none⟩)) w := by
  have h1 : (q : Int) < L := by omega
  have h0 : (0 : Int) ≤ (q : Int) := by omega
  simp [go_sem, h1, h0]
theorem run_ldCmAt (w : World) (b o : Nat) (x : CmdV) (h : ∀ i u, x.cells[i]? = some u → w.cell? ⟨b, o + i, none⟩ = some u) : (Instr.loadAt 57 (.pointer (some ⟨b, o, none⟩))).run Tryz.prog w = .ok x.val w := by
  have h0 := h 0 _ rfl
  have h1 := h 1 _ rfl
  have h2 := h 2 _ rfl
  have h3 := h 3 _ rfl
  have h4 := h 4 _ rfl
  have h5 := h 5 _ rfl
  have h6 := h 6 _ rfl
  simp only [Nat.add_zero] at h0
  simp [go_sem, h0, h1, h2, h3, h4, h5, h6, CmdV.val, CmdV.cells]
theorem run_stDn (w : World) (b q : Nat) (d : DV) (h0 : ∃ v, w.cell? ⟨b, q * 5, none⟩ = some v) (h1 : ∃ v, w.cell? ⟨b, q * 5 + 1, none⟩ = some v) (h2 : ∃ v, w.cell? ⟨b, q * 5 + 2, none⟩ = some v) (h3 : ∃ v, w.cell? ⟨b, q * 5 + 3, none⟩ = some v) (h4 : ∃ v, w.cell? ⟨b, q * 5 + 4, none⟩ = some v) (hz : ∀ i, w.frozen? ⟨b, i, none⟩ = false) :
    (Instr.storeAt 47 (.pointer (some ⟨b, q * 5, none⟩)) (.agg d.cells)).run Tryz.prog w = .ok () (setDn w b q d) := by
  obtain ⟨v0, c0⟩ := h0
  obtain ⟨v1, c1⟩ := h1
  obtain ⟨v2, c2⟩ := h2
  obtain ⟨v3, c3⟩ := h3
  obtain ⟨v4, c4⟩ := h4
  simp [go_sem, c0, c1, c2, c3, c4, hz, DV.cells, setDn]
theorem run_bdDn (w : World) (cd wv tn : Nat) (tx : ByteArray) (fr : Bool) : (Instr.build 47 #[(0, .agg #[.int .u8 (cd : Int), .string tx]), (1, .bool fr), (2, .int .i64 (wv : Int)), (3, .int .i64 (tn : Int))]).run Tryz.prog w = .ok (.agg #[.int .u8 (cd : Int), .string tx, .bool fr, .int .i64 (wv : Int), .int .i64 (tn : Int)]) w := by
  simp [go_sem, Instr.build]
section
variable {n : Nat} {Q : Exit → Act → World → Prop} {ops : Array Oper} {i : Nat} {o : Oper} {a : Act} {w : World} {K : Act → World → Prop}
theorem step_bdDn {x0 x1 x2 x3 : Operand} {cd wv tn : Nat} {tx : ByteArray} {fr : Bool} (hi : ops[i]? = some o) (hw : Region.wanted o (yielded ops a.tmps) = true) (ho : o.op = .build 47 #[(0, x0), (1, x1), (2, x2), (3, x3)]) (h0 : a.eval x0 = .agg #[.int .u8 (cd : Int), .string tx]) (h1 : a.eval x1 = .bool fr) (h2 : a.eval x2 = .int .i64 (wv : Int)) (h3 : a.eval x3 = .int .i64 (tn : Int)) (h : K (a.put o.dst (.agg #[.int .u8 (cd : Int), .string tx, .bool fr, .int .i64 (wv : Int), .int .i64 (tn : Int)])) w) : wpOpIn Fence.wide n Tryz.prog ops Q i K a w :=
  step_run hi hw (by rw [ho]; intro c h; cases h) (by simp [Oper.about, ho]) (by simp [execOp, ho, h0, h1, h2, h3, run_bdDn]) h
end
def oWvA0 (pp : String) : Oper := { dst := some 9, op := Op.move (Operand.tmp 0), type := 68, pos := pp, after := #[], guard := none }
def oWvA1 (pp : String) : Oper := { dst := some 10, op := Op.nilCheck (Operand.tmp 9), type := 0, pos := pp, after := #[{ on := 0, ground := Ground.data }], guard := none }
def oWvA2 (pp : String) : Oper := { dst := some 11, op := Op.fieldAddr 73 (Operand.tmp 10) 0, type := 0, pos := pp, after := #[{ on := 1, ground := Ground.data }], guard := none }
def oWvA3 (pp : String) : Oper := { dst := some 12, op := Op.load 26 (Operand.tmp 11), type := 26, pos := pp, after := #[{ on := 2, ground := Ground.data }], guard := none }
def oWvA4 (pp : String) : Oper := { dst := some 13, op := Op.move (Operand.tmp 0), type := 68, pos := pp, after := #[], guard := none }
def oWvA5 (pp : String) : Oper := { dst := some 14, op := Op.nilCheck (Operand.tmp 13), type := 0, pos := pp, after := #[{ on := 4, ground := Ground.data }], guard := none }
def oWvA6 (pp : String) : Oper := { dst := some 15, op := Op.fieldAddr 73 (Operand.tmp 14) 1, type := 0, pos := pp, after := #[{ on := 5, ground := Ground.data }], guard := none }
def oWvA7 (pp : String) : Oper := { dst := some 16, op := Op.load 22 (Operand.tmp 15), type := 22, pos := pp, after := #[{ on := 6, ground := Ground.data }], guard := none }
def oWvA8 (pp : String) : Oper := { dst := some 17, op := Op.move (Operand.tmp 1), type := 3, pos := pp, after := #[], guard := none }
def oWvA9 (pp : String) : Oper := { dst := some 18, op := Op.indexAddr 22 (Operand.tmp 16) (Operand.tmp 17), type := 0, pos := pp, after := #[{ on := 7, ground := Ground.data }, { on := 8, ground := Ground.data }], guard := none }
def oWvA10 (pp : String) : Oper := { dst := some 19, op := Op.load 57 (Operand.tmp 18), type := 57, pos := pp, after := #[{ on := 9, ground := Ground.data }], guard := none }
def oWvA11 (pp : String) : Oper := { dst := some 20, op := Op.call { callee := Callee.value (Operand.func 22), args := #[Operand.tmp 12, Operand.tmp 19], argTypes := #[26, 57] }, type := 61, pos := pp, after := #[{ on := 3, ground := Ground.data }, { on := 10, ground := Ground.data }], guard := none }
def oWvA12 (pp : String) : Oper := { dst := some 8, op := Op.move (Operand.tmp 20), type := 61, pos := pp, after := #[{ on := 11, ground := Ground.data }], guard := none }
def oWvA13 (pp : String) : Oper := { dst := some 21, op := Op.extract (Operand.tmp 8) 0, type := 45, pos := pp, after := #[{ on := 12, ground := Ground.data }], guard := none }
def oWvA14 (pp : String) : Oper := { dst := some 22, op := Op.extract (Operand.tmp 8) 1, type := 4, pos := pp, after := #[{ on := 12, ground := Ground.data }, { on := 16, ground := Ground.gcOnly Departure.lateStores }], guard := none }
def oWvA15 (pp : String) : Oper := { dst := some 6, op := Op.alloc 45, type := 0, pos := pp, after := #[], guard := none }
def oWvA16 (pp : String) : Oper := { dst := none, op := Op.store 45 (Operand.tmp 6) (Operand.tmp 21), type := 0, pos := pp, after := #[{ on := 15, ground := Ground.data }, { on := 13, ground := Ground.data }, { on := 11, ground := Ground.chain }, { on := 0, ground := Ground.phase }, { on := 1, ground := Ground.phase }, { on := 2, ground := Ground.phase }, { on := 3, ground := Ground.phase }, { on := 4, ground := Ground.phase }, { on := 5, ground := Ground.phase }, { on := 6, ground := Ground.phase }, { on := 7, ground := Ground.phase }, { on := 8, ground := Ground.phase }, { on := 9, ground := Ground.phase }, { on := 10, ground := Ground.phase }, { on := 11, ground := Ground.phase }, { on := 12, ground := Ground.phase }, { on := 13, ground := Ground.phase }, { on := 14, ground := Ground.textOnly Departure.lateStores }, { on := 15, ground := Ground.phase }], guard := none }
def oWvA17 (pp : String) : Oper := { dst := some 7, op := Op.assign (Operand.tmp 22), type := 4, pos := pp, after := #[{ on := 14, ground := Ground.data }, { on := 16, ground := Ground.chain }, { on := 0, ground := Ground.phase }, { on := 1, ground := Ground.phase }, { on := 2, ground := Ground.phase }, { on := 3, ground := Ground.phase }, { on := 4, ground := Ground.phase }, { on := 5, ground := Ground.phase }, { on := 6, ground := Ground.phase }, { on := 7, ground := Ground.phase }, { on := 8, ground := Ground.phase }, { on := 9, ground := Ground.phase }, { on := 10, ground := Ground.phase }, { on := 11, ground := Ground.phase }, { on := 12, ground := Ground.phase }, { on := 13, ground := Ground.phase }, { on := 14, ground := Ground.phase }, { on := 15, ground := Ground.phase }, { on := 16, ground := Ground.phase }], guard := none }
def opsWvA (pp : String) : List Oper := [oWvA0 pp, oWvA1 pp, oWvA2 pp, oWvA3 pp, oWvA4 pp, oWvA5 pp, oWvA6 pp, oWvA7 pp, oWvA8 pp, oWvA9 pp, oWvA10 pp, oWvA11 pp, oWvA12 pp, oWvA13 pp, oWvA14 pp, oWvA15 pp, oWvA16 pp, oWvA17 pp]
theorem opsWvA_back (pp : String) : backwards (opsWvA pp) = true := by kernel_rfl
def wsWvA (J : World → Prop) (_R _r _qi _cb _co _M _c cd : Nat) (tx : ByteArray) (_fr : Bool) (_v : CmdV) (W0 : World) (L : Nat → Bool) (u : Value) (w : World) : Prop := (L 11 = false → Below W0.heap.size W0 w) ∧ W0.heap.size ≤ w.heap.size ∧ (L 11 = true → L 16 = false → J w) ∧ (L 15 = true → ∃ x, u = .pointer (some ⟨x, 0, none⟩) ∧ W0.heap.size ≤ x ∧ (L 16 = false → RepB w x 0 ⟨#[]⟩)) ∧ (L 16 = true → ∃ x W1, u = .pointer (some ⟨x, 0, none⟩) ∧ W0.heap.size ≤ x ∧ J W1 ∧ RepB W1 x 0 ⟨#[]⟩ ∧ w = (W1.setCell ⟨x, 0, none⟩ (.int .u8 (cd : Int))).setCell ⟨x, 1, none⟩ (.string tx))
theorem wsWvA_same (J : World → Prop) (R r qi cb co M c cd : Nat) (tx : ByteArray) (fr : Bool) (v : CmdV) {W0 : World} {L : Nat → Bool} {i : Nat} {u : Value} {w : World} (k11 : ((11 : Nat) == i) = false) (k15 : ((15 : Nat) == i) = false) (k16 : ((16 : Nat) == i) = false) (h : wsWvA J R r qi cb co M c cd tx fr v W0 L u w) : wsWvA J R r qi cb co M c cd tx fr v W0 (fun j => L j || j == i) u w := by
  unfold wsWvA at h ⊢
  simp only [beq_noF k11, beq_noF k15, beq_noF k16]
  exact h
structure InvWvA (J : World → Prop) (R r qi cb co M c cd : Nat) (tx : ByteArray) (fr : Bool) (v : CmdV) (W0 : World) (a : Act) (pp : String) (L : Nat → Bool) (a' : Act) (w' : World) : Prop where
  frm : Frm (opsWvA pp) a a'
  f0 : L 0 = true → a'.tmps.getD 9 undef = .pointer (some ⟨r, 0, none⟩)
  f1 : L 1 = true → a'.tmps.getD 10 undef = .pointer (some ⟨r, 0, none⟩)
  f2 : L 2 = true → a'.tmps.getD 11 undef = .pointer (some ⟨r, 0, none⟩)
  f3 : L 3 = true → a'.tmps.getD 12 undef = .pointer (some ⟨R, 0, none⟩)
  f4 : L 4 = true → a'.tmps.getD 13 undef = .pointer (some ⟨r, 0, none⟩)
  f5 : L 5 = true → a'.tmps.getD 14 undef = .pointer (some ⟨r, 0, none⟩)
  f6 : L 6 = true → a'.tmps.getD 15 undef = .pointer (some ⟨r, 1, none⟩)
  f7 : L 7 = true → a'.tmps.getD 16 undef = .slice (some ⟨cb, co, none⟩) M c
  f8 : L 8 = true → a'.tmps.getD 17 undef = .int .i64 (qi : Int)
  f9 : L 9 = true → a'.tmps.getD 18 undef = .pointer (some ⟨cb, co + qi * 7, none⟩)
  f10 : L 10 = true → a'.tmps.getD 19 undef = v.val
  f11 : L 11 = true → a'.tmps.getD 20 undef = .tuple #[.agg #[.int .u8 (cd : Int), .string tx], .bool fr]
  f12 : L 12 = true → a'.tmps.getD 8 undef = .tuple #[.agg #[.int .u8 (cd : Int), .string tx], .bool fr]
  f13 : L 13 = true → a'.tmps.getD 21 undef = .agg #[.int .u8 (cd : Int), .string tx]
  f14 : L 14 = true → a'.tmps.getD 22 undef = .bool fr
  f17 : L 17 = true → a'.tmps.getD 7 undef = .bool fr
  ex : ∃ u : Value, (L 15 = true → a'.tmps.getD 6 undef = u) ∧ wsWvA J R r qi cb co M c cd tx fr v W0 L u w'
set_option maxRecDepth 100000 in
set_option maxHeartbeats 4000000 in
theorem wvdo_a {pp : String} (J : World → Prop) (R r qi cb co M c cd : Nat) (tx : ByteArray) (fr : Bool) (v : CmdV) (a : Act) (w : World) (Q : Exit → Act → World → Prop) (hN : a.tmps.size = 44) (h0 : a.tmps.getD 0 undef = .pointer (some ⟨r, 0, none⟩)) (h1 : a.tmps.getD 1 undef = .int .i64 (qi : Int)) (hrl : r < w.drew.heap.size) (hcb : cb < w.drew.heap.size) (hi : qi < M) (x0 : w.drew.cell? ⟨r, 0, none⟩ = some (.pointer (some ⟨R, 0, none⟩))) (x1 : w.drew.cell? ⟨r, 1, none⟩ = some (.slice (some ⟨cb, co, none⟩) M c)) (hv : ∀ j u, v.cells[j]? = some u → w.drew.cell? ⟨cb, co + qi * 7 + j, none⟩ = some u) (hJ : ∀ W o, J W → J (W.alloc o)) (hC : ∀ w', Below w.drew.heap.size w.drew w' → Calls Tryz.prog 22 #[.pointer (some ⟨R, 0, none⟩), v.val] w' fun e W' => e = .returned (.tuple #[.agg #[.int .u8 (cd : Int), .string tx], .bool fr]) ∧ J W' ∧ w'.heap.size ≤ W'.heap.size ∧ ∀ k, w.drew.heap.size ≤ k → k < w'.heap.size → W'.heap[k]? = w'.heap[k]?) (hW0 : wsWvA J R r qi cb co M c cd tx fr v w.drew (fun _ => false) undef w.drew) (hQ : ∀ (u : Value) w', wsWvA J R r qi cb co M c cd tx fr v w.drew (fun _ => true) u w' → Q .normal (puts [(9, .pointer (some ⟨r, 0, none⟩)), (10, .pointer (some ⟨r, 0, none⟩)), (11, .pointer (some ⟨r, 0, none⟩)), (12, .pointer (some ⟨R, 0, none⟩)), (13, .pointer (some ⟨r, 0, none⟩)), (14, .pointer (some ⟨r, 0, none⟩)), (15, .pointer (some ⟨r, 1, none⟩)), (16, .slice (some ⟨cb, co, none⟩) M c), (17, .int .i64 (qi : Int)), (18, .pointer (some ⟨cb, co + qi * 7, none⟩)), (19, v.val), (20, .tuple #[.agg #[.int .u8 (cd : Int), .string tx], .bool fr]), (8, .tuple #[.agg #[.int .u8 (cd : Int), .string tx], .bool fr]), (21, .agg #[.int .u8 (cd : Int), .string tx]), (22, .bool fr), (6, u), (7, .bool fr)] a) w')
    : (Code.region 0 (opsWvA pp).toArray true).wp Tryz.prog Q a w := by
  refine (wpIn_wide (n := 1)).1 (wpIn_region_by follows (opsWvA_back pp) (InvWvA J R r qi cb co M c cd tx fr v w.drew a pp) ?_ ?_ ?_)
  · exact ⟨⟨rfl, rfl, fun _ _ => rfl⟩, fun h => (by cases h), fun h => (by cases h), fun h => (by cases h), fun h => (by cases h), fun h => (by cases h), fun h => (by cases h), fun h => (by cases h), fun h => (by cases h), fun h => (by cases h), fun h => (by cases h), fun h => (by cases h), fun h => (by cases h), fun h => (by cases h), fun h => (by cases h), fun h => (by cases h), fun h => (by cases h), undef, fun h => (by cases h), hW0⟩
  · intro L a' w' i o hv ho hLi hpre hcl
    obtain ⟨hF, f0, f1, f2, f3, f4, f5, f6, f7, f8, f9, f10, f11, f12, f13, f14, f17, u, fu, hW⟩ := hv
    have hsz : a'.tmps.size = 44 := hF.size.trans hN
    have frm' : ∀ (d : Nat) (v : Value), o.dst = some d → Frm (opsWvA pp) a (a'.put (some d) v) := fun d v hd => ⟨size_put.trans hF.size, defers_put.trans hF.defers, fun s hs => by
      have hm : o ∈ opsWvA pp := by simpa using List.mem_of_getElem? (by simpa using ho)
      rw [getD_put_ne (fun e => hs o hm (by rw [hd, e]))]
      exact hF.old s hs⟩
    rcases i with _ | _ | _ | _ | _ | _ | _ | _ | _ | _ | _ | _ | _ | _ | _ | _ | _ | _ | i
    · obtain rfl : oWvA0 pp = o := Option.some.inj ho
      exact step_move rfl rfl rfl (hF.at 0 rfl h0) ⟨frm' 9 _ rfl, fun _ => getD_put_same (by rw [hsz]; omega), fun h => (getD_put_ne (by decide)).trans (f1 (by simpa using h)), fun h => (getD_put_ne (by decide)).trans (f2 (by simpa using h)), fun h => (getD_put_ne (by decide)).trans (f3 (by simpa using h)), fun h => (getD_put_ne (by decide)).trans (f4 (by simpa using h)), fun h => (getD_put_ne (by decide)).trans (f5 (by simpa using h)), fun h => (getD_put_ne (by decide)).trans (f6 (by simpa using h)), fun h => (getD_put_ne (by decide)).trans (f7 (by simpa using h)), fun h => (getD_put_ne (by decide)).trans (f8 (by simpa using h)), fun h => (getD_put_ne (by decide)).trans (f9 (by simpa using h)), fun h => (getD_put_ne (by decide)).trans (f10 (by simpa using h)), fun h => (getD_put_ne (by decide)).trans (f11 (by simpa using h)), fun h => (getD_put_ne (by decide)).trans (f12 (by simpa using h)), fun h => (getD_put_ne (by decide)).trans (f13 (by simpa using h)), fun h => (getD_put_ne (by decide)).trans (f14 (by simpa using h)), fun h => (getD_put_ne (by decide)).trans (f17 (by simpa using h)), u, fun h => (getD_put_ne (by decide)).trans (fu (by simpa using h)), (wsWvA_same _ _ _ _ _ _ _ _ _ _ _ _  rfl rfl rfl hW)⟩
    · obtain rfl : oWvA1 pp = o := Option.some.inj ho
      have q0 : a'.tmps.getD 9 undef = .pointer (some ⟨r, 0, none⟩) := f0 (edge_ofF (o := oWvA1 pp) hpre 0 rfl)
      have nL : L 11 = false := not_yetF hcl 30 (show reachB (opsWvA pp) 30 11 1 = true by kernel_rfl) hLi
      exact step_nilCheckF rfl rfl rfl q0 (trivial) ⟨frm' 10 _ rfl, fun h => (getD_put_ne (by decide)).trans (f0 (by simpa using h)), fun _ => getD_put_same (by rw [hsz]; omega), fun h => (getD_put_ne (by decide)).trans (f2 (by simpa using h)), fun h => (getD_put_ne (by decide)).trans (f3 (by simpa using h)), fun h => (getD_put_ne (by decide)).trans (f4 (by simpa using h)), fun h => (getD_put_ne (by decide)).trans (f5 (by simpa using h)), fun h => (getD_put_ne (by decide)).trans (f6 (by simpa using h)), fun h => (getD_put_ne (by decide)).trans (f7 (by simpa using h)), fun h => (getD_put_ne (by decide)).trans (f8 (by simpa using h)), fun h => (getD_put_ne (by decide)).trans (f9 (by simpa using h)), fun h => (getD_put_ne (by decide)).trans (f10 (by simpa using h)), fun h => (getD_put_ne (by decide)).trans (f11 (by simpa using h)), fun h => (getD_put_ne (by decide)).trans (f12 (by simpa using h)), fun h => (getD_put_ne (by decide)).trans (f13 (by simpa using h)), fun h => (getD_put_ne (by decide)).trans (f14 (by simpa using h)), fun h => (getD_put_ne (by decide)).trans (f17 (by simpa using h)), u, fun h => (getD_put_ne (by decide)).trans (fu (by simpa using h)), (wsWvA_same _ _ _ _ _ _ _ _ _ _ _ _  rfl rfl rfl hW)⟩
    · obtain rfl : oWvA2 pp = o := Option.some.inj ho
      have q1 : a'.tmps.getD 10 undef = .pointer (some ⟨r, 0, none⟩) := f1 (edge_ofF (o := oWvA2 pp) hpre 1 rfl)
      have nL : L 11 = false := not_yetF hcl 30 (show reachB (opsWvA pp) 30 11 2 = true by kernel_rfl) hLi
      exact step_fieldF rfl rfl rfl q1 (run_fdW _ _) ⟨frm' 11 _ rfl, fun h => (getD_put_ne (by decide)).trans (f0 (by simpa using h)), fun h => (getD_put_ne (by decide)).trans (f1 (by simpa using h)), fun _ => getD_put_same (by rw [hsz]; omega), fun h => (getD_put_ne (by decide)).trans (f3 (by simpa using h)), fun h => (getD_put_ne (by decide)).trans (f4 (by simpa using h)), fun h => (getD_put_ne (by decide)).trans (f5 (by simpa using h)), fun h => (getD_put_ne (by decide)).trans (f6 (by simpa using h)), fun h => (getD_put_ne (by decide)).trans (f7 (by simpa using h)), fun h => (getD_put_ne (by decide)).trans (f8 (by simpa using h)), fun h => (getD_put_ne (by decide)).trans (f9 (by simpa using h)), fun h => (getD_put_ne (by decide)).trans (f10 (by simpa using h)), fun h => (getD_put_ne (by decide)).trans (f11 (by simpa using h)), fun h => (getD_put_ne (by decide)).trans (f12 (by simpa using h)), fun h => (getD_put_ne (by decide)).trans (f13 (by simpa using h)), fun h => (getD_put_ne (by decide)).trans (f14 (by simpa using h)), fun h => (getD_put_ne (by decide)).trans (f17 (by simpa using h)), u, fun h => (getD_put_ne (by decide)).trans (fu (by simpa using h)), (wsWvA_same _ _ _ _ _ _ _ _ _ _ _ _  rfl rfl rfl hW)⟩
    · obtain rfl : oWvA3 pp = o := Option.some.inj ho
      have q2 : a'.tmps.getD 11 undef = .pointer (some ⟨r, 0, none⟩) := f2 (edge_ofF (o := oWvA3 pp) hpre 2 rfl)
      have nL : L 11 = false := not_yetF hcl 30 (show reachB (opsWvA pp) 30 11 3 = true by kernel_rfl) hLi
      exact step_load rfl rfl rfl q2 (run_ldAp _ _ _ (((hW.1 nL).cell (p := ⟨r, 0, none⟩) hrl).trans x0)) ⟨frm' 12 _ rfl, fun h => (getD_put_ne (by decide)).trans (f0 (by simpa using h)), fun h => (getD_put_ne (by decide)).trans (f1 (by simpa using h)), fun h => (getD_put_ne (by decide)).trans (f2 (by simpa using h)), fun _ => getD_put_same (by rw [hsz]; omega), fun h => (getD_put_ne (by decide)).trans (f4 (by simpa using h)), fun h => (getD_put_ne (by decide)).trans (f5 (by simpa using h)), fun h => (getD_put_ne (by decide)).trans (f6 (by simpa using h)), fun h => (getD_put_ne (by decide)).trans (f7 (by simpa using h)), fun h => (getD_put_ne (by decide)).trans (f8 (by simpa using h)), fun h => (getD_put_ne (by decide)).trans (f9 (by simpa using h)), fun h => (getD_put_ne (by decide)).trans (f10 (by simpa using h)), fun h => (getD_put_ne (by decide)).trans (f11 (by simpa using h)), fun h => (getD_put_ne (by decide)).trans (f12 (by simpa using h)), fun h => (getD_put_ne (by decide)).trans (f13 (by simpa using h)), fun h => (getD_put_ne (by decide)).trans (f14 (by simpa using h)), fun h => (getD_put_ne (by decide)).trans (f17 (by simpa using h)), u, fun h => (getD_put_ne (by decide)).trans (fu (by simpa using h)), (wsWvA_same _ _ _ _ _ _ _ _ _ _ _ _  rfl rfl rfl hW)⟩
    · obtain rfl : oWvA4 pp = o := Option.some.inj ho
      exact step_move rfl rfl rfl (hF.at 0 rfl h0) ⟨frm' 13 _ rfl, fun h => (getD_put_ne (by decide)).trans (f0 (by simpa using h)), fun h => (getD_put_ne (by decide)).trans (f1 (by simpa using h)), fun h => (getD_put_ne (by decide)).trans (f2 (by simpa using h)), fun h => (getD_put_ne (by decide)).trans (f3 (by simpa using h)), fun _ => getD_put_same (by rw [hsz]; omega), fun h => (getD_put_ne (by decide)).trans (f5 (by simpa using h)), fun h => (getD_put_ne (by decide)).trans (f6 (by simpa using h)), fun h => (getD_put_ne (by decide)).trans (f7 (by simpa using h)), fun h => (getD_put_ne (by decide)).trans (f8 (by simpa using h)), fun h => (getD_put_ne (by decide)).trans (f9 (by simpa using h)), fun h => (getD_put_ne (by decide)).trans (f10 (by simpa using h)), fun h => (getD_put_ne (by decide)).trans (f11 (by simpa using h)), fun h => (getD_put_ne (by decide)).trans (f12 (by simpa using h)), fun h => (getD_put_ne (by decide)).trans (f13 (by simpa using h)), fun h => (getD_put_ne (by decide)).trans (f14 (by simpa using h)), fun h => (getD_put_ne (by decide)).trans (f17 (by simpa using h)), u, fun h => (getD_put_ne (by decide)).trans (fu (by simpa using h)), (wsWvA_same _ _ _ _ _ _ _ _ _ _ _ _  rfl rfl rfl hW)⟩
    · obtain rfl : oWvA5 pp = o := Option.some.inj ho
      have q4 : a'.tmps.getD 13 undef = .pointer (some ⟨r, 0, none⟩) := f4 (edge_ofF (o := oWvA5 pp) hpre 4 rfl)
      have nL : L 11 = false := not_yetF hcl 30 (show reachB (opsWvA pp) 30 11 5 = true by kernel_rfl) hLi
      exact step_nilCheckF rfl rfl rfl q4 (trivial) ⟨frm' 14 _ rfl, fun h => (getD_put_ne (by decide)).trans (f0 (by simpa using h)), fun h => (getD_put_ne (by decide)).trans (f1 (by simpa using h)), fun h => (getD_put_ne (by decide)).trans (f2 (by simpa using h)), fun h => (getD_put_ne (by decide)).trans (f3 (by simpa using h)), fun h => (getD_put_ne (by decide)).trans (f4 (by simpa using h)), fun _ => getD_put_same (by rw [hsz]; omega), fun h => (getD_put_ne (by decide)).trans (f6 (by simpa using h)), fun h => (getD_put_ne (by decide)).trans (f7 (by simpa using h)), fun h => (getD_put_ne (by decide)).trans (f8 (by simpa using h)), fun h => (getD_put_ne (by decide)).trans (f9 (by simpa using h)), fun h => (getD_put_ne (by decide)).trans (f10 (by simpa using h)), fun h => (getD_put_ne (by decide)).trans (f11 (by simpa using h)), fun h => (getD_put_ne (by decide)).trans (f12 (by simpa using h)), fun h => (getD_put_ne (by decide)).trans (f13 (by simpa using h)), fun h => (getD_put_ne (by decide)).trans (f14 (by simpa using h)), fun h => (getD_put_ne (by decide)).trans (f17 (by simpa using h)), u, fun h => (getD_put_ne (by decide)).trans (fu (by simpa using h)), (wsWvA_same _ _ _ _ _ _ _ _ _ _ _ _  rfl rfl rfl hW)⟩
    · obtain rfl : oWvA6 pp = o := Option.some.inj ho
      have q5 : a'.tmps.getD 14 undef = .pointer (some ⟨r, 0, none⟩) := f5 (edge_ofF (o := oWvA6 pp) hpre 5 rfl)
      have nL : L 11 = false := not_yetF hcl 30 (show reachB (opsWvA pp) 30 11 6 = true by kernel_rfl) hLi
      exact step_fieldF rfl rfl rfl q5 (run_fdW1 _ _) ⟨frm' 15 _ rfl, fun h => (getD_put_ne (by decide)).trans (f0 (by simpa using h)), fun h => (getD_put_ne (by decide)).trans (f1 (by simpa using h)), fun h => (getD_put_ne (by decide)).trans (f2 (by simpa using h)), fun h => (getD_put_ne (by decide)).trans (f3 (by simpa using h)), fun h => (getD_put_ne (by decide)).trans (f4 (by simpa using h)), fun h => (getD_put_ne (by decide)).trans (f5 (by simpa using h)), fun _ => getD_put_same (by rw [hsz]; omega), fun h => (getD_put_ne (by decide)).trans (f7 (by simpa using h)), fun h => (getD_put_ne (by decide)).trans (f8 (by simpa using h)), fun h => (getD_put_ne (by decide)).trans (f9 (by simpa using h)), fun h => (getD_put_ne (by decide)).trans (f10 (by simpa using h)), fun h => (getD_put_ne (by decide)).trans (f11 (by simpa using h)), fun h => (getD_put_ne (by decide)).trans (f12 (by simpa using h)), fun h => (getD_put_ne (by decide)).trans (f13 (by simpa using h)), fun h => (getD_put_ne (by decide)).trans (f14 (by simpa using h)), fun h => (getD_put_ne (by decide)).trans (f17 (by simpa using h)), u, fun h => (getD_put_ne (by decide)).trans (fu (by simpa using h)), (wsWvA_same _ _ _ _ _ _ _ _ _ _ _ _  rfl rfl rfl hW)⟩
    · obtain rfl : oWvA7 pp = o := Option.some.inj ho
      have q6 : a'.tmps.getD 15 undef = .pointer (some ⟨r, 1, none⟩) := f6 (edge_ofF (o := oWvA7 pp) hpre 6 rfl)
      have nL : L 11 = false := not_yetF hcl 30 (show reachB (opsWvA pp) 30 11 7 = true by kernel_rfl) hLi
      exact step_load rfl rfl rfl q6 (run_ldCs _ _ _ (((hW.1 nL).cell (p := ⟨r, 1, none⟩) hrl).trans x1)) ⟨frm' 16 _ rfl, fun h => (getD_put_ne (by decide)).trans (f0 (by simpa using h)), fun h => (getD_put_ne (by decide)).trans (f1 (by simpa using h)), fun h => (getD_put_ne (by decide)).trans (f2 (by simpa using h)), fun h => (getD_put_ne (by decide)).trans (f3 (by simpa using h)), fun h => (getD_put_ne (by decide)).trans (f4 (by simpa using h)), fun h => (getD_put_ne (by decide)).trans (f5 (by simpa using h)), fun h => (getD_put_ne (by decide)).trans (f6 (by simpa using h)), fun _ => getD_put_same (by rw [hsz]; omega), fun h => (getD_put_ne (by decide)).trans (f8 (by simpa using h)), fun h => (getD_put_ne (by decide)).trans (f9 (by simpa using h)), fun h => (getD_put_ne (by decide)).trans (f10 (by simpa using h)), fun h => (getD_put_ne (by decide)).trans (f11 (by simpa using h)), fun h => (getD_put_ne (by decide)).trans (f12 (by simpa using h)), fun h => (getD_put_ne (by decide)).trans (f13 (by simpa using h)), fun h => (getD_put_ne (by decide)).trans (f14 (by simpa using h)), fun h => (getD_put_ne (by decide)).trans (f17 (by simpa using h)), u, fun h => (getD_put_ne (by decide)).trans (fu (by simpa using h)), (wsWvA_same _ _ _ _ _ _ _ _ _ _ _ _  rfl rfl rfl hW)⟩
    · obtain rfl : oWvA8 pp = o := Option.some.inj ho
      exact step_move rfl rfl rfl (hF.at 1 rfl h1) ⟨frm' 17 _ rfl, fun h => (getD_put_ne (by decide)).trans (f0 (by simpa using h)), fun h => (getD_put_ne (by decide)).trans (f1 (by simpa using h)), fun h => (getD_put_ne (by decide)).trans (f2 (by simpa using h)), fun h => (getD_put_ne (by decide)).trans (f3 (by simpa using h)), fun h => (getD_put_ne (by decide)).trans (f4 (by simpa using h)), fun h => (getD_put_ne (by decide)).trans (f5 (by simpa using h)), fun h => (getD_put_ne (by decide)).trans (f6 (by simpa using h)), fun h => (getD_put_ne (by decide)).trans (f7 (by simpa using h)), fun _ => getD_put_same (by rw [hsz]; omega), fun h => (getD_put_ne (by decide)).trans (f9 (by simpa using h)), fun h => (getD_put_ne (by decide)).trans (f10 (by simpa using h)), fun h => (getD_put_ne (by decide)).trans (f11 (by simpa using h)), fun h => (getD_put_ne (by decide)).trans (f12 (by simpa using h)), fun h => (getD_put_ne (by decide)).trans (f13 (by simpa using h)), fun h => (getD_put_ne (by decide)).trans (f14 (by simpa using h)), fun h => (getD_put_ne (by decide)).trans (f17 (by simpa using h)), u, fun h => (getD_put_ne (by decide)).trans (fu (by simpa using h)), (wsWvA_same _ _ _ _ _ _ _ _ _ _ _ _  rfl rfl rfl hW)⟩
    · obtain rfl : oWvA9 pp = o := Option.some.inj ho
      have q7 : a'.tmps.getD 16 undef = .slice (some ⟨cb, co, none⟩) M c := f7 (edge_ofF (o := oWvA9 pp) hpre 7 rfl)
      have q8 : a'.tmps.getD 17 undef = .int .i64 (qi : Int) := f8 (edge_ofF (o := oWvA9 pp) hpre 8 rfl)
      have nL : L 11 = false := not_yetF hcl 30 (show reachB (opsWvA pp) 30 11 9 = true by kernel_rfl) hLi
      exact step_index rfl rfl rfl q7 q8 (run_ixCm _ _ _ _ _ _ hi) ⟨frm' 18 _ rfl, fun h => (getD_put_ne (by decide)).trans (f0 (by simpa using h)), fun h => (getD_put_ne (by decide)).trans (f1 (by simpa using h)), fun h => (getD_put_ne (by decide)).trans (f2 (by simpa using h)), fun h => (getD_put_ne (by decide)).trans (f3 (by simpa using h)), fun h => (getD_put_ne (by decide)).trans (f4 (by simpa using h)), fun h => (getD_put_ne (by decide)).trans (f5 (by simpa using h)), fun h => (getD_put_ne (by decide)).trans (f6 (by simpa using h)), fun h => (getD_put_ne (by decide)).trans (f7 (by simpa using h)), fun h => (getD_put_ne (by decide)).trans (f8 (by simpa using h)), fun _ => getD_put_same (by rw [hsz]; omega), fun h => (getD_put_ne (by decide)).trans (f10 (by simpa using h)), fun h => (getD_put_ne (by decide)).trans (f11 (by simpa using h)), fun h => (getD_put_ne (by decide)).trans (f12 (by simpa using h)), fun h => (getD_put_ne (by decide)).trans (f13 (by simpa using h)), fun h => (getD_put_ne (by decide)).trans (f14 (by simpa using h)), fun h => (getD_put_ne (by decide)).trans (f17 (by simpa using h)), u, fun h => (getD_put_ne (by decide)).trans (fu (by simpa using h)), (wsWvA_same _ _ _ _ _ _ _ _ _ _ _ _  rfl rfl rfl hW)⟩
    · obtain rfl : oWvA10 pp = o := Option.some.inj ho
      have q9 : a'.tmps.getD 18 undef = .pointer (some ⟨cb, co + qi * 7, none⟩) := f9 (edge_ofF (o := oWvA10 pp) hpre 9 rfl)
      have nL : L 11 = false := not_yetF hcl 30 (show reachB (opsWvA pp) 30 11 10 = true by kernel_rfl) hLi
      exact step_load rfl rfl rfl q9 (run_ldCmAt _ _ _ _ (fun j u hu => ((hW.1 nL).cell (p := ⟨cb, co + qi * 7 + j, none⟩) hcb).trans (hv j u hu))) ⟨frm' 19 _ rfl, fun h => (getD_put_ne (by decide)).trans (f0 (by simpa using h)), fun h => (getD_put_ne (by decide)).trans (f1 (by simpa using h)), fun h => (getD_put_ne (by decide)).trans (f2 (by simpa using h)), fun h => (getD_put_ne (by decide)).trans (f3 (by simpa using h)), fun h => (getD_put_ne (by decide)).trans (f4 (by simpa using h)), fun h => (getD_put_ne (by decide)).trans (f5 (by simpa using h)), fun h => (getD_put_ne (by decide)).trans (f6 (by simpa using h)), fun h => (getD_put_ne (by decide)).trans (f7 (by simpa using h)), fun h => (getD_put_ne (by decide)).trans (f8 (by simpa using h)), fun h => (getD_put_ne (by decide)).trans (f9 (by simpa using h)), fun _ => getD_put_same (by rw [hsz]; omega), fun h => (getD_put_ne (by decide)).trans (f11 (by simpa using h)), fun h => (getD_put_ne (by decide)).trans (f12 (by simpa using h)), fun h => (getD_put_ne (by decide)).trans (f13 (by simpa using h)), fun h => (getD_put_ne (by decide)).trans (f14 (by simpa using h)), fun h => (getD_put_ne (by decide)).trans (f17 (by simpa using h)), u, fun h => (getD_put_ne (by decide)).trans (fu (by simpa using h)), (wsWvA_same _ _ _ _ _ _ _ _ _ _ _ _  rfl rfl rfl hW)⟩
    · obtain rfl : oWvA11 pp = o := Option.some.inj ho
      have q3 : a'.tmps.getD 12 undef = .pointer (some ⟨R, 0, none⟩) := f3 (edge_ofF (o := oWvA11 pp) hpre 3 rfl)
      have q10 : a'.tmps.getD 19 undef = v.val := f10 (edge_ofF (o := oWvA11 pp) hpre 10 rfl)
      refine step_callD rfl rfl rfl (enters_of Tryz.func22 (by kernel_rfl) rfl) (show Array.map a'.eval #[.tmp 12, .tmp 19] = _ from by simp only [List.map_toArray, List.map_cons, List.map_nil, Act.eval, q3, q10]) ((hC w' (hW.1 hLi)).mono ?_)
      rintro e w'' ⟨rfl, hJ1, hs1, hk1⟩
      have hW2 : wsWvA J R r qi cb co M c cd tx fr v w.drew (fun j => L j || j == 11) u w'' := by
        obtain ⟨b1, s1, _, hx, _⟩ := hW
        have n16 : L 16 = false := not_yetF hcl 30 (show reachB (opsWvA pp) 30 16 11 = true by kernel_rfl) hLi
        refine ⟨fun h => ?_, Nat.le_trans s1 hs1, fun _ _ => hJ1, fun h => ?_, fun h => ?_⟩
        · simp at h
        · obtain ⟨x, e, h1, h2⟩ := hx (by simpa using h)
          exact ⟨x, e, h1, fun _ => (hk1 x h1 (h2 n16).lt).trans (h2 n16)⟩
        · simp [n16] at h
      exact ⟨_, rfl, ⟨frm' 20 _ rfl, fun h => (getD_put_ne (by decide)).trans (f0 (by simpa using h)), fun h => (getD_put_ne (by decide)).trans (f1 (by simpa using h)), fun h => (getD_put_ne (by decide)).trans (f2 (by simpa using h)), fun h => (getD_put_ne (by decide)).trans (f3 (by simpa using h)), fun h => (getD_put_ne (by decide)).trans (f4 (by simpa using h)), fun h => (getD_put_ne (by decide)).trans (f5 (by simpa using h)), fun h => (getD_put_ne (by decide)).trans (f6 (by simpa using h)), fun h => (getD_put_ne (by decide)).trans (f7 (by simpa using h)), fun h => (getD_put_ne (by decide)).trans (f8 (by simpa using h)), fun h => (getD_put_ne (by decide)).trans (f9 (by simpa using h)), fun h => (getD_put_ne (by decide)).trans (f10 (by simpa using h)), fun _ => getD_put_same (by rw [hsz]; omega), fun h => (getD_put_ne (by decide)).trans (f12 (by simpa using h)), fun h => (getD_put_ne (by decide)).trans (f13 (by simpa using h)), fun h => (getD_put_ne (by decide)).trans (f14 (by simpa using h)), fun h => (getD_put_ne (by decide)).trans (f17 (by simpa using h)), u, fun h => (getD_put_ne (by decide)).trans (fu (by simpa using h)), hW2⟩⟩
    · obtain rfl : oWvA12 pp = o := Option.some.inj ho
      have q11 : a'.tmps.getD 20 undef = .tuple #[.agg #[.int .u8 (cd : Int), .string tx], .bool fr] := f11 (edge_ofF (o := oWvA12 pp) hpre 11 rfl)
      exact step_move rfl rfl rfl q11 ⟨frm' 8 _ rfl, fun h => (getD_put_ne (by decide)).trans (f0 (by simpa using h)), fun h => (getD_put_ne (by decide)).trans (f1 (by simpa using h)), fun h => (getD_put_ne (by decide)).trans (f2 (by simpa using h)), fun h => (getD_put_ne (by decide)).trans (f3 (by simpa using h)), fun h => (getD_put_ne (by decide)).trans (f4 (by simpa using h)), fun h => (getD_put_ne (by decide)).trans (f5 (by simpa using h)), fun h => (getD_put_ne (by decide)).trans (f6 (by simpa using h)), fun h => (getD_put_ne (by decide)).trans (f7 (by simpa using h)), fun h => (getD_put_ne (by decide)).trans (f8 (by simpa using h)), fun h => (getD_put_ne (by decide)).trans (f9 (by simpa using h)), fun h => (getD_put_ne (by decide)).trans (f10 (by simpa using h)), fun h => (getD_put_ne (by decide)).trans (f11 (by simpa using h)), fun _ => getD_put_same (by rw [hsz]; omega), fun h => (getD_put_ne (by decide)).trans (f13 (by simpa using h)), fun h => (getD_put_ne (by decide)).trans (f14 (by simpa using h)), fun h => (getD_put_ne (by decide)).trans (f17 (by simpa using h)), u, fun h => (getD_put_ne (by decide)).trans (fu (by simpa using h)), (wsWvA_same _ _ _ _ _ _ _ _ _ _ _ _  rfl rfl rfl hW)⟩
    · obtain rfl : oWvA13 pp = o := Option.some.inj ho
      have q12 : a'.tmps.getD 8 undef = .tuple #[.agg #[.int .u8 (cd : Int), .string tx], .bool fr] := f12 (edge_ofF (o := oWvA13 pp) hpre 12 rfl)
      exact step_extractF rfl rfl rfl q12 rfl ⟨frm' 21 _ rfl, fun h => (getD_put_ne (by decide)).trans (f0 (by simpa using h)), fun h => (getD_put_ne (by decide)).trans (f1 (by simpa using h)), fun h => (getD_put_ne (by decide)).trans (f2 (by simpa using h)), fun h => (getD_put_ne (by decide)).trans (f3 (by simpa using h)), fun h => (getD_put_ne (by decide)).trans (f4 (by simpa using h)), fun h => (getD_put_ne (by decide)).trans (f5 (by simpa using h)), fun h => (getD_put_ne (by decide)).trans (f6 (by simpa using h)), fun h => (getD_put_ne (by decide)).trans (f7 (by simpa using h)), fun h => (getD_put_ne (by decide)).trans (f8 (by simpa using h)), fun h => (getD_put_ne (by decide)).trans (f9 (by simpa using h)), fun h => (getD_put_ne (by decide)).trans (f10 (by simpa using h)), fun h => (getD_put_ne (by decide)).trans (f11 (by simpa using h)), fun h => (getD_put_ne (by decide)).trans (f12 (by simpa using h)), fun _ => getD_put_same (by rw [hsz]; omega), fun h => (getD_put_ne (by decide)).trans (f14 (by simpa using h)), fun h => (getD_put_ne (by decide)).trans (f17 (by simpa using h)), u, fun h => (getD_put_ne (by decide)).trans (fu (by simpa using h)), (wsWvA_same _ _ _ _ _ _ _ _ _ _ _ _  rfl rfl rfl hW)⟩
    · obtain rfl : oWvA14 pp = o := Option.some.inj ho
      have q12 : a'.tmps.getD 8 undef = .tuple #[.agg #[.int .u8 (cd : Int), .string tx], .bool fr] := f12 (edge_ofF (o := oWvA14 pp) hpre 12 rfl)
      exact step_extractF rfl rfl rfl q12 rfl ⟨frm' 22 _ rfl, fun h => (getD_put_ne (by decide)).trans (f0 (by simpa using h)), fun h => (getD_put_ne (by decide)).trans (f1 (by simpa using h)), fun h => (getD_put_ne (by decide)).trans (f2 (by simpa using h)), fun h => (getD_put_ne (by decide)).trans (f3 (by simpa using h)), fun h => (getD_put_ne (by decide)).trans (f4 (by simpa using h)), fun h => (getD_put_ne (by decide)).trans (f5 (by simpa using h)), fun h => (getD_put_ne (by decide)).trans (f6 (by simpa using h)), fun h => (getD_put_ne (by decide)).trans (f7 (by simpa using h)), fun h => (getD_put_ne (by decide)).trans (f8 (by simpa using h)), fun h => (getD_put_ne (by decide)).trans (f9 (by simpa using h)), fun h => (getD_put_ne (by decide)).trans (f10 (by simpa using h)), fun h => (getD_put_ne (by decide)).trans (f11 (by simpa using h)), fun h => (getD_put_ne (by decide)).trans (f12 (by simpa using h)), fun h => (getD_put_ne (by decide)).trans (f13 (by simpa using h)), fun _ => getD_put_same (by rw [hsz]; omega), fun h => (getD_put_ne (by decide)).trans (f17 (by simpa using h)), u, fun h => (getD_put_ne (by decide)).trans (fu (by simpa using h)), (wsWvA_same _ _ _ _ _ _ _ _ _ _ _ _  rfl rfl rfl hW)⟩
    · obtain rfl : oWvA15 pp = o := Option.some.inj ho
      have hal : (execOp a'.eval (oWvA15 pp)).run Tryz.prog w' = .ok (.value (.pointer (some ⟨w'.heap.size, 0, none⟩))) (w'.alloc (.cells #[.int .u8 0, .string ⟨#[]⟩] 45)) := by simp [execOp, oWvA15, run_alRep]
      refine step_run (o := oWvA15 pp) rfl rfl (by intro c h; cases h) (by simp [Oper.about, oWvA15]) hal ?_
      have hW2 : wsWvA J R r qi cb co M c cd tx fr v w.drew (fun j => L j || j == 15) (.pointer (some ⟨w'.heap.size, 0, none⟩)) (w'.alloc (.cells #[.int .u8 0, .string ⟨#[]⟩] 45)) := by
        have n16 : L 16 = false := not_yetF hcl 30 (show reachB (opsWvA pp) 30 16 15 = true by kernel_rfl) hLi
        obtain ⟨b1, s1, j1, _, _⟩ := hW
        refine ⟨fun h => (b1 (by simpa using h)).alloc s1 _, Nat.le_trans s1 (by rw [World.size_alloc]; omega), fun h _ => hJ _ _ (j1 (by simpa using h) n16), fun _ => ⟨_, rfl, s1, fun _ => World.alloc_heap_new w' _⟩, fun h => ?_⟩
        simp [n16] at h
      exact ⟨frm' 6 _ rfl, fun h => (getD_put_ne (by decide)).trans (f0 (by simpa using h)), fun h => (getD_put_ne (by decide)).trans (f1 (by simpa using h)), fun h => (getD_put_ne (by decide)).trans (f2 (by simpa using h)), fun h => (getD_put_ne (by decide)).trans (f3 (by simpa using h)), fun h => (getD_put_ne (by decide)).trans (f4 (by simpa using h)), fun h => (getD_put_ne (by decide)).trans (f5 (by simpa using h)), fun h => (getD_put_ne (by decide)).trans (f6 (by simpa using h)), fun h => (getD_put_ne (by decide)).trans (f7 (by simpa using h)), fun h => (getD_put_ne (by decide)).trans (f8 (by simpa using h)), fun h => (getD_put_ne (by decide)).trans (f9 (by simpa using h)), fun h => (getD_put_ne (by decide)).trans (f10 (by simpa using h)), fun h => (getD_put_ne (by decide)).trans (f11 (by simpa using h)), fun h => (getD_put_ne (by decide)).trans (f12 (by simpa using h)), fun h => (getD_put_ne (by decide)).trans (f13 (by simpa using h)), fun h => (getD_put_ne (by decide)).trans (f14 (by simpa using h)), fun h => (getD_put_ne (by decide)).trans (f17 (by simpa using h)), .pointer (some ⟨w'.heap.size, 0, none⟩), fun _ => getD_put_same (by rw [hsz]; omega), hW2⟩
    · obtain rfl : oWvA16 pp = o := Option.some.inj ho
      have q15 : a'.tmps.getD 6 undef = u := fu (edge_ofF (o := oWvA16 pp) hpre 15 rfl)
      have q13 : a'.tmps.getD 21 undef = .agg #[.int .u8 (cd : Int), .string tx] := f13 (edge_ofF (o := oWvA16 pp) hpre 13 rfl)
      have e15 := edge_ofF (o := oWvA16 pp) hpre 15 rfl
      have e11 := edge_ofF (o := oWvA16 pp) hpre 11 rfl
      obtain ⟨_, s1, j1, hx, _⟩ := hW
      obtain ⟨x, e, h1, h2⟩ := hx e15
      have hx1 : a'.eval (.tmp 6) = .pointer (some ⟨x, 0, none⟩) := (fu e15).trans e
      have hx2 : a'.eval (.tmp 21) = .agg #[.int .u8 (cd : Int), .string tx] := q13
      have hst := run_stRep w' x _ _ (h2 hLi) cd tx
      refine step_skip (o := oWvA16 pp) rfl rfl (by intro c h; cases h) (by simp [Oper.about, oWvA16]) (w' := (w'.setCell ⟨x, 0, none⟩ (.int .u8 (cd : Int))).setCell ⟨x, 1, none⟩ (.string tx)) (by
        unfold execOp
        simp only [oWvA16, hx1, hx2, Sem.run_bind, hst, Result.andThen_ok]
        rfl) ?_
      have hW2 : wsWvA J R r qi cb co M c cd tx fr v w.drew (fun j => L j || j == 16) u ((w'.setCell ⟨x, 0, none⟩ (.int .u8 (cd : Int))).setCell ⟨x, 1, none⟩ (.string tx)) := by
        refine ⟨fun h => ?_, by simpa using s1, fun _ h => ?_, fun _ => ⟨x, e, h1, fun h => ?_⟩, fun _ => ⟨x, w', e, h1, j1 e11 hLi, h2 hLi, rfl⟩⟩
        · simp [e11] at h
        · simp at h
        · simp at h
      exact ⟨hF, fun h => f0 (by simpa using h), fun h => f1 (by simpa using h), fun h => f2 (by simpa using h), fun h => f3 (by simpa using h), fun h => f4 (by simpa using h), fun h => f5 (by simpa using h), fun h => f6 (by simpa using h), fun h => f7 (by simpa using h), fun h => f8 (by simpa using h), fun h => f9 (by simpa using h), fun h => f10 (by simpa using h), fun h => f11 (by simpa using h), fun h => f12 (by simpa using h), fun h => f13 (by simpa using h), fun h => f14 (by simpa using h), fun h => f17 (by simpa using h), u, fun h => fu (by simpa using h), hW2⟩
    · obtain rfl : oWvA17 pp = o := Option.some.inj ho
      have q14 : a'.tmps.getD 22 undef = .bool fr := f14 (edge_ofF (o := oWvA17 pp) hpre 14 rfl)
      exact step_assign rfl rfl rfl q14 ⟨frm' 7 _ rfl, fun h => (getD_put_ne (by decide)).trans (f0 (by simpa using h)), fun h => (getD_put_ne (by decide)).trans (f1 (by simpa using h)), fun h => (getD_put_ne (by decide)).trans (f2 (by simpa using h)), fun h => (getD_put_ne (by decide)).trans (f3 (by simpa using h)), fun h => (getD_put_ne (by decide)).trans (f4 (by simpa using h)), fun h => (getD_put_ne (by decide)).trans (f5 (by simpa using h)), fun h => (getD_put_ne (by decide)).trans (f6 (by simpa using h)), fun h => (getD_put_ne (by decide)).trans (f7 (by simpa using h)), fun h => (getD_put_ne (by decide)).trans (f8 (by simpa using h)), fun h => (getD_put_ne (by decide)).trans (f9 (by simpa using h)), fun h => (getD_put_ne (by decide)).trans (f10 (by simpa using h)), fun h => (getD_put_ne (by decide)).trans (f11 (by simpa using h)), fun h => (getD_put_ne (by decide)).trans (f12 (by simpa using h)), fun h => (getD_put_ne (by decide)).trans (f13 (by simpa using h)), fun h => (getD_put_ne (by decide)).trans (f14 (by simpa using h)), fun _ => getD_put_same (by rw [hsz]; omega), u, fun h => (getD_put_ne (by decide)).trans (fu (by simpa using h)), (wsWvA_same _ _ _ _ _ _ _ _ _ _ _ _  rfl rfl rfl hW)⟩
    · exact absurd ((Array.getElem?_eq_some_iff.1 ho).1) (by simp [opsWvA])
  · intro L a' w' hv hall
    have hL : ∀ j, j < 18 → L j = true := fun j hj => hall j (by simpa [opsWvA] using hj)
    obtain ⟨hF, f0, f1, f2, f3, f4, f5, f6, f7, f8, f9, f10, f11, f12, f13, f14, f17, u, fu, hW⟩ := hv
    have hW2 : wsWvA J R r qi cb co M c cd tx fr v w.drew (fun _ => true) u w' := by
      unfold wsWvA at hW ⊢
      simp only [hL 11 (by omega), hL 15 (by omega), hL 16 (by omega)] at hW ⊢
      exact hW
    have hput : a' = puts [(9, .pointer (some ⟨r, 0, none⟩)), (10, .pointer (some ⟨r, 0, none⟩)), (11, .pointer (some ⟨r, 0, none⟩)), (12, .pointer (some ⟨R, 0, none⟩)), (13, .pointer (some ⟨r, 0, none⟩)), (14, .pointer (some ⟨r, 0, none⟩)), (15, .pointer (some ⟨r, 1, none⟩)), (16, .slice (some ⟨cb, co, none⟩) M c), (17, .int .i64 (qi : Int)), (18, .pointer (some ⟨cb, co + qi * 7, none⟩)), (19, v.val), (20, .tuple #[.agg #[.int .u8 (cd : Int), .string tx], .bool fr]), (8, .tuple #[.agg #[.int .u8 (cd : Int), .string tx], .bool fr]), (21, .agg #[.int .u8 (cd : Int), .string tx]), (22, .bool fr), (6, u), (7, .bool fr)] a := hF.puts _ (by
      intro z hz
      simp only [List.mem_cons, List.not_mem_nil, or_false] at hz
      rcases hz with rfl | rfl | rfl | rfl | rfl | rfl | rfl | rfl | rfl | rfl | rfl | rfl | rfl | rfl | rfl | rfl | rfl
      · exact f0 (hL 0 (by omega))
      · exact f1 (hL 1 (by omega))
      · exact f2 (hL 2 (by omega))
      · exact f3 (hL 3 (by omega))
      · exact f4 (hL 4 (by omega))
      · exact f5 (hL 5 (by omega))
      · exact f6 (hL 6 (by omega))
      · exact f7 (hL 7 (by omega))
      · exact f8 (hL 8 (by omega))
      · exact f9 (hL 9 (by omega))
      · exact f10 (hL 10 (by omega))
      · exact f11 (hL 11 (by omega))
      · exact f12 (hL 12 (by omega))
      · exact f13 (hL 13 (by omega))
      · exact f14 (hL 14 (by omega))
      · exact fu (hL 15 (by omega))
      · exact f17 (hL 17 (by omega))) rfl (by rw [hN]; rfl)
    rw [hput]
    exact hQ u w' hW2
def oWvB0 (pp : String) : Oper := { dst := some 23, op := Op.move (Operand.tmp 0), type := 68, pos := pp, after := #[], guard := none }
def oWvB1 (pp : String) : Oper := { dst := some 24, op := Op.nilCheck (Operand.tmp 23), type := 0, pos := pp, after := #[{ on := 0, ground := Ground.data }], guard := none }
def oWvB2 (pp : String) : Oper := { dst := some 25, op := Op.fieldAddr 73 (Operand.tmp 24) 3, type := 0, pos := pp, after := #[{ on := 1, ground := Ground.data }], guard := none }
def oWvB3 (pp : String) : Oper := { dst := some 26, op := Op.load 40 (Operand.tmp 25), type := 40, pos := pp, after := #[{ on := 2, ground := Ground.data }], guard := none }
def oWvB4 (pp : String) : Oper := { dst := some 27, op := Op.move (Operand.tmp 1), type := 3, pos := pp, after := #[], guard := none }
def oWvB5 (pp : String) : Oper := { dst := some 28, op := Op.load 45 (Operand.tmp 6), type := 45, pos := pp, after := #[], guard := none }
def oWvB6 (pp : String) : Oper := { dst := some 29, op := Op.move (Operand.tmp 7), type := 4, pos := pp, after := #[], guard := none }
def oWvB7 (pp : String) : Oper := { dst := some 30, op := Op.move (Operand.tmp 2), type := 3, pos := pp, after := #[], guard := none }
def oWvB8 (pp : String) : Oper := { dst := some 31, op := Op.move (Operand.tmp 0), type := 68, pos := pp, after := #[], guard := none }
def oWvB9 (pp : String) : Oper := { dst := some 32, op := Op.nilCheck (Operand.tmp 31), type := 0, pos := pp, after := #[{ on := 8, ground := Ground.data }], guard := none }
def oWvB10 (pp : String) : Oper := { dst := some 33, op := Op.fieldAddr 73 (Operand.tmp 32) 4, type := 0, pos := pp, after := #[{ on := 9, ground := Ground.data }], guard := none }
def oWvB11 (pp : String) : Oper := { dst := some 34, op := Op.load 3 (Operand.tmp 33), type := 3, pos := pp, after := #[{ on := 10, ground := Ground.data }], guard := none }
def oWvB12 (pp : String) : Oper := { dst := some 35, op := Op.build 47 #[(0, Operand.tmp 28), (1, Operand.tmp 29), (2, Operand.tmp 30), (3, Operand.tmp 34)], type := 47, pos := pp, after := #[{ on := 5, ground := Ground.data }, { on := 6, ground := Ground.data }, { on := 7, ground := Ground.data }, { on := 11, ground := Ground.data }], guard := none }
def oWvB13 (pp : String) : Oper := { dst := some 36, op := Op.indexAddr 40 (Operand.tmp 26) (Operand.tmp 27), type := 0, pos := pp, after := #[{ on := 3, ground := Ground.data }, { on := 4, ground := Ground.data }, { on := 0, ground := Ground.phase }, { on := 1, ground := Ground.phase }, { on := 2, ground := Ground.phase }, { on := 3, ground := Ground.phase }, { on := 4, ground := Ground.phase }, { on := 5, ground := Ground.phase }, { on := 6, ground := Ground.phase }, { on := 7, ground := Ground.phase }, { on := 8, ground := Ground.phase }, { on := 9, ground := Ground.phase }, { on := 10, ground := Ground.phase }, { on := 11, ground := Ground.phase }, { on := 12, ground := Ground.phase }], guard := none }
def oWvB14 (pp : String) : Oper := { dst := none, op := Op.store 47 (Operand.tmp 36) (Operand.tmp 35), type := 0, pos := pp, after := #[{ on := 13, ground := Ground.data }, { on := 12, ground := Ground.data }, { on := 0, ground := Ground.phase }, { on := 1, ground := Ground.phase }, { on := 2, ground := Ground.phase }, { on := 3, ground := Ground.phase }, { on := 4, ground := Ground.phase }, { on := 5, ground := Ground.phase }, { on := 6, ground := Ground.phase }, { on := 7, ground := Ground.phase }, { on := 8, ground := Ground.phase }, { on := 9, ground := Ground.phase }, { on := 10, ground := Ground.phase }, { on := 11, ground := Ground.phase }, { on := 12, ground := Ground.phase }], guard := none }
def opsWvB (pp : String) : List Oper := [oWvB0 pp, oWvB1 pp, oWvB2 pp, oWvB3 pp, oWvB4 pp, oWvB5 pp, oWvB6 pp, oWvB7 pp, oWvB8 pp, oWvB9 pp, oWvB10 pp, oWvB11 pp, oWvB12 pp, oWvB13 pp, oWvB14 pp]
theorem opsWvB_back (pp : String) : backwards (opsWvB pp) = true := by kernel_rfl
def wsWvB (_r qi wv b _x _M t cd : Nat) (tx : ByteArray) (fr : Bool) (W0 : World) (L : Nat → Bool) (_u : Value) (w : World) : Prop := (L 14 = false → w = W0) ∧ (L 14 = true → w = setDn W0 b qi ⟨cd, tx, fr, wv, t⟩)
theorem wsWvB_same (r qi wv b x M t cd : Nat) (tx : ByteArray) (fr : Bool) {W0 : World} {L : Nat → Bool} {i : Nat} {u : Value} {w : World} (k14 : ((14 : Nat) == i) = false) (h : wsWvB r qi wv b x M t cd tx fr W0 L u w) : wsWvB r qi wv b x M t cd tx fr W0 (fun j => L j || j == i) u w := by
  unfold wsWvB at h ⊢
  simp only [beq_noF k14]
  exact h
structure InvWvB (r qi wv b x M t cd : Nat) (tx : ByteArray) (fr : Bool) (W0 : World) (a : Act) (pp : String) (L : Nat → Bool) (a' : Act) (w' : World) : Prop where
  frm : Frm (opsWvB pp) a a'
  f0 : L 0 = true → a'.tmps.getD 23 undef = .pointer (some ⟨r, 0, none⟩)
  f1 : L 1 = true → a'.tmps.getD 24 undef = .pointer (some ⟨r, 0, none⟩)
  f2 : L 2 = true → a'.tmps.getD 25 undef = .pointer (some ⟨r, 3, none⟩)
  f3 : L 3 = true → a'.tmps.getD 26 undef = .slice (some ⟨b, 0, none⟩) M M
  f4 : L 4 = true → a'.tmps.getD 27 undef = .int .i64 (qi : Int)
  f5 : L 5 = true → a'.tmps.getD 28 undef = .agg #[.int .u8 (cd : Int), .string tx]
  f6 : L 6 = true → a'.tmps.getD 29 undef = .bool fr
  f7 : L 7 = true → a'.tmps.getD 30 undef = .int .i64 (wv : Int)
  f8 : L 8 = true → a'.tmps.getD 31 undef = .pointer (some ⟨r, 0, none⟩)
  f9 : L 9 = true → a'.tmps.getD 32 undef = .pointer (some ⟨r, 0, none⟩)
  f10 : L 10 = true → a'.tmps.getD 33 undef = .pointer (some ⟨r, 4, none⟩)
  f11 : L 11 = true → a'.tmps.getD 34 undef = .int .i64 (t : Int)
  f12 : L 12 = true → a'.tmps.getD 35 undef = .agg #[.int .u8 (cd : Int), .string tx, .bool fr, .int .i64 (wv : Int), .int .i64 (t : Int)]
  f13 : L 13 = true → a'.tmps.getD 36 undef = .pointer (some ⟨b, qi * 5, none⟩)
  ex : ∃ u : Value, wsWvB r qi wv b x M t cd tx fr W0 L u w'
set_option maxRecDepth 100000 in
set_option maxHeartbeats 4000000 in
theorem wvdo_b {pp : String} (r qi wv b x M t cd : Nat) (tx : ByteArray) (fr : Bool) (a : Act) (w : World) (Q : Exit → Act → World → Prop) (hN : a.tmps.size = 44) (h0 : a.tmps.getD 0 undef = .pointer (some ⟨r, 0, none⟩)) (h1 : a.tmps.getD 1 undef = .int .i64 (qi : Int)) (h2 : a.tmps.getD 2 undef = .int .i64 (wv : Int)) (h6 : a.tmps.getD 6 undef = .pointer (some ⟨x, 0, none⟩)) (h7 : a.tmps.getD 7 undef = .bool fr) (hi : qi < M) (x3 : w.drew.cell? ⟨r, 3, none⟩ = some (.slice (some ⟨b, 0, none⟩) M M)) (x4 : w.drew.cell? ⟨r, 4, none⟩ = some (.int .i64 (t : Int))) (hr : RepB w.drew x cd tx) (hst : (Instr.storeAt 47 (.pointer (some ⟨b, qi * 5, none⟩)) (.agg (DV.cells ⟨cd, tx, fr, wv, t⟩))).run Tryz.prog w.drew = .ok () (setDn w.drew b qi ⟨cd, tx, fr, wv, t⟩)) (hW0 : wsWvB r qi wv b x M t cd tx fr w.drew (fun _ => false) undef w.drew) (hQ : ∀ (u : Value) w', wsWvB r qi wv b x M t cd tx fr w.drew (fun _ => true) u w' → Q .normal (puts [(23, .pointer (some ⟨r, 0, none⟩)), (24, .pointer (some ⟨r, 0, none⟩)), (25, .pointer (some ⟨r, 3, none⟩)), (26, .slice (some ⟨b, 0, none⟩) M M), (27, .int .i64 (qi : Int)), (28, .agg #[.int .u8 (cd : Int), .string tx]), (29, .bool fr), (30, .int .i64 (wv : Int)), (31, .pointer (some ⟨r, 0, none⟩)), (32, .pointer (some ⟨r, 0, none⟩)), (33, .pointer (some ⟨r, 4, none⟩)), (34, .int .i64 (t : Int)), (35, .agg #[.int .u8 (cd : Int), .string tx, .bool fr, .int .i64 (wv : Int), .int .i64 (t : Int)]), (36, .pointer (some ⟨b, qi * 5, none⟩))] a) w')
    : (Code.region 1 (opsWvB pp).toArray true).wp Tryz.prog Q a w := by
  refine (wpIn_wide (n := 1)).1 (wpIn_region_by follows (opsWvB_back pp) (InvWvB r qi wv b x M t cd tx fr w.drew a pp) ?_ ?_ ?_)
  · exact ⟨⟨rfl, rfl, fun _ _ => rfl⟩, fun h => (by cases h), fun h => (by cases h), fun h => (by cases h), fun h => (by cases h), fun h => (by cases h), fun h => (by cases h), fun h => (by cases h), fun h => (by cases h), fun h => (by cases h), fun h => (by cases h), fun h => (by cases h), fun h => (by cases h), fun h => (by cases h), fun h => (by cases h), undef, hW0⟩
  · intro L a' w' i o hv ho hLi hpre hcl
    obtain ⟨hF, f0, f1, f2, f3, f4, f5, f6, f7, f8, f9, f10, f11, f12, f13, u, hW⟩ := hv
    have hsz : a'.tmps.size = 44 := hF.size.trans hN
    have frm' : ∀ (d : Nat) (v : Value), o.dst = some d → Frm (opsWvB pp) a (a'.put (some d) v) := fun d v hd => ⟨size_put.trans hF.size, defers_put.trans hF.defers, fun s hs => by
      have hm : o ∈ opsWvB pp := by simpa using List.mem_of_getElem? (by simpa using ho)
      rw [getD_put_ne (fun e => hs o hm (by rw [hd, e]))]
      exact hF.old s hs⟩
    rcases i with _ | _ | _ | _ | _ | _ | _ | _ | _ | _ | _ | _ | _ | _ | _ | i
    · obtain rfl : oWvB0 pp = o := Option.some.inj ho
      exact step_move rfl rfl rfl (hF.at 0 rfl h0) ⟨frm' 23 _ rfl, fun _ => getD_put_same (by rw [hsz]; omega), fun h => (getD_put_ne (by decide)).trans (f1 (by simpa using h)), fun h => (getD_put_ne (by decide)).trans (f2 (by simpa using h)), fun h => (getD_put_ne (by decide)).trans (f3 (by simpa using h)), fun h => (getD_put_ne (by decide)).trans (f4 (by simpa using h)), fun h => (getD_put_ne (by decide)).trans (f5 (by simpa using h)), fun h => (getD_put_ne (by decide)).trans (f6 (by simpa using h)), fun h => (getD_put_ne (by decide)).trans (f7 (by simpa using h)), fun h => (getD_put_ne (by decide)).trans (f8 (by simpa using h)), fun h => (getD_put_ne (by decide)).trans (f9 (by simpa using h)), fun h => (getD_put_ne (by decide)).trans (f10 (by simpa using h)), fun h => (getD_put_ne (by decide)).trans (f11 (by simpa using h)), fun h => (getD_put_ne (by decide)).trans (f12 (by simpa using h)), fun h => (getD_put_ne (by decide)).trans (f13 (by simpa using h)), u, (wsWvB_same _ _ _ _ _ _ _ _ _ _  rfl hW)⟩
    · obtain rfl : oWvB1 pp = o := Option.some.inj ho
      have q0 : a'.tmps.getD 23 undef = .pointer (some ⟨r, 0, none⟩) := f0 (edge_ofF (o := oWvB1 pp) hpre 0 rfl)
      have nL : L 14 = false := not_yetF hcl 30 (show reachB (opsWvB pp) 30 14 1 = true by kernel_rfl) hLi
      exact step_nilCheckF rfl rfl rfl q0 (trivial) ⟨frm' 24 _ rfl, fun h => (getD_put_ne (by decide)).trans (f0 (by simpa using h)), fun _ => getD_put_same (by rw [hsz]; omega), fun h => (getD_put_ne (by decide)).trans (f2 (by simpa using h)), fun h => (getD_put_ne (by decide)).trans (f3 (by simpa using h)), fun h => (getD_put_ne (by decide)).trans (f4 (by simpa using h)), fun h => (getD_put_ne (by decide)).trans (f5 (by simpa using h)), fun h => (getD_put_ne (by decide)).trans (f6 (by simpa using h)), fun h => (getD_put_ne (by decide)).trans (f7 (by simpa using h)), fun h => (getD_put_ne (by decide)).trans (f8 (by simpa using h)), fun h => (getD_put_ne (by decide)).trans (f9 (by simpa using h)), fun h => (getD_put_ne (by decide)).trans (f10 (by simpa using h)), fun h => (getD_put_ne (by decide)).trans (f11 (by simpa using h)), fun h => (getD_put_ne (by decide)).trans (f12 (by simpa using h)), fun h => (getD_put_ne (by decide)).trans (f13 (by simpa using h)), u, (wsWvB_same _ _ _ _ _ _ _ _ _ _  rfl hW)⟩
    · obtain rfl : oWvB2 pp = o := Option.some.inj ho
      have q1 : a'.tmps.getD 24 undef = .pointer (some ⟨r, 0, none⟩) := f1 (edge_ofF (o := oWvB2 pp) hpre 1 rfl)
      have nL : L 14 = false := not_yetF hcl 30 (show reachB (opsWvB pp) 30 14 2 = true by kernel_rfl) hLi
      exact step_fieldF rfl rfl rfl q1 (run_fdW3 _ _) ⟨frm' 25 _ rfl, fun h => (getD_put_ne (by decide)).trans (f0 (by simpa using h)), fun h => (getD_put_ne (by decide)).trans (f1 (by simpa using h)), fun _ => getD_put_same (by rw [hsz]; omega), fun h => (getD_put_ne (by decide)).trans (f3 (by simpa using h)), fun h => (getD_put_ne (by decide)).trans (f4 (by simpa using h)), fun h => (getD_put_ne (by decide)).trans (f5 (by simpa using h)), fun h => (getD_put_ne (by decide)).trans (f6 (by simpa using h)), fun h => (getD_put_ne (by decide)).trans (f7 (by simpa using h)), fun h => (getD_put_ne (by decide)).trans (f8 (by simpa using h)), fun h => (getD_put_ne (by decide)).trans (f9 (by simpa using h)), fun h => (getD_put_ne (by decide)).trans (f10 (by simpa using h)), fun h => (getD_put_ne (by decide)).trans (f11 (by simpa using h)), fun h => (getD_put_ne (by decide)).trans (f12 (by simpa using h)), fun h => (getD_put_ne (by decide)).trans (f13 (by simpa using h)), u, (wsWvB_same _ _ _ _ _ _ _ _ _ _  rfl hW)⟩
    · obtain rfl : oWvB3 pp = o := Option.some.inj ho
      have q2 : a'.tmps.getD 25 undef = .pointer (some ⟨r, 3, none⟩) := f2 (edge_ofF (o := oWvB3 pp) hpre 2 rfl)
      have nL : L 14 = false := not_yetF hcl 30 (show reachB (opsWvB pp) 30 14 3 = true by kernel_rfl) hLi
      exact step_load rfl rfl rfl q2 (by rw [hW.1 nL]; exact run_ldDs _ _ _ x3) ⟨frm' 26 _ rfl, fun h => (getD_put_ne (by decide)).trans (f0 (by simpa using h)), fun h => (getD_put_ne (by decide)).trans (f1 (by simpa using h)), fun h => (getD_put_ne (by decide)).trans (f2 (by simpa using h)), fun _ => getD_put_same (by rw [hsz]; omega), fun h => (getD_put_ne (by decide)).trans (f4 (by simpa using h)), fun h => (getD_put_ne (by decide)).trans (f5 (by simpa using h)), fun h => (getD_put_ne (by decide)).trans (f6 (by simpa using h)), fun h => (getD_put_ne (by decide)).trans (f7 (by simpa using h)), fun h => (getD_put_ne (by decide)).trans (f8 (by simpa using h)), fun h => (getD_put_ne (by decide)).trans (f9 (by simpa using h)), fun h => (getD_put_ne (by decide)).trans (f10 (by simpa using h)), fun h => (getD_put_ne (by decide)).trans (f11 (by simpa using h)), fun h => (getD_put_ne (by decide)).trans (f12 (by simpa using h)), fun h => (getD_put_ne (by decide)).trans (f13 (by simpa using h)), u, (wsWvB_same _ _ _ _ _ _ _ _ _ _  rfl hW)⟩
    · obtain rfl : oWvB4 pp = o := Option.some.inj ho
      exact step_move rfl rfl rfl (hF.at 1 rfl h1) ⟨frm' 27 _ rfl, fun h => (getD_put_ne (by decide)).trans (f0 (by simpa using h)), fun h => (getD_put_ne (by decide)).trans (f1 (by simpa using h)), fun h => (getD_put_ne (by decide)).trans (f2 (by simpa using h)), fun h => (getD_put_ne (by decide)).trans (f3 (by simpa using h)), fun _ => getD_put_same (by rw [hsz]; omega), fun h => (getD_put_ne (by decide)).trans (f5 (by simpa using h)), fun h => (getD_put_ne (by decide)).trans (f6 (by simpa using h)), fun h => (getD_put_ne (by decide)).trans (f7 (by simpa using h)), fun h => (getD_put_ne (by decide)).trans (f8 (by simpa using h)), fun h => (getD_put_ne (by decide)).trans (f9 (by simpa using h)), fun h => (getD_put_ne (by decide)).trans (f10 (by simpa using h)), fun h => (getD_put_ne (by decide)).trans (f11 (by simpa using h)), fun h => (getD_put_ne (by decide)).trans (f12 (by simpa using h)), fun h => (getD_put_ne (by decide)).trans (f13 (by simpa using h)), u, (wsWvB_same _ _ _ _ _ _ _ _ _ _  rfl hW)⟩
    · obtain rfl : oWvB5 pp = o := Option.some.inj ho
      have nL : L 14 = false := not_yetF hcl 30 (show reachB (opsWvB pp) 30 14 5 = true by kernel_rfl) hLi
      exact step_load rfl rfl rfl (hF.at 6 rfl h6) (by rw [hW.1 nL]; exact run_ldRep _ _ _ _ hr) ⟨frm' 28 _ rfl, fun h => (getD_put_ne (by decide)).trans (f0 (by simpa using h)), fun h => (getD_put_ne (by decide)).trans (f1 (by simpa using h)), fun h => (getD_put_ne (by decide)).trans (f2 (by simpa using h)), fun h => (getD_put_ne (by decide)).trans (f3 (by simpa using h)), fun h => (getD_put_ne (by decide)).trans (f4 (by simpa using h)), fun _ => getD_put_same (by rw [hsz]; omega), fun h => (getD_put_ne (by decide)).trans (f6 (by simpa using h)), fun h => (getD_put_ne (by decide)).trans (f7 (by simpa using h)), fun h => (getD_put_ne (by decide)).trans (f8 (by simpa using h)), fun h => (getD_put_ne (by decide)).trans (f9 (by simpa using h)), fun h => (getD_put_ne (by decide)).trans (f10 (by simpa using h)), fun h => (getD_put_ne (by decide)).trans (f11 (by simpa using h)), fun h => (getD_put_ne (by decide)).trans (f12 (by simpa using h)), fun h => (getD_put_ne (by decide)).trans (f13 (by simpa using h)), u, (wsWvB_same _ _ _ _ _ _ _ _ _ _  rfl hW)⟩
    · obtain rfl : oWvB6 pp = o := Option.some.inj ho
      exact step_move rfl rfl rfl (hF.at 7 rfl h7) ⟨frm' 29 _ rfl, fun h => (getD_put_ne (by decide)).trans (f0 (by simpa using h)), fun h => (getD_put_ne (by decide)).trans (f1 (by simpa using h)), fun h => (getD_put_ne (by decide)).trans (f2 (by simpa using h)), fun h => (getD_put_ne (by decide)).trans (f3 (by simpa using h)), fun h => (getD_put_ne (by decide)).trans (f4 (by simpa using h)), fun h => (getD_put_ne (by decide)).trans (f5 (by simpa using h)), fun _ => getD_put_same (by rw [hsz]; omega), fun h => (getD_put_ne (by decide)).trans (f7 (by simpa using h)), fun h => (getD_put_ne (by decide)).trans (f8 (by simpa using h)), fun h => (getD_put_ne (by decide)).trans (f9 (by simpa using h)), fun h => (getD_put_ne (by decide)).trans (f10 (by simpa using h)), fun h => (getD_put_ne (by decide)).trans (f11 (by simpa using h)), fun h => (getD_put_ne (by decide)).trans (f12 (by simpa using h)), fun h => (getD_put_ne (by decide)).trans (f13 (by simpa using h)), u, (wsWvB_same _ _ _ _ _ _ _ _ _ _  rfl hW)⟩
    · obtain rfl : oWvB7 pp = o := Option.some.inj ho
      exact step_move rfl rfl rfl (hF.at 2 rfl h2) ⟨frm' 30 _ rfl, fun h => (getD_put_ne (by decide)).trans (f0 (by simpa using h)), fun h => (getD_put_ne (by decide)).trans (f1 (by simpa using h)), fun h => (getD_put_ne (by decide)).trans (f2 (by simpa using h)), fun h => (getD_put_ne (by decide)).trans (f3 (by simpa using h)), fun h => (getD_put_ne (by decide)).trans (f4 (by simpa using h)), fun h => (getD_put_ne (by decide)).trans (f5 (by simpa using h)), fun h => (getD_put_ne (by decide)).trans (f6 (by simpa using h)), fun _ => getD_put_same (by rw [hsz]; omega), fun h => (getD_put_ne (by decide)).trans (f8 (by simpa using h)), fun h => (getD_put_ne (by decide)).trans (f9 (by simpa using h)), fun h => (getD_put_ne (by decide)).trans (f10 (by simpa using h)), fun h => (getD_put_ne (by decide)).trans (f11 (by simpa using h)), fun h => (getD_put_ne (by decide)).trans (f12 (by simpa using h)), fun h => (getD_put_ne (by decide)).trans (f13 (by simpa using h)), u, (wsWvB_same _ _ _ _ _ _ _ _ _ _  rfl hW)⟩
    · obtain rfl : oWvB8 pp = o := Option.some.inj ho
      exact step_move rfl rfl rfl (hF.at 0 rfl h0) ⟨frm' 31 _ rfl, fun h => (getD_put_ne (by decide)).trans (f0 (by simpa using h)), fun h => (getD_put_ne (by decide)).trans (f1 (by simpa using h)), fun h => (getD_put_ne (by decide)).trans (f2 (by simpa using h)), fun h => (getD_put_ne (by decide)).trans (f3 (by simpa using h)), fun h => (getD_put_ne (by decide)).trans (f4 (by simpa using h)), fun h => (getD_put_ne (by decide)).trans (f5 (by simpa using h)), fun h => (getD_put_ne (by decide)).trans (f6 (by simpa using h)), fun h => (getD_put_ne (by decide)).trans (f7 (by simpa using h)), fun _ => getD_put_same (by rw [hsz]; omega), fun h => (getD_put_ne (by decide)).trans (f9 (by simpa using h)), fun h => (getD_put_ne (by decide)).trans (f10 (by simpa using h)), fun h => (getD_put_ne (by decide)).trans (f11 (by simpa using h)), fun h => (getD_put_ne (by decide)).trans (f12 (by simpa using h)), fun h => (getD_put_ne (by decide)).trans (f13 (by simpa using h)), u, (wsWvB_same _ _ _ _ _ _ _ _ _ _  rfl hW)⟩
    · obtain rfl : oWvB9 pp = o := Option.some.inj ho
      have q8 : a'.tmps.getD 31 undef = .pointer (some ⟨r, 0, none⟩) := f8 (edge_ofF (o := oWvB9 pp) hpre 8 rfl)
      have nL : L 14 = false := not_yetF hcl 30 (show reachB (opsWvB pp) 30 14 9 = true by kernel_rfl) hLi
      exact step_nilCheckF rfl rfl rfl q8 (trivial) ⟨frm' 32 _ rfl, fun h => (getD_put_ne (by decide)).trans (f0 (by simpa using h)), fun h => (getD_put_ne (by decide)).trans (f1 (by simpa using h)), fun h => (getD_put_ne (by decide)).trans (f2 (by simpa using h)), fun h => (getD_put_ne (by decide)).trans (f3 (by simpa using h)), fun h => (getD_put_ne (by decide)).trans (f4 (by simpa using h)), fun h => (getD_put_ne (by decide)).trans (f5 (by simpa using h)), fun h => (getD_put_ne (by decide)).trans (f6 (by simpa using h)), fun h => (getD_put_ne (by decide)).trans (f7 (by simpa using h)), fun h => (getD_put_ne (by decide)).trans (f8 (by simpa using h)), fun _ => getD_put_same (by rw [hsz]; omega), fun h => (getD_put_ne (by decide)).trans (f10 (by simpa using h)), fun h => (getD_put_ne (by decide)).trans (f11 (by simpa using h)), fun h => (getD_put_ne (by decide)).trans (f12 (by simpa using h)), fun h => (getD_put_ne (by decide)).trans (f13 (by simpa using h)), u, (wsWvB_same _ _ _ _ _ _ _ _ _ _  rfl hW)⟩
    · obtain rfl : oWvB10 pp = o := Option.some.inj ho
      have q9 : a'.tmps.getD 32 undef = .pointer (some ⟨r, 0, none⟩) := f9 (edge_ofF (o := oWvB10 pp) hpre 9 rfl)
      have nL : L 14 = false := not_yetF hcl 30 (show reachB (opsWvB pp) 30 14 10 = true by kernel_rfl) hLi
      exact step_fieldF rfl rfl rfl q9 (run_fdW4 _ _) ⟨frm' 33 _ rfl, fun h => (getD_put_ne (by decide)).trans (f0 (by simpa using h)), fun h => (getD_put_ne (by decide)).trans (f1 (by simpa using h)), fun h => (getD_put_ne (by decide)).trans (f2 (by simpa using h)), fun h => (getD_put_ne (by decide)).trans (f3 (by simpa using h)), fun h => (getD_put_ne (by decide)).trans (f4 (by simpa using h)), fun h => (getD_put_ne (by decide)).trans (f5 (by simpa using h)), fun h => (getD_put_ne (by decide)).trans (f6 (by simpa using h)), fun h => (getD_put_ne (by decide)).trans (f7 (by simpa using h)), fun h => (getD_put_ne (by decide)).trans (f8 (by simpa using h)), fun h => (getD_put_ne (by decide)).trans (f9 (by simpa using h)), fun _ => getD_put_same (by rw [hsz]; omega), fun h => (getD_put_ne (by decide)).trans (f11 (by simpa using h)), fun h => (getD_put_ne (by decide)).trans (f12 (by simpa using h)), fun h => (getD_put_ne (by decide)).trans (f13 (by simpa using h)), u, (wsWvB_same _ _ _ _ _ _ _ _ _ _  rfl hW)⟩
    · obtain rfl : oWvB11 pp = o := Option.some.inj ho
      have q10 : a'.tmps.getD 33 undef = .pointer (some ⟨r, 4, none⟩) := f10 (edge_ofF (o := oWvB11 pp) hpre 10 rfl)
      have nL : L 14 = false := not_yetF hcl 30 (show reachB (opsWvB pp) 30 14 11 = true by kernel_rfl) hLi
      exact step_load rfl rfl rfl q10 (by rw [hW.1 nL]; exact run_ldIt _ _ _ x4) ⟨frm' 34 _ rfl, fun h => (getD_put_ne (by decide)).trans (f0 (by simpa using h)), fun h => (getD_put_ne (by decide)).trans (f1 (by simpa using h)), fun h => (getD_put_ne (by decide)).trans (f2 (by simpa using h)), fun h => (getD_put_ne (by decide)).trans (f3 (by simpa using h)), fun h => (getD_put_ne (by decide)).trans (f4 (by simpa using h)), fun h => (getD_put_ne (by decide)).trans (f5 (by simpa using h)), fun h => (getD_put_ne (by decide)).trans (f6 (by simpa using h)), fun h => (getD_put_ne (by decide)).trans (f7 (by simpa using h)), fun h => (getD_put_ne (by decide)).trans (f8 (by simpa using h)), fun h => (getD_put_ne (by decide)).trans (f9 (by simpa using h)), fun h => (getD_put_ne (by decide)).trans (f10 (by simpa using h)), fun _ => getD_put_same (by rw [hsz]; omega), fun h => (getD_put_ne (by decide)).trans (f12 (by simpa using h)), fun h => (getD_put_ne (by decide)).trans (f13 (by simpa using h)), u, (wsWvB_same _ _ _ _ _ _ _ _ _ _  rfl hW)⟩
    · obtain rfl : oWvB12 pp = o := Option.some.inj ho
      have q5 : a'.tmps.getD 28 undef = .agg #[.int .u8 (cd : Int), .string tx] := f5 (edge_ofF (o := oWvB12 pp) hpre 5 rfl)
      have q6 : a'.tmps.getD 29 undef = .bool fr := f6 (edge_ofF (o := oWvB12 pp) hpre 6 rfl)
      have q7 : a'.tmps.getD 30 undef = .int .i64 (wv : Int) := f7 (edge_ofF (o := oWvB12 pp) hpre 7 rfl)
      have q11 : a'.tmps.getD 34 undef = .int .i64 (t : Int) := f11 (edge_ofF (o := oWvB12 pp) hpre 11 rfl)
      exact step_bdDn rfl rfl rfl q5 q6 q7 q11 ⟨frm' 35 _ rfl, fun h => (getD_put_ne (by decide)).trans (f0 (by simpa using h)), fun h => (getD_put_ne (by decide)).trans (f1 (by simpa using h)), fun h => (getD_put_ne (by decide)).trans (f2 (by simpa using h)), fun h => (getD_put_ne (by decide)).trans (f3 (by simpa using h)), fun h => (getD_put_ne (by decide)).trans (f4 (by simpa using h)), fun h => (getD_put_ne (by decide)).trans (f5 (by simpa using h)), fun h => (getD_put_ne (by decide)).trans (f6 (by simpa using h)), fun h => (getD_put_ne (by decide)).trans (f7 (by simpa using h)), fun h => (getD_put_ne (by decide)).trans (f8 (by simpa using h)), fun h => (getD_put_ne (by decide)).trans (f9 (by simpa using h)), fun h => (getD_put_ne (by decide)).trans (f10 (by simpa using h)), fun h => (getD_put_ne (by decide)).trans (f11 (by simpa using h)), fun _ => getD_put_same (by rw [hsz]; omega), fun h => (getD_put_ne (by decide)).trans (f13 (by simpa using h)), u, (wsWvB_same _ _ _ _ _ _ _ _ _ _  rfl hW)⟩
    · obtain rfl : oWvB13 pp = o := Option.some.inj ho
      have q3 : a'.tmps.getD 26 undef = .slice (some ⟨b, 0, none⟩) M M := f3 (edge_ofF (o := oWvB13 pp) hpre 3 rfl)
      have q4 : a'.tmps.getD 27 undef = .int .i64 (qi : Int) := f4 (edge_ofF (o := oWvB13 pp) hpre 4 rfl)
      have nL : L 14 = false := not_yetF hcl 30 (show reachB (opsWvB pp) 30 14 13 = true by kernel_rfl) hLi
      exact step_index rfl rfl rfl q3 q4 (run_ixDn _ _ _ _ _ hi) ⟨frm' 36 _ rfl, fun h => (getD_put_ne (by decide)).trans (f0 (by simpa using h)), fun h => (getD_put_ne (by decide)).trans (f1 (by simpa using h)), fun h => (getD_put_ne (by decide)).trans (f2 (by simpa using h)), fun h => (getD_put_ne (by decide)).trans (f3 (by simpa using h)), fun h => (getD_put_ne (by decide)).trans (f4 (by simpa using h)), fun h => (getD_put_ne (by decide)).trans (f5 (by simpa using h)), fun h => (getD_put_ne (by decide)).trans (f6 (by simpa using h)), fun h => (getD_put_ne (by decide)).trans (f7 (by simpa using h)), fun h => (getD_put_ne (by decide)).trans (f8 (by simpa using h)), fun h => (getD_put_ne (by decide)).trans (f9 (by simpa using h)), fun h => (getD_put_ne (by decide)).trans (f10 (by simpa using h)), fun h => (getD_put_ne (by decide)).trans (f11 (by simpa using h)), fun h => (getD_put_ne (by decide)).trans (f12 (by simpa using h)), fun _ => getD_put_same (by rw [hsz]; omega), u, (wsWvB_same _ _ _ _ _ _ _ _ _ _  rfl hW)⟩
    · obtain rfl : oWvB14 pp = o := Option.some.inj ho
      have q13 : a'.tmps.getD 36 undef = .pointer (some ⟨b, qi * 5, none⟩) := f13 (edge_ofF (o := oWvB14 pp) hpre 13 rfl)
      have q12 : a'.tmps.getD 35 undef = .agg #[.int .u8 (cd : Int), .string tx, .bool fr, .int .i64 (wv : Int), .int .i64 (t : Int)] := f12 (edge_ofF (o := oWvB14 pp) hpre 12 rfl)
      have hw := hW.1 hLi
      have hx1 : a'.eval (.tmp 36) = .pointer (some ⟨b, qi * 5, none⟩) := q13
      have hx2 : a'.eval (.tmp 35) = .agg (DV.cells ⟨cd, tx, fr, wv, t⟩) := q12
      rw [← hw] at hst
      refine step_skip (o := oWvB14 pp) rfl rfl (by intro c h; cases h) (by simp [Oper.about, oWvB14]) (w' := setDn w' b qi ⟨cd, tx, fr, wv, t⟩) (by
        unfold execOp
        simp only [oWvB14, hx1, hx2, Sem.run_bind, hst, Result.andThen_ok]
        rfl) ?_
      have hW2 : wsWvB r qi wv b x M t cd tx fr w.drew (fun j => L j || j == 14) u (setDn w' b qi ⟨cd, tx, fr, wv, t⟩) := by
        refine ⟨fun h => ?_, fun _ => by rw [hw]⟩
        simp at h
      exact ⟨hF, fun h => f0 (by simpa using h), fun h => f1 (by simpa using h), fun h => f2 (by simpa using h), fun h => f3 (by simpa using h), fun h => f4 (by simpa using h), fun h => f5 (by simpa using h), fun h => f6 (by simpa using h), fun h => f7 (by simpa using h), fun h => f8 (by simpa using h), fun h => f9 (by simpa using h), fun h => f10 (by simpa using h), fun h => f11 (by simpa using h), fun h => f12 (by simpa using h), fun h => f13 (by simpa using h), u, hW2⟩
    · exact absurd ((Array.getElem?_eq_some_iff.1 ho).1) (by simp [opsWvB])
  · intro L a' w' hv hall
    have hL : ∀ j, j < 15 → L j = true := fun j hj => hall j (by simpa [opsWvB] using hj)
    obtain ⟨hF, f0, f1, f2, f3, f4, f5, f6, f7, f8, f9, f10, f11, f12, f13, u, hW⟩ := hv
    have hW2 : wsWvB r qi wv b x M t cd tx fr w.drew (fun _ => true) u w' := by
      unfold wsWvB at hW ⊢
      simp only [hL 14 (by omega)] at hW ⊢
      exact hW
    have hput : a' = puts [(23, .pointer (some ⟨r, 0, none⟩)), (24, .pointer (some ⟨r, 0, none⟩)), (25, .pointer (some ⟨r, 3, none⟩)), (26, .slice (some ⟨b, 0, none⟩) M M), (27, .int .i64 (qi : Int)), (28, .agg #[.int .u8 (cd : Int), .string tx]), (29, .bool fr), (30, .int .i64 (wv : Int)), (31, .pointer (some ⟨r, 0, none⟩)), (32, .pointer (some ⟨r, 0, none⟩)), (33, .pointer (some ⟨r, 4, none⟩)), (34, .int .i64 (t : Int)), (35, .agg #[.int .u8 (cd : Int), .string tx, .bool fr, .int .i64 (wv : Int), .int .i64 (t : Int)]), (36, .pointer (some ⟨b, qi * 5, none⟩))] a := hF.puts _ (by
      intro z hz
      simp only [List.mem_cons, List.not_mem_nil, or_false] at hz
      rcases hz with rfl | rfl | rfl | rfl | rfl | rfl | rfl | rfl | rfl | rfl | rfl | rfl | rfl | rfl
      · exact f0 (hL 0 (by omega))
      · exact f1 (hL 1 (by omega))
      · exact f2 (hL 2 (by omega))
      · exact f3 (hL 3 (by omega))
      · exact f4 (hL 4 (by omega))
      · exact f5 (hL 5 (by omega))
      · exact f6 (hL 6 (by omega))
      · exact f7 (hL 7 (by omega))
      · exact f8 (hL 8 (by omega))
      · exact f9 (hL 9 (by omega))
      · exact f10 (hL 10 (by omega))
      · exact f11 (hL 11 (by omega))
      · exact f12 (hL 12 (by omega))
      · exact f13 (hL 13 (by omega))) rfl (by rw [hN]; rfl)
    rw [hput]
    exact hQ u w' hW2
end Go.Proofs.YtfjmdkhemnmkpaaGreatDoor
