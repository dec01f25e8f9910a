/- Parts of the proof: AqDr. -/
import Derived.Test.YtfjmdkhemnmkpaaGreatDoorA10
namespace Go.Proofs.YtfjmdkhemnmkpaaGreatDoor
open Go.RowKit
theorem run_ld32 (w : World) (p : Addr) (v : Value) (h : w.cell? p = some v) : (Instr.loadAt 54 (.pointer (some p))).run Tryz.prog w = .ok v w := by
  simp [go_sem, h]
theorem run_fdA (w : World) (g : Nat) : (Instr.fieldAt 92 (.pointer (some ⟨g, 0, none⟩)) 0).run Tryz.prog w = .ok (.pointer (some ⟨g, 0, none⟩)) w := by
  first
    | kernel_rfl
    | (simp [go_sem, Instr.fieldAt]; done)
theorem run_fdM0 (w : World) (g : Nat) : (Instr.fieldAt 57 (.pointer (some ⟨g, 0, none⟩)) 0).run Tryz.prog w = .ok (.pointer (some ⟨g, 0, none⟩)) w := by
  first
    | kernel_rfl
    | (simp [go_sem, Instr.fieldAt]; done)
theorem run_fdM1 (w : World) (g : Nat) : (Instr.fieldAt 57 (.pointer (some ⟨g, 0, none⟩)) 1).run Tryz.prog w = .ok (.pointer (some ⟨g, 1, none⟩)) w := by
  first
    | kernel_rfl
    | (simp [go_sem, Instr.fieldAt]; done)
theorem run_ldCmd (w : World) (b : Nat) (x : CmdV) (h : ∀ i u, x.cells[i]? = some u → w.cell? ⟨b, i, none⟩ = some u) : (Instr.loadAt 57 (.pointer (some ⟨b, 0, none⟩))).run Tryz.prog w = .ok x.val w := by
  have h0 := h 0 _ rfl
  have h1 := h 1 _ rfl
  have h2 := h 2 _ rfl
  have h3 := h 3 _ rfl
  have h4 := h 4 _ rfl
  have h5 := h 5 _ rfl
  have h6 := h 6 _ rfl
  simp [go_sem, h0, h1, h2, h3, h4, h5, h6, CmdV.val, CmdV.cells]
def RepB (W : World) (q c : Nat) (t : ByteArray) : Prop := W.heap[q]? = some (.cells #[.int .u8 (c : Int), .string t] 45 (0, 0))
theorem RepB.lt {W : World} {q c : Nat} {t : ByteArray} (h : RepB W q c t) : q < W.heap.size := (Array.getElem?_eq_some_iff.1 h).1
theorem RepB.set {W : World} {q c : Nat} {t : ByteArray} (h : RepB W q c t) (d : Nat) (u : ByteArray) : RepB ((W.setCell ⟨q, 0, none⟩ (.int .u8 (d : Int))).setCell ⟨q, 1, none⟩ (.string u)) q d u := blk_set (blk_set h 0 _) 1 _
theorem run_alRep (w : World) : (Instr.alloc 45 true (.tuple #[])).run Tryz.prog w = .ok (.pointer (some ⟨w.heap.size, 0, none⟩)) (w.alloc (.cells #[.int .u8 0, .string ⟨#[]⟩] 45)) := by
  simp [go_sem]
theorem run_ldRep (w : World) (q c : Nat) (t : ByteArray) (h : RepB w q c t) : (Instr.loadAt 45 (.pointer (some ⟨q, 0, none⟩))).run Tryz.prog w = .ok (.agg #[.int .u8 (c : Int), .string t]) w := by
  have c0 : w.cell? ⟨q, 0, none⟩ = some (.int .u8 (c : Int)) := by rw [blk_cell h 0]; rfl
  have c1 : w.cell? ⟨q, 1, none⟩ = some (.string t) := by rw [blk_cell h 1]; rfl
  simp [go_sem, c0, c1]
theorem run_stRep (w : World) (q c : Nat) (t : ByteArray) (h : RepB w q c t) (d : Nat) (u : ByteArray) :
    (Instr.storeAt 45 (.pointer (some ⟨q, 0, none⟩)) (.agg #[.int .u8 (d : Int), .string u])).run Tryz.prog w = .ok () ((w.setCell ⟨q, 0, none⟩ (.int .u8 (d : Int))).setCell ⟨q, 1, none⟩ (.string u)) := by
  have c0 : w.cell? ⟨q, 0, none⟩ = some (.int .u8 (c : Int)) := by rw [blk_cell h 0]; rfl
  have c1 : w.cell? ⟨q, 1, none⟩ = some (.string t) := by rw [blk_cell h 1]; rfl
  have z0 := blk_frozen h 0
  have z1 := blk_frozen h 1
  simp [go_sem, c0, c1, z0, z1]
def oAqU0 (pp : String) : Oper := { dst := some 17, op := Op.move (Operand.tmp 0), type := 26, pos := pp, after := #[], guard := none }
def oAqU1 (pp : String) : Oper := { dst := some 18, op := Op.nilCheck (Operand.tmp 17), type := 0, pos := pp, after := #[{ on := 0, ground := Ground.data }], guard := none }
def oAqU2 (pp : String) : Oper := { dst := some 19, op := Op.fieldAddr 92 (Operand.tmp 18) 0, type := 0, pos := pp, after := #[{ on := 1, ground := Ground.data }], guard := none }
def oAqU3 (pp : String) : Oper := { dst := some 20, op := Op.fieldAddr 77 (Operand.tmp 19) 1, type := 0, pos := pp, after := #[{ on := 2, ground := Ground.data }], guard := none }
def oAqU4 (pp : String) : Oper := { dst := some 21, op := Op.load 75 (Operand.tmp 20), type := 75, pos := pp, after := #[{ on := 3, ground := Ground.data }], guard := none }
def oAqU5 (pp : String) : Oper := { dst := some 22, op := Op.fieldAddr 57 (Operand.tmp 3) 0, type := 0, pos := pp, after := #[], guard := none }
def oAqU6 (pp : String) : Oper := { dst := some 23, op := Op.load 54 (Operand.tmp 22), type := 54, pos := pp, after := #[{ on := 5, ground := Ground.data }], guard := none }
def oAqU7 (pp : String) : Oper := { dst := some 24, op := Op.fieldAddr 57 (Operand.tmp 3) 1, type := 0, pos := pp, after := #[], guard := none }
def oAqU8 (pp : String) : Oper := { dst := some 25, op := Op.load 54 (Operand.tmp 24), type := 54, pos := pp, after := #[{ on := 7, ground := Ground.data }], guard := none }
def oAqU9 (pp : String) : Oper := { dst := some 26, op := Op.call { callee := Callee.value (Operand.func 42), args := #[Operand.tmp 21, Operand.tmp 23, Operand.tmp 25], argTypes := #[75, 54, 54] }, type := 93, pos := pp, after := #[{ on := 4, ground := Ground.data }, { on := 6, ground := Ground.data }, { on := 8, ground := Ground.data }], guard := none }
def oAqU10 (pp : String) : Oper := { dst := some 16, op := Op.move (Operand.tmp 26), type := 93, pos := pp, after := #[{ on := 9, ground := Ground.data }], guard := none }
def oAqU11 (pp : String) : Oper := { dst := some 27, op := Op.extract (Operand.tmp 16) 0, type := 45, pos := pp, after := #[{ on := 10, ground := Ground.data }], guard := none }
def oAqU12 (pp : String) : Oper := { dst := some 28, op := Op.extract (Operand.tmp 16) 1, type := 5, pos := pp, after := #[{ on := 10, ground := Ground.data }, { on := 14, ground := Ground.gcOnly Departure.lateStores }], guard := none }
def oAqU13 (pp : String) : Oper := { dst := some 6, op := Op.alloc 45, type := 0, pos := pp, after := #[], guard := none }
def oAqU14 (pp : String) : Oper := { dst := none, op := Op.store 45 (Operand.tmp 6) (Operand.tmp 27), type := 0, pos := pp, after := #[{ on := 13, ground := Ground.data }, { on := 11, ground := Ground.data }, { on := 9, ground := Ground.chain }, { on := 0, ground := Ground.phase }, { on := 1, ground := Ground.phase }, { on := 2, ground := Ground.phase }, { on := 3, ground := Ground.phase }, { on := 4, ground := Ground.phase }, { on := 5, ground := Ground.phase }, { on := 6, ground := Ground.phase }, { on := 7, ground := Ground.phase }, { on := 8, ground := Ground.phase }, { on := 9, ground := Ground.phase }, { on := 10, ground := Ground.phase }, { on := 11, ground := Ground.phase }, { on := 12, ground := Ground.textOnly Departure.lateStores }, { on := 13, ground := Ground.phase }], guard := none }
def oAqU15 (pp : String) : Oper := { dst := some 7, op := Op.assign (Operand.tmp 28), type := 5, pos := pp, after := #[{ on := 12, ground := Ground.data }, { on := 14, ground := Ground.chain }, { on := 0, ground := Ground.phase }, { on := 1, ground := Ground.phase }, { on := 2, ground := Ground.phase }, { on := 3, ground := Ground.phase }, { on := 4, ground := Ground.phase }, { on := 5, ground := Ground.phase }, { on := 6, ground := Ground.phase }, { on := 7, ground := Ground.phase }, { on := 8, ground := Ground.phase }, { on := 9, ground := Ground.phase }, { on := 10, ground := Ground.phase }, { on := 11, ground := Ground.phase }, { on := 12, ground := Ground.phase }, { on := 13, ground := Ground.phase }, { on := 14, ground := Ground.phase }], guard := none }
def opsAqU (pp : String) : List Oper := [oAqU0 pp, oAqU1 pp, oAqU2 pp, oAqU3 pp, oAqU4 pp, oAqU5 pp, oAqU6 pp, oAqU7 pp, oAqU8 pp, oAqU9 pp, oAqU10 pp, oAqU11 pp, oAqU12 pp, oAqU13 pp, oAqU14 pp, oAqU15 pp]
theorem opsAqU_back (pp : String) : backwards (opsAqU pp) = true := by kernel_rfl
def wsAqU (_R _p _Rs _cl _sq cd _k : Nat) (tx : ByteArray) (W0 : World) (L : Nat → Bool) (u : Value) (w : World) : Prop := Below W0.heap.size W0 w ∧ (L 13 = true → ∃ x, u = .pointer (some ⟨x, 0, none⟩) ∧ W0.heap.size ≤ x ∧ RepB w x (if L 14 = true then cd else 0) (if L 14 = true then tx else ⟨#[]⟩))
theorem wsAqU_same (R p Rs cl sq cd k : Nat) (tx : ByteArray) {W0 : World} {L : Nat → Bool} {i : Nat} {u : Value} {w : World} (k13 : ((13 : Nat) == i) = false) (k14 : ((14 : Nat) == i) = false) (h : wsAqU R p Rs cl sq cd k tx W0 L u w) : wsAqU R p Rs cl sq cd k tx W0 (fun j => L j || j == i) u w := by
  unfold wsAqU at h ⊢
  simp only [beq_noF k13, beq_noF k14]
  exact h
structure InvAqU (R p Rs cl sq cd k : Nat) (tx : ByteArray) (W0 : World) (a : Act) (pp : String) (L : Nat → Bool) (a' : Act) (w' : World) : Prop where
  frm : Frm (opsAqU pp) a a'
  f0 : L 0 = true → a'.tmps.getD 17 undef = .pointer (some ⟨R, 0, none⟩)
  f1 : L 1 = true → a'.tmps.getD 18 undef = .pointer (some ⟨R, 0, none⟩)
  f2 : L 2 = true → a'.tmps.getD 19 undef = .pointer (some ⟨R, 0, none⟩)
  f3 : L 3 = true → a'.tmps.getD 20 undef = .pointer (some ⟨R, 1, none⟩)
  f4 : L 4 = true → a'.tmps.getD 21 undef = .pointer (some ⟨Rs, 0, none⟩)
  f5 : L 5 = true → a'.tmps.getD 22 undef = .pointer (some ⟨p, 0, none⟩)
  f6 : L 6 = true → a'.tmps.getD 23 undef = .int .u32 (cl : Int)
  f7 : L 7 = true → a'.tmps.getD 24 undef = .pointer (some ⟨p, 1, none⟩)
  f8 : L 8 = true → a'.tmps.getD 25 undef = .int .u32 (sq : Int)
  f9 : L 9 = true → a'.tmps.getD 26 undef = .tuple #[.agg #[.int .u8 (cd : Int), .string tx], .int .u8 (k : Int)]
  f10 : L 10 = true → a'.tmps.getD 16 undef = .tuple #[.agg #[.int .u8 (cd : Int), .string tx], .int .u8 (k : Int)]
  f11 : L 11 = true → a'.tmps.getD 27 undef = .agg #[.int .u8 (cd : Int), .string tx]
  f12 : L 12 = true → a'.tmps.getD 28 undef = .int .u8 (k : Int)
  f15 : L 15 = true → a'.tmps.getD 7 undef = .int .u8 (k : Int)
  ex : ∃ u : Value, (L 13 = true → a'.tmps.getD 6 undef = u) ∧ wsAqU R p Rs cl sq cd k tx W0 L u w'
set_option maxRecDepth 100000 in
set_option maxHeartbeats 4000000 in
theorem ado_look {pp : String} (R p Rs cl sq cd k : Nat) (tx : ByteArray) (a : Act) (w : World) (Q : Exit → Act → World → Prop) (hN : a.tmps.size = 60) (h0 : a.tmps.getD 0 undef = .pointer (some ⟨R, 0, none⟩)) (h3 : a.tmps.getD 3 undef = .pointer (some ⟨p, 0, none⟩)) (hRl : R < w.heap.size) (hpl : p < w.heap.size) (cR1 : w.cell? ⟨R, 1, none⟩ = some (.pointer (some ⟨Rs, 0, none⟩))) (cp0 : w.cell? ⟨p, 0, none⟩ = some (.int .u32 (cl : Int))) (cp1 : w.cell? ⟨p, 1, none⟩ = some (.int .u32 (sq : Int))) (hC : ∀ w', Grew w w' → Calls Tryz.prog 42 #[.pointer (some ⟨Rs, 0, none⟩), .int .u32 (cl : Int), .int .u32 (sq : Int)] w' fun e W' => e = .returned (.tuple #[.agg #[.int .u8 (cd : Int), .string tx], .int .u8 (k : Int)]) ∧ Below w'.heap.size w' W') (hW0 : wsAqU R p Rs cl sq cd k tx w.drew (fun _ => false) undef w.drew) (hQ : ∀ (u : Value) w', wsAqU R p Rs cl sq cd k tx w.drew (fun _ => true) u w' → Q .normal (puts [(17, .pointer (some ⟨R, 0, none⟩)), (18, .pointer (some ⟨R, 0, none⟩)), (19, .pointer (some ⟨R, 0, none⟩)), (20, .pointer (some ⟨R, 1, none⟩)), (21, .pointer (some ⟨Rs, 0, none⟩)), (22, .pointer (some ⟨p, 0, none⟩)), (23, .int .u32 (cl : Int)), (24, .pointer (some ⟨p, 1, none⟩)), (25, .int .u32 (sq : Int)), (26, .tuple #[.agg #[.int .u8 (cd : Int), .string tx], .int .u8 (k : Int)]), (16, .tuple #[.agg #[.int .u8 (cd : Int), .string tx], .int .u8 (k : Int)]), (27, .agg #[.int .u8 (cd : Int), .string tx]), (28, .int .u8 (k : Int)), (6, u), (7, .int .u8 (k : Int))] a) w')
    : (Code.region 3 (opsAqU pp).toArray true).wp Tryz.prog Q a w := by
  refine (wpIn_wide (n := 1)).1 (wpIn_region_by follows (opsAqU_back pp) (InvAqU R p Rs cl sq cd k tx w.drew a pp) ?_ ?_ ?_)
  · exact ⟨⟨rfl, rfl, fun _ _ => rfl⟩, fun h => (by cases h), fun h => (by cases h), fun h => (by cases h), fun h => (by cases h), fun h => (by cases h), fun h => (by cases h), fun h => (by cases h), fun h => (by cases h), fun h => (by cases h), fun h => (by cases h), fun h => (by cases h), fun h => (by cases h), fun h => (by cases h), fun h => (by cases h), undef, fun h => (by cases h), hW0⟩
  · intro L a' w' i o hv ho hLi hpre hcl
    obtain ⟨hF, f0, f1, f2, f3, f4, f5, f6, f7, f8, f9, f10, f11, f12, f15, u, fu, hW⟩ := hv
    have hsz : a'.tmps.size = 60 := hF.size.trans hN
    have frm' : ∀ (d : Nat) (v : Value), o.dst = some d → Frm (opsAqU pp) a (a'.put (some d) v) := fun d v hd => ⟨size_put.trans hF.size, defers_put.trans hF.defers, fun s hs => by
      have hm : o ∈ opsAqU pp := by simpa using List.mem_of_getElem? (by simpa using ho)
      rw [getD_put_ne (fun e => hs o hm (by rw [hd, e]))]
      exact hF.old s hs⟩
    rcases i with _ | _ | _ | _ | _ | _ | _ | _ | _ | _ | _ | _ | _ | _ | _ | _ | i
    · obtain rfl : oAqU0 pp = o := Option.some.inj ho
      exact step_move rfl rfl rfl (hF.at 0 rfl h0) ⟨frm' 17 _ rfl, fun _ => getD_put_same (by rw [hsz]; omega), fun h => (getD_put_ne (by decide)).trans (f1 (by simpa using h)), fun h => (getD_put_ne (by decide)).trans (f2 (by simpa using h)), fun h => (getD_put_ne (by decide)).trans (f3 (by simpa using h)), fun h => (getD_put_ne (by decide)).trans (f4 (by simpa using h)), fun h => (getD_put_ne (by decide)).trans (f5 (by simpa using h)), fun h => (getD_put_ne (by decide)).trans (f6 (by simpa using h)), fun h => (getD_put_ne (by decide)).trans (f7 (by simpa using h)), fun h => (getD_put_ne (by decide)).trans (f8 (by simpa using h)), fun h => (getD_put_ne (by decide)).trans (f9 (by simpa using h)), fun h => (getD_put_ne (by decide)).trans (f10 (by simpa using h)), fun h => (getD_put_ne (by decide)).trans (f11 (by simpa using h)), fun h => (getD_put_ne (by decide)).trans (f12 (by simpa using h)), fun h => (getD_put_ne (by decide)).trans (f15 (by simpa using h)), u, fun h => (getD_put_ne (by decide)).trans (fu (by simpa using h)), (wsAqU_same _ _ _ _ _ _ _ _  rfl rfl hW)⟩
    · obtain rfl : oAqU1 pp = o := Option.some.inj ho
      have q0 : a'.tmps.getD 17 undef = .pointer (some ⟨R, 0, none⟩) := f0 (edge_ofF (o := oAqU1 pp) hpre 0 rfl)
      exact step_nilCheckF rfl rfl rfl q0 (trivial) ⟨frm' 18 _ rfl, fun h => (getD_put_ne (by decide)).trans (f0 (by simpa using h)), fun _ => getD_put_same (by rw [hsz]; omega), fun h => (getD_put_ne (by decide)).trans (f2 (by simpa using h)), fun h => (getD_put_ne (by decide)).trans (f3 (by simpa using h)), fun h => (getD_put_ne (by decide)).trans (f4 (by simpa using h)), fun h => (getD_put_ne (by decide)).trans (f5 (by simpa using h)), fun h => (getD_put_ne (by decide)).trans (f6 (by simpa using h)), fun h => (getD_put_ne (by decide)).trans (f7 (by simpa using h)), fun h => (getD_put_ne (by decide)).trans (f8 (by simpa using h)), fun h => (getD_put_ne (by decide)).trans (f9 (by simpa using h)), fun h => (getD_put_ne (by decide)).trans (f10 (by simpa using h)), fun h => (getD_put_ne (by decide)).trans (f11 (by simpa using h)), fun h => (getD_put_ne (by decide)).trans (f12 (by simpa using h)), fun h => (getD_put_ne (by decide)).trans (f15 (by simpa using h)), u, fun h => (getD_put_ne (by decide)).trans (fu (by simpa using h)), (wsAqU_same _ _ _ _ _ _ _ _  rfl rfl hW)⟩
    · obtain rfl : oAqU2 pp = o := Option.some.inj ho
      have q1 : a'.tmps.getD 18 undef = .pointer (some ⟨R, 0, none⟩) := f1 (edge_ofF (o := oAqU2 pp) hpre 1 rfl)
      exact step_fieldF rfl rfl rfl q1 (run_fdA _ _) ⟨frm' 19 _ rfl, fun h => (getD_put_ne (by decide)).trans (f0 (by simpa using h)), fun h => (getD_put_ne (by decide)).trans (f1 (by simpa using h)), fun _ => getD_put_same (by rw [hsz]; omega), fun h => (getD_put_ne (by decide)).trans (f3 (by simpa using h)), fun h => (getD_put_ne (by decide)).trans (f4 (by simpa using h)), fun h => (getD_put_ne (by decide)).trans (f5 (by simpa using h)), fun h => (getD_put_ne (by decide)).trans (f6 (by simpa using h)), fun h => (getD_put_ne (by decide)).trans (f7 (by simpa using h)), fun h => (getD_put_ne (by decide)).trans (f8 (by simpa using h)), fun h => (getD_put_ne (by decide)).trans (f9 (by simpa using h)), fun h => (getD_put_ne (by decide)).trans (f10 (by simpa using h)), fun h => (getD_put_ne (by decide)).trans (f11 (by simpa using h)), fun h => (getD_put_ne (by decide)).trans (f12 (by simpa using h)), fun h => (getD_put_ne (by decide)).trans (f15 (by simpa using h)), u, fun h => (getD_put_ne (by decide)).trans (fu (by simpa using h)), (wsAqU_same _ _ _ _ _ _ _ _  rfl rfl hW)⟩
    · obtain rfl : oAqU3 pp = o := Option.some.inj ho
      have q2 : a'.tmps.getD 19 undef = .pointer (some ⟨R, 0, none⟩) := f2 (edge_ofF (o := oAqU3 pp) hpre 2 rfl)
      exact step_fieldF rfl rfl rfl q2 (run_fdC1 _ _) ⟨frm' 20 _ rfl, fun h => (getD_put_ne (by decide)).trans (f0 (by simpa using h)), fun h => (getD_put_ne (by decide)).trans (f1 (by simpa using h)), fun h => (getD_put_ne (by decide)).trans (f2 (by simpa using h)), fun _ => getD_put_same (by rw [hsz]; omega), fun h => (getD_put_ne (by decide)).trans (f4 (by simpa using h)), fun h => (getD_put_ne (by decide)).trans (f5 (by simpa using h)), fun h => (getD_put_ne (by decide)).trans (f6 (by simpa using h)), fun h => (getD_put_ne (by decide)).trans (f7 (by simpa using h)), fun h => (getD_put_ne (by decide)).trans (f8 (by simpa using h)), fun h => (getD_put_ne (by decide)).trans (f9 (by simpa using h)), fun h => (getD_put_ne (by decide)).trans (f10 (by simpa using h)), fun h => (getD_put_ne (by decide)).trans (f11 (by simpa using h)), fun h => (getD_put_ne (by decide)).trans (f12 (by simpa using h)), fun h => (getD_put_ne (by decide)).trans (f15 (by simpa using h)), u, fun h => (getD_put_ne (by decide)).trans (fu (by simpa using h)), (wsAqU_same _ _ _ _ _ _ _ _  rfl rfl hW)⟩
    · obtain rfl : oAqU4 pp = o := Option.some.inj ho
      have q3 : a'.tmps.getD 20 undef = .pointer (some ⟨R, 1, none⟩) := f3 (edge_ofF (o := oAqU4 pp) hpre 3 rfl)
      exact step_load rfl rfl rfl q3 (run_ldS1 _ _ _ ((Below.cell (p := ⟨R, 1, none⟩) hW.1 hRl).trans cR1)) ⟨frm' 21 _ rfl, fun h => (getD_put_ne (by decide)).trans (f0 (by simpa using h)), fun h => (getD_put_ne (by decide)).trans (f1 (by simpa using h)), fun h => (getD_put_ne (by decide)).trans (f2 (by simpa using h)), fun h => (getD_put_ne (by decide)).trans (f3 (by simpa using h)), fun _ => getD_put_same (by rw [hsz]; omega), fun h => (getD_put_ne (by decide)).trans (f5 (by simpa using h)), fun h => (getD_put_ne (by decide)).trans (f6 (by simpa using h)), fun h => (getD_put_ne (by decide)).trans (f7 (by simpa using h)), fun h => (getD_put_ne (by decide)).trans (f8 (by simpa using h)), fun h => (getD_put_ne (by decide)).trans (f9 (by simpa using h)), fun h => (getD_put_ne (by decide)).trans (f10 (by simpa using h)), fun h => (getD_put_ne (by decide)).trans (f11 (by simpa using h)), fun h => (getD_put_ne (by decide)).trans (f12 (by simpa using h)), fun h => (getD_put_ne (by decide)).trans (f15 (by simpa using h)), u, fun h => (getD_put_ne (by decide)).trans (fu (by simpa using h)), (wsAqU_same _ _ _ _ _ _ _ _  rfl rfl hW)⟩
    · obtain rfl : oAqU5 pp = o := Option.some.inj ho
      exact step_fieldF rfl rfl rfl (hF.at 3 rfl h3) (run_fdM0 _ _) ⟨frm' 22 _ rfl, fun h => (getD_put_ne (by decide)).trans (f0 (by simpa using h)), fun h => (getD_put_ne (by decide)).trans (f1 (by simpa using h)), fun h => (getD_put_ne (by decide)).trans (f2 (by simpa using h)), fun h => (getD_put_ne (by decide)).trans (f3 (by simpa using h)), fun h => (getD_put_ne (by decide)).trans (f4 (by simpa using h)), fun _ => getD_put_same (by rw [hsz]; omega), fun h => (getD_put_ne (by decide)).trans (f6 (by simpa using h)), fun h => (getD_put_ne (by decide)).trans (f7 (by simpa using h)), fun h => (getD_put_ne (by decide)).trans (f8 (by simpa using h)), fun h => (getD_put_ne (by decide)).trans (f9 (by simpa using h)), fun h => (getD_put_ne (by decide)).trans (f10 (by simpa using h)), fun h => (getD_put_ne (by decide)).trans (f11 (by simpa using h)), fun h => (getD_put_ne (by decide)).trans (f12 (by simpa using h)), fun h => (getD_put_ne (by decide)).trans (f15 (by simpa using h)), u, fun h => (getD_put_ne (by decide)).trans (fu (by simpa using h)), (wsAqU_same _ _ _ _ _ _ _ _  rfl rfl hW)⟩
    · obtain rfl : oAqU6 pp = o := Option.some.inj ho
      have q5 : a'.tmps.getD 22 undef = .pointer (some ⟨p, 0, none⟩) := f5 (edge_ofF (o := oAqU6 pp) hpre 5 rfl)
      exact step_load rfl rfl rfl q5 (run_ld32 _ _ _ ((Below.cell (p := ⟨p, 0, none⟩) hW.1 hpl).trans cp0)) ⟨frm' 23 _ rfl, fun h => (getD_put_ne (by decide)).trans (f0 (by simpa using h)), fun h => (getD_put_ne (by decide)).trans (f1 (by simpa using h)), fun h => (getD_put_ne (by decide)).trans (f2 (by simpa using h)), fun h => (getD_put_ne (by decide)).trans (f3 (by simpa using h)), fun h => (getD_put_ne (by decide)).trans (f4 (by simpa using h)), fun h => (getD_put_ne (by decide)).trans (f5 (by simpa using h)), fun _ => getD_put_same (by rw [hsz]; omega), fun h => (getD_put_ne (by decide)).trans (f7 (by simpa using h)), fun h => (getD_put_ne (by decide)).trans (f8 (by simpa using h)), fun h => (getD_put_ne (by decide)).trans (f9 (by simpa using h)), fun h => (getD_put_ne (by decide)).trans (f10 (by simpa using h)), fun h => (getD_put_ne (by decide)).trans (f11 (by simpa using h)), fun h => (getD_put_ne (by decide)).trans (f12 (by simpa using h)), fun h => (getD_put_ne (by decide)).trans (f15 (by simpa using h)), u, fun h => (getD_put_ne (by decide)).trans (fu (by simpa using h)), (wsAqU_same _ _ _ _ _ _ _ _  rfl rfl hW)⟩
    · obtain rfl : oAqU7 pp = o := Option.some.inj ho
      exact step_fieldF rfl rfl rfl (hF.at 3 rfl h3) (run_fdM1 _ _) ⟨frm' 24 _ rfl, fun h => (getD_put_ne (by decide)).trans (f0 (by simpa using h)), fun h => (getD_put_ne (by decide)).trans (f1 (by simpa using h)), fun h => (getD_put_ne (by decide)).trans (f2 (by simpa using h)), fun h => (getD_put_ne (by decide)).trans (f3 (by simpa using h)), fun h => (getD_put_ne (by decide)).trans (f4 (by simpa using h)), fun h => (getD_put_ne (by decide)).trans (f5 (by simpa using h)), fun h => (getD_put_ne (by decide)).trans (f6 (by simpa using h)), fun _ => getD_put_same (by rw [hsz]; omega), fun h => (getD_put_ne (by decide)).trans (f8 (by simpa using h)), fun h => (getD_put_ne (by decide)).trans (f9 (by simpa using h)), fun h => (getD_put_ne (by decide)).trans (f10 (by simpa using h)), fun h => (getD_put_ne (by decide)).trans (f11 (by simpa using h)), fun h => (getD_put_ne (by decide)).trans (f12 (by simpa using h)), fun h => (getD_put_ne (by decide)).trans (f15 (by simpa using h)), u, fun h => (getD_put_ne (by decide)).trans (fu (by simpa using h)), (wsAqU_same _ _ _ _ _ _ _ _  rfl rfl hW)⟩
    · obtain rfl : oAqU8 pp = o := Option.some.inj ho
      have q7 : a'.tmps.getD 24 undef = .pointer (some ⟨p, 1, none⟩) := f7 (edge_ofF (o := oAqU8 pp) hpre 7 rfl)
      exact step_load rfl rfl rfl q7 (run_ld32 _ _ _ ((Below.cell (p := ⟨p, 1, none⟩) hW.1 hpl).trans cp1)) ⟨frm' 25 _ rfl, fun h => (getD_put_ne (by decide)).trans (f0 (by simpa using h)), fun h => (getD_put_ne (by decide)).trans (f1 (by simpa using h)), fun h => (getD_put_ne (by decide)).trans (f2 (by simpa using h)), fun h => (getD_put_ne (by decide)).trans (f3 (by simpa using h)), fun h => (getD_put_ne (by decide)).trans (f4 (by simpa using h)), fun h => (getD_put_ne (by decide)).trans (f5 (by simpa using h)), fun h => (getD_put_ne (by decide)).trans (f6 (by simpa using h)), fun h => (getD_put_ne (by decide)).trans (f7 (by simpa using h)), fun _ => getD_put_same (by rw [hsz]; omega), fun h => (getD_put_ne (by decide)).trans (f9 (by simpa using h)), fun h => (getD_put_ne (by decide)).trans (f10 (by simpa using h)), fun h => (getD_put_ne (by decide)).trans (f11 (by simpa using h)), fun h => (getD_put_ne (by decide)).trans (f12 (by simpa using h)), fun h => (getD_put_ne (by decide)).trans (f15 (by simpa using h)), u, fun h => (getD_put_ne (by decide)).trans (fu (by simpa using h)), (wsAqU_same _ _ _ _ _ _ _ _  rfl rfl hW)⟩
    · obtain rfl : oAqU9 pp = o := Option.some.inj ho
      have q4 : a'.tmps.getD 21 undef = .pointer (some ⟨Rs, 0, none⟩) := f4 (edge_ofF (o := oAqU9 pp) hpre 4 rfl)
      have q6 : a'.tmps.getD 23 undef = .int .u32 (cl : Int) := f6 (edge_ofF (o := oAqU9 pp) hpre 6 rfl)
      have q8 : a'.tmps.getD 25 undef = .int .u32 (sq : Int) := f8 (edge_ofF (o := oAqU9 pp) hpre 8 rfl)
      refine step_callD rfl rfl rfl (enters_of Tryz.func42 (by kernel_rfl) rfl) (show Array.map a'.eval #[.tmp 21, .tmp 23, .tmp 25] = _ from by simp only [List.map_toArray, List.map_cons, List.map_nil, Act.eval, q4, q6, q8]) ((hC w' (Grew.undraw hW.1)).mono ?_)
      rintro e w'' ⟨rfl, hb⟩
      have hW2 : wsAqU R p Rs cl sq cd k tx w.drew (fun j => L j || j == 9) u w'' := by
        obtain ⟨b1, hx⟩ := hW
        refine ⟨b1.trans (Below.mono hb b1.size), fun h => ?_⟩
        obtain ⟨x, e, h1, h2⟩ := hx (by simpa using h)
        have h3 : RepB w'' x _ _ := (hb.block x h2.lt).trans h2
        exact ⟨x, e, h1, by simpa using h3⟩
      exact ⟨_, rfl, ⟨frm' 26 _ rfl, fun h => (getD_put_ne (by decide)).trans (f0 (by simpa using h)), fun h => (getD_put_ne (by decide)).trans (f1 (by simpa using h)), fun h => (getD_put_ne (by decide)).trans (f2 (by simpa using h)), fun h => (getD_put_ne (by decide)).trans (f3 (by simpa using h)), fun h => (getD_put_ne (by decide)).trans (f4 (by simpa using h)), fun h => (getD_put_ne (by decide)).trans (f5 (by simpa using h)), fun h => (getD_put_ne (by decide)).trans (f6 (by simpa using h)), fun h => (getD_put_ne (by decide)).trans (f7 (by simpa using h)), fun h => (getD_put_ne (by decide)).trans (f8 (by simpa using h)), fun _ => getD_put_same (by rw [hsz]; omega), fun h => (getD_put_ne (by decide)).trans (f10 (by simpa using h)), fun h => (getD_put_ne (by decide)).trans (f11 (by simpa using h)), fun h => (getD_put_ne (by decide)).trans (f12 (by simpa using h)), fun h => (getD_put_ne (by decide)).trans (f15 (by simpa using h)), u, fun h => (getD_put_ne (by decide)).trans (fu (by simpa using h)), hW2⟩⟩
    · obtain rfl : oAqU10 pp = o := Option.some.inj ho
      have q9 : a'.tmps.getD 26 undef = .tuple #[.agg #[.int .u8 (cd : Int), .string tx], .int .u8 (k : Int)] := f9 (edge_ofF (o := oAqU10 pp) hpre 9 rfl)
      exact step_move rfl rfl rfl q9 ⟨frm' 16 _ rfl, fun h => (getD_put_ne (by decide)).trans (f0 (by simpa using h)), fun h => (getD_put_ne (by decide)).trans (f1 (by simpa using h)), fun h => (getD_put_ne (by decide)).trans (f2 (by simpa using h)), fun h => (getD_put_ne (by decide)).trans (f3 (by simpa using h)), fun h => (getD_put_ne (by decide)).trans (f4 (by simpa using h)), fun h => (getD_put_ne (by decide)).trans (f5 (by simpa using h)), fun h => (getD_put_ne (by decide)).trans (f6 (by simpa using h)), fun h => (getD_put_ne (by decide)).trans (f7 (by simpa using h)), fun h => (getD_put_ne (by decide)).trans (f8 (by simpa using h)), fun h => (getD_put_ne (by decide)).trans (f9 (by simpa using h)), fun _ => getD_put_same (by rw [hsz]; omega), fun h => (getD_put_ne (by decide)).trans (f11 (by simpa using h)), fun h => (getD_put_ne (by decide)).trans (f12 (by simpa using h)), fun h => (getD_put_ne (by decide)).trans (f15 (by simpa using h)), u, fun h => (getD_put_ne (by decide)).trans (fu (by simpa using h)), (wsAqU_same _ _ _ _ _ _ _ _  rfl rfl hW)⟩
    · obtain rfl : oAqU11 pp = o := Option.some.inj ho
      have q10 : a'.tmps.getD 16 undef = .tuple #[.agg #[.int .u8 (cd : Int), .string tx], .int .u8 (k : Int)] := f10 (edge_ofF (o := oAqU11 pp) hpre 10 rfl)
      exact step_extractF rfl rfl rfl q10 rfl ⟨frm' 27 _ rfl, fun h => (getD_put_ne (by decide)).trans (f0 (by simpa using h)), fun h => (getD_put_ne (by decide)).trans (f1 (by simpa using h)), fun h => (getD_put_ne (by decide)).trans (f2 (by simpa using h)), fun h => (getD_put_ne (by decide)).trans (f3 (by simpa using h)), fun h => (getD_put_ne (by decide)).trans (f4 (by simpa using h)), fun h => (getD_put_ne (by decide)).trans (f5 (by simpa using h)), fun h => (getD_put_ne (by decide)).trans (f6 (by simpa using h)), fun h => (getD_put_ne (by decide)).trans (f7 (by simpa using h)), fun h => (getD_put_ne (by decide)).trans (f8 (by simpa using h)), fun h => (getD_put_ne (by decide)).trans (f9 (by simpa using h)), fun h => (getD_put_ne (by decide)).trans (f10 (by simpa using h)), fun _ => getD_put_same (by rw [hsz]; omega), fun h => (getD_put_ne (by decide)).trans (f12 (by simpa using h)), fun h => (getD_put_ne (by decide)).trans (f15 (by simpa using h)), u, fun h => (getD_put_ne (by decide)).trans (fu (by simpa using h)), (wsAqU_same _ _ _ _ _ _ _ _  rfl rfl hW)⟩
    · obtain rfl : oAqU12 pp = o := Option.some.inj ho
      have q10 : a'.tmps.getD 16 undef = .tuple #[.agg #[.int .u8 (cd : Int), .string tx], .int .u8 (k : Int)] := f10 (edge_ofF (o := oAqU12 pp) hpre 10 rfl)
      exact step_extractF rfl rfl rfl q10 rfl ⟨frm' 28 _ rfl, fun h => (getD_put_ne (by decide)).trans (f0 (by simpa using h)), fun h => (getD_put_ne (by decide)).trans (f1 (by simpa using h)), fun h => (getD_put_ne (by decide)).trans (f2 (by simpa using h)), fun h => (getD_put_ne (by decide)).trans (f3 (by simpa using h)), fun h => (getD_put_ne (by decide)).trans (f4 (by simpa using h)), fun h => (getD_put_ne (by decide)).trans (f5 (by simpa using h)), fun h => (getD_put_ne (by decide)).trans (f6 (by simpa using h)), fun h => (getD_put_ne (by decide)).trans (f7 (by simpa using h)), fun h => (getD_put_ne (by decide)).trans (f8 (by simpa using h)), fun h => (getD_put_ne (by decide)).trans (f9 (by simpa using h)), fun h => (getD_put_ne (by decide)).trans (f10 (by simpa using h)), fun h => (getD_put_ne (by decide)).trans (f11 (by simpa using h)), fun _ => getD_put_same (by rw [hsz]; omega), fun h => (getD_put_ne (by decide)).trans (f15 (by simpa using h)), u, fun h => (getD_put_ne (by decide)).trans (fu (by simpa using h)), (wsAqU_same _ _ _ _ _ _ _ _  rfl rfl hW)⟩
    · obtain rfl : oAqU13 pp = o := Option.some.inj ho
      have hal : (execOp a'.eval (oAqU13 pp)).run Tryz.prog w' = .ok (.value (.pointer (some ⟨w'.heap.size, 0, none⟩))) (w'.alloc (.cells #[.int .u8 0, .string ⟨#[]⟩] 45)) := by simp [execOp, oAqU13, run_alRep]
      refine step_run (o := oAqU13 pp) rfl rfl (by intro c h; cases h) (by simp [Oper.about, oAqU13]) hal ?_
      have hW2 : wsAqU R p Rs cl sq cd k tx w.drew (fun j => L j || j == 13) (.pointer (some ⟨w'.heap.size, 0, none⟩)) (w'.alloc (.cells #[.int .u8 0, .string ⟨#[]⟩] 45)) := by
        have n14 : L 14 = false := not_yetF hcl 30 (show reachB (opsAqU pp) 30 14 13 = true by kernel_rfl) hLi
        obtain ⟨b1, _⟩ := hW
        refine ⟨b1.alloc b1.size _, fun _ => ⟨_, rfl, b1.size, ?_⟩⟩
        have e : (L 14 || (14 : Nat) == 13) = false := by simp [n14]
        simp only [e]
        exact World.alloc_heap_new w' _
      exact ⟨frm' 6 _ rfl, fun h => (getD_put_ne (by decide)).trans (f0 (by simpa using h)), fun h => (getD_put_ne (by decide)).trans (f1 (by simpa using h)), fun h => (getD_put_ne (by decide)).trans (f2 (by simpa using h)), fun h => (getD_put_ne (by decide)).trans (f3 (by simpa using h)), fun h => (getD_put_ne (by decide)).trans (f4 (by simpa using h)), fun h => (getD_put_ne (by decide)).trans (f5 (by simpa using h)), fun h => (getD_put_ne (by decide)).trans (f6 (by simpa using h)), fun h => (getD_put_ne (by decide)).trans (f7 (by simpa using h)), fun h => (getD_put_ne (by decide)).trans (f8 (by simpa using h)), fun h => (getD_put_ne (by decide)).trans (f9 (by simpa using h)), fun h => (getD_put_ne (by decide)).trans (f10 (by simpa using h)), fun h => (getD_put_ne (by decide)).trans (f11 (by simpa using h)), fun h => (getD_put_ne (by decide)).trans (f12 (by simpa using h)), fun h => (getD_put_ne (by decide)).trans (f15 (by simpa using h)), .pointer (some ⟨w'.heap.size, 0, none⟩), fun _ => getD_put_same (by rw [hsz]; omega), hW2⟩
    · obtain rfl : oAqU14 pp = o := Option.some.inj ho
      have q13 : a'.tmps.getD 6 undef = u := fu (edge_ofF (o := oAqU14 pp) hpre 13 rfl)
      have q11 : a'.tmps.getD 27 undef = .agg #[.int .u8 (cd : Int), .string tx] := f11 (edge_ofF (o := oAqU14 pp) hpre 11 rfl)
      obtain ⟨b1, hx⟩ := hW
      obtain ⟨x, e, h1, h2⟩ := hx (edge_ofF (o := oAqU14 pp) hpre 13 rfl)
      have hx1 : a'.eval (.tmp 6) = .pointer (some ⟨x, 0, none⟩) := (fu (edge_ofF (o := oAqU14 pp) hpre 13 rfl)).trans e
      have hx2 : a'.eval (.tmp 27) = .agg #[.int .u8 (cd : Int), .string tx] := q11
      have hst := run_stRep w' x _ _ h2 cd tx
      refine step_skip (o := oAqU14 pp) rfl rfl (by intro c h; cases h) (by simp [Oper.about, oAqU14]) (w' := (w'.setCell ⟨x, 0, none⟩ (.int .u8 (cd : Int))).setCell ⟨x, 1, none⟩ (.string tx)) (by
        unfold execOp
        simp only [oAqU14, hx1, hx2, Sem.run_bind, hst, Result.andThen_ok]
        rfl) ?_
      have hW2 : wsAqU R p Rs cl sq cd k tx w.drew (fun j => L j || j == 14) u ((w'.setCell ⟨x, 0, none⟩ (.int .u8 (cd : Int))).setCell ⟨x, 1, none⟩ (.string tx)) := by
        refine ⟨(b1.setCell (p := ⟨x, 0, none⟩) h1 _).setCell (p := ⟨x, 1, none⟩) h1 _, fun _ => ⟨x, e, h1, ?_⟩⟩
        simp only [beq_self_eq_true, Bool.or_true, if_true]
        exact h2.set cd tx
      exact ⟨hF, fun h => f0 (by simpa using h), fun h => f1 (by simpa using h), fun h => f2 (by simpa using h), fun h => f3 (by simpa using h), fun h => f4 (by simpa using h), fun h => f5 (by simpa using h), fun h => f6 (by simpa using h), fun h => f7 (by simpa using h), fun h => f8 (by simpa using h), fun h => f9 (by simpa using h), fun h => f10 (by simpa using h), fun h => f11 (by simpa using h), fun h => f12 (by simpa using h), fun h => f15 (by simpa using h), u, fun h => fu (by simpa using h), hW2⟩
    · obtain rfl : oAqU15 pp = o := Option.some.inj ho
      have q12 : a'.tmps.getD 28 undef = .int .u8 (k : Int) := f12 (edge_ofF (o := oAqU15 pp) hpre 12 rfl)
      exact step_assign rfl rfl rfl q12 ⟨frm' 7 _ rfl, fun h => (getD_put_ne (by decide)).trans (f0 (by simpa using h)), fun h => (getD_put_ne (by decide)).trans (f1 (by simpa using h)), fun h => (getD_put_ne (by decide)).trans (f2 (by simpa using h)), fun h => (getD_put_ne (by decide)).trans (f3 (by simpa using h)), fun h => (getD_put_ne (by decide)).trans (f4 (by simpa using h)), fun h => (getD_put_ne (by decide)).trans (f5 (by simpa using h)), fun h => (getD_put_ne (by decide)).trans (f6 (by simpa using h)), fun h => (getD_put_ne (by decide)).trans (f7 (by simpa using h)), fun h => (getD_put_ne (by decide)).trans (f8 (by simpa using h)), fun h => (getD_put_ne (by decide)).trans (f9 (by simpa using h)), fun h => (getD_put_ne (by decide)).trans (f10 (by simpa using h)), fun h => (getD_put_ne (by decide)).trans (f11 (by simpa using h)), fun h => (getD_put_ne (by decide)).trans (f12 (by simpa using h)), fun _ => getD_put_same (by rw [hsz]; omega), u, fun h => (getD_put_ne (by decide)).trans (fu (by simpa using h)), (wsAqU_same _ _ _ _ _ _ _ _  rfl rfl hW)⟩
    · exact absurd ((Array.getElem?_eq_some_iff.1 ho).1) (by simp [opsAqU])
  · intro L a' w' hv hall
    have hL : ∀ j, j < 16 → L j = true := fun j hj => hall j (by simpa [opsAqU] using hj)
    obtain ⟨hF, f0, f1, f2, f3, f4, f5, f6, f7, f8, f9, f10, f11, f12, f15, u, fu, hW⟩ := hv
    have hW2 : wsAqU R p Rs cl sq cd k tx w.drew (fun _ => true) u w' := by
      unfold wsAqU at hW ⊢
      simp only [hL 13 (by omega), hL 14 (by omega)] at hW ⊢
      exact hW
    have hput : a' = puts [(17, .pointer (some ⟨R, 0, none⟩)), (18, .pointer (some ⟨R, 0, none⟩)), (19, .pointer (some ⟨R, 0, none⟩)), (20, .pointer (some ⟨R, 1, none⟩)), (21, .pointer (some ⟨Rs, 0, none⟩)), (22, .pointer (some ⟨p, 0, none⟩)), (23, .int .u32 (cl : Int)), (24, .pointer (some ⟨p, 1, none⟩)), (25, .int .u32 (sq : Int)), (26, .tuple #[.agg #[.int .u8 (cd : Int), .string tx], .int .u8 (k : Int)]), (16, .tuple #[.agg #[.int .u8 (cd : Int), .string tx], .int .u8 (k : Int)]), (27, .agg #[.int .u8 (cd : Int), .string tx]), (28, .int .u8 (k : Int)), (6, u), (7, .int .u8 (k : Int))] a := hF.puts _ (by
      intro z hz
      simp only [List.mem_cons, List.not_mem_nil, or_false] at hz
      rcases hz with rfl | rfl | rfl | rfl | rfl | rfl | rfl | rfl | rfl | rfl | rfl | rfl | rfl | rfl | rfl
      · exact f0 (hL 0 (by omega))
      · exact f1 (hL 1 (by omega))
      · exact f2 (hL 2 (by omega))
      · exact f3 (hL 3 (by omega))
      · exact f4 (hL 4 (by omega))
      · exact f5 (hL 5 (by omega))
      · exact f6 (hL 6 (by omega))
      · exact f7 (hL 7 (by omega))
      · exact f8 (hL 8 (by omega))
      · exact f9 (hL 9 (by omega))
      · exact f10 (hL 10 (by omega))
      · exact f11 (hL 11 (by omega))
      · exact f12 (hL 12 (by omega))
      · exact fu (hL 13 (by omega))
      · exact f15 (hL 15 (by omega))) rfl (by rw [hN]; rfl)
    rw [hput]
    exact hQ u w' hW2
def oAqV0 (pp : String) : Oper := { dst := some 32, op := Op.move (Operand.tmp 0), type := 26, pos := pp, after := #[], guard := none }
def oAqV1 (pp : String) : Oper := { dst := some 33, op := Op.nilCheck (Operand.tmp 32), type := 0, pos := pp, after := #[{ on := 0, ground := Ground.data }], guard := none }
def oAqV2 (pp : String) : Oper := { dst := some 34, op := Op.fieldAddr 92 (Operand.tmp 33) 0, type := 0, pos := pp, after := #[{ on := 1, ground := Ground.data }], guard := none }
def oAqV3 (pp : String) : Oper := { dst := some 35, op := Op.fieldAddr 77 (Operand.tmp 34) 0, type := 0, pos := pp, after := #[{ on := 2, ground := Ground.data }], guard := none }
def oAqV4 (pp : String) : Oper := { dst := some 36, op := Op.load 74 (Operand.tmp 35), type := 74, pos := pp, after := #[{ on := 3, ground := Ground.data }], guard := none }
def oAqV5 (pp : String) : Oper := { dst := some 37, op := Op.load 57 (Operand.tmp 3), type := 57, pos := pp, after := #[], guard := none }
def oAqV6 (pp : String) : Oper := { dst := some 38, op := Op.call { callee := Callee.value (Operand.func 43), args := #[Operand.tmp 36, Operand.tmp 37], argTypes := #[74, 57] }, type := 45, pos := pp, after := #[{ on := 4, ground := Ground.data }, { on := 5, ground := Ground.data }], guard := none }
def oAqV7 (pp : String) : Oper := { dst := none, op := Op.store 45 (Operand.tmp 6) (Operand.tmp 38), type := 0, pos := pp, after := #[{ on := 6, ground := Ground.data }, { on := 6, ground := Ground.chain }, { on := 0, ground := Ground.phase }, { on := 1, ground := Ground.phase }, { on := 2, ground := Ground.phase }, { on := 3, ground := Ground.phase }, { on := 4, ground := Ground.phase }, { on := 5, ground := Ground.phase }, { on := 6, ground := Ground.phase }], guard := none }
def opsAqV (pp : String) : List Oper := [oAqV0 pp, oAqV1 pp, oAqV2 pp, oAqV3 pp, oAqV4 pp, oAqV5 pp, oAqV6 pp, oAqV7 pp]
theorem opsAqV_back (pp : String) : backwards (opsAqV pp) = true := by kernel_rfl
def wsAqV (I : World → Prop) (_R _p x _Rk cd _c0 : Nat) (tx _t0 : ByteArray) (_v : CmdV) (W0 : World) (L : Nat → Bool) (_u : Value) (w : World) : Prop := (L 6 = false → w = W0) ∧ (L 6 = true → ∃ W1, I W1 ∧ w = if L 7 = true then (W1.setCell ⟨x, 0, none⟩ (.int .u8 (cd : Int))).setCell ⟨x, 1, none⟩ (.string tx) else W1)
theorem wsAqV_same (I : World → Prop) (R p x Rk cd c0 : Nat) (tx t0 : ByteArray) (v : CmdV) {W0 : World} {L : Nat → Bool} {i : Nat} {u : Value} {w : World} (k6 : ((6 : Nat) == i) = false) (k7 : ((7 : Nat) == i) = false) (h : wsAqV I R p x Rk cd c0 tx t0 v W0 L u w) : wsAqV I R p x Rk cd c0 tx t0 v W0 (fun j => L j || j == i) u w := by
  unfold wsAqV at h ⊢
  simp only [beq_noF k6, beq_noF k7]
  exact h
structure InvAqV (I : World → Prop) (R p x Rk cd c0 : Nat) (tx t0 : ByteArray) (v : CmdV) (W0 : World) (a : Act) (pp : String) (L : Nat → Bool) (a' : Act) (w' : World) : Prop where
  frm : Frm (opsAqV pp) a a'
  f0 : L 0 = true → a'.tmps.getD 32 undef = .pointer (some ⟨R, 0, none⟩)
  f1 : L 1 = true → a'.tmps.getD 33 undef = .pointer (some ⟨R, 0, none⟩)
  f2 : L 2 = true → a'.tmps.getD 34 undef = .pointer (some ⟨R, 0, none⟩)
  f3 : L 3 = true → a'.tmps.getD 35 undef = .pointer (some ⟨R, 0, none⟩)
  f4 : L 4 = true → a'.tmps.getD 36 undef = .pointer (some ⟨Rk, 0, none⟩)
  f5 : L 5 = true → a'.tmps.getD 37 undef = v.val
  f6 : L 6 = true → a'.tmps.getD 38 undef = .agg #[.int .u8 (cd : Int), .string tx]
  ex : ∃ u : Value, wsAqV I R p x Rk cd c0 tx t0 v W0 L u w'
set_option maxRecDepth 100000 in
set_option maxHeartbeats 4000000 in
theorem ado_do {pp : String} (I : World → Prop) (R p x Rk cd c0 : Nat) (tx t0 : ByteArray) (v : CmdV) (a : Act) (w : World) (Q : Exit → Act → World → Prop) (hN : a.tmps.size = 60) (h0 : a.tmps.getD 0 undef = .pointer (some ⟨R, 0, none⟩)) (h3 : a.tmps.getD 3 undef = .pointer (some ⟨p, 0, none⟩)) (h6 : a.tmps.getD 6 undef = .pointer (some ⟨x, 0, none⟩)) (cR0 : w.cell? ⟨R, 0, none⟩ = some (.pointer (some ⟨Rk, 0, none⟩))) (hv : ∀ i u, v.cells[i]? = some u → w.cell? ⟨p, i, none⟩ = some u) (hC : Calls Tryz.prog 43 #[.pointer (some ⟨Rk, 0, none⟩), v.val] w.drew fun e W' => e = .returned (.agg #[.int .u8 (cd : Int), .string tx]) ∧ I W') (hI : ∀ W', I W' → RepB W' x c0 t0) (hW0 : wsAqV I R p x Rk cd c0 tx t0 v w.drew (fun _ => false) undef w.drew) (hQ : ∀ (u : Value) w', wsAqV I R p x Rk cd c0 tx t0 v w.drew (fun _ => true) u w' → Q .normal (puts [(32, .pointer (some ⟨R, 0, none⟩)), (33, .pointer (some ⟨R, 0, none⟩)), (34, .pointer (some ⟨R, 0, none⟩)), (35, .pointer (some ⟨R, 0, none⟩)), (36, .pointer (some ⟨Rk, 0, none⟩)), (37, v.val), (38, .agg #[.int .u8 (cd : Int), .string tx])] a) w')
    : (Code.region 6 (opsAqV pp).toArray true).wp Tryz.prog Q a w := by
  refine (wpIn_wide (n := 1)).1 (wpIn_region_by follows (opsAqV_back pp) (InvAqV I R p x Rk cd c0 tx t0 v w.drew a pp) ?_ ?_ ?_)
  · exact ⟨⟨rfl, rfl, fun _ _ => rfl⟩, fun h => (by cases h), fun h => (by cases h), fun h => (by cases h), fun h => (by cases h), fun h => (by cases h), fun h => (by cases h), fun h => (by cases h), undef, hW0⟩
  · intro L a' w' i o hv ho hLi hpre hcl
    obtain ⟨hF, f0, f1, f2, f3, f4, f5, f6, u, hW⟩ := hv
    have hsz : a'.tmps.size = 60 := hF.size.trans hN
    have frm' : ∀ (d : Nat) (v : Value), o.dst = some d → Frm (opsAqV pp) a (a'.put (some d) v) := fun d v hd => ⟨size_put.trans hF.size, defers_put.trans hF.defers, fun s hs => by
      have hm : o ∈ opsAqV pp := by simpa using List.mem_of_getElem? (by simpa using ho)
      rw [getD_put_ne (fun e => hs o hm (by rw [hd, e]))]
      exact hF.old s hs⟩
    rcases i with _ | _ | _ | _ | _ | _ | _ | _ | i
    · obtain rfl : oAqV0 pp = o := Option.some.inj ho
      exact step_move rfl rfl rfl (hF.at 0 rfl h0) ⟨frm' 32 _ rfl, fun _ => getD_put_same (by rw [hsz]; omega), fun h => (getD_put_ne (by decide)).trans (f1 (by simpa using h)), fun h => (getD_put_ne (by decide)).trans (f2 (by simpa using h)), fun h => (getD_put_ne (by decide)).trans (f3 (by simpa using h)), fun h => (getD_put_ne (by decide)).trans (f4 (by simpa using h)), fun h => (getD_put_ne (by decide)).trans (f5 (by simpa using h)), fun h => (getD_put_ne (by decide)).trans (f6 (by simpa using h)), u, (wsAqV_same _ _ _ _ _ _ _ _ _ _  rfl rfl hW)⟩
    · obtain rfl : oAqV1 pp = o := Option.some.inj ho
      have q0 : a'.tmps.getD 32 undef = .pointer (some ⟨R, 0, none⟩) := f0 (edge_ofF (o := oAqV1 pp) hpre 0 rfl)
      have nL : L 6 = false := not_yetF hcl 30 (show reachB (opsAqV pp) 30 6 1 = true by kernel_rfl) hLi
      exact step_nilCheckF rfl rfl rfl q0 (trivial) ⟨frm' 33 _ rfl, fun h => (getD_put_ne (by decide)).trans (f0 (by simpa using h)), fun _ => getD_put_same (by rw [hsz]; omega), fun h => (getD_put_ne (by decide)).trans (f2 (by simpa using h)), fun h => (getD_put_ne (by decide)).trans (f3 (by simpa using h)), fun h => (getD_put_ne (by decide)).trans (f4 (by simpa using h)), fun h => (getD_put_ne (by decide)).trans (f5 (by simpa using h)), fun h => (getD_put_ne (by decide)).trans (f6 (by simpa using h)), u, (wsAqV_same _ _ _ _ _ _ _ _ _ _  rfl rfl hW)⟩
    · obtain rfl : oAqV2 pp = o := Option.some.inj ho
      have q1 : a'.tmps.getD 33 undef = .pointer (some ⟨R, 0, none⟩) := f1 (edge_ofF (o := oAqV2 pp) hpre 1 rfl)
      have nL : L 6 = false := not_yetF hcl 30 (show reachB (opsAqV pp) 30 6 2 = true by kernel_rfl) hLi
      exact step_fieldF rfl rfl rfl q1 (run_fdA _ _) ⟨frm' 34 _ rfl, fun h => (getD_put_ne (by decide)).trans (f0 (by simpa using h)), fun h => (getD_put_ne (by decide)).trans (f1 (by simpa using h)), fun _ => getD_put_same (by rw [hsz]; omega), fun h => (getD_put_ne (by decide)).trans (f3 (by simpa using h)), fun h => (getD_put_ne (by decide)).trans (f4 (by simpa using h)), fun h => (getD_put_ne (by decide)).trans (f5 (by simpa using h)), fun h => (getD_put_ne (by decide)).trans (f6 (by simpa using h)), u, (wsAqV_same _ _ _ _ _ _ _ _ _ _  rfl rfl hW)⟩
    · obtain rfl : oAqV3 pp = o := Option.some.inj ho
      have q2 : a'.tmps.getD 34 undef = .pointer (some ⟨R, 0, none⟩) := f2 (edge_ofF (o := oAqV3 pp) hpre 2 rfl)
      have nL : L 6 = false := not_yetF hcl 30 (show reachB (opsAqV pp) 30 6 3 = true by kernel_rfl) hLi
      exact step_fieldF rfl rfl rfl q2 (run_fdC0 _ _) ⟨frm' 35 _ rfl, fun h => (getD_put_ne (by decide)).trans (f0 (by simpa using h)), fun h => (getD_put_ne (by decide)).trans (f1 (by simpa using h)), fun h => (getD_put_ne (by decide)).trans (f2 (by simpa using h)), fun _ => getD_put_same (by rw [hsz]; omega), fun h => (getD_put_ne (by decide)).trans (f4 (by simpa using h)), fun h => (getD_put_ne (by decide)).trans (f5 (by simpa using h)), fun h => (getD_put_ne (by decide)).trans (f6 (by simpa using h)), u, (wsAqV_same _ _ _ _ _ _ _ _ _ _  rfl rfl hW)⟩
    · obtain rfl : oAqV4 pp = o := Option.some.inj ho
      have q3 : a'.tmps.getD 35 undef = .pointer (some ⟨R, 0, none⟩) := f3 (edge_ofF (o := oAqV4 pp) hpre 3 rfl)
      have nL : L 6 = false := not_yetF hcl 30 (show reachB (opsAqV pp) 30 6 4 = true by kernel_rfl) hLi
      exact step_load rfl rfl rfl q3 (by rw [hW.1 nL]; exact run_ldK1 _ _ _ cR0) ⟨frm' 36 _ rfl, fun h => (getD_put_ne (by decide)).trans (f0 (by simpa using h)), fun h => (getD_put_ne (by decide)).trans (f1 (by simpa using h)), fun h => (getD_put_ne (by decide)).trans (f2 (by simpa using h)), fun h => (getD_put_ne (by decide)).trans (f3 (by simpa using h)), fun _ => getD_put_same (by rw [hsz]; omega), fun h => (getD_put_ne (by decide)).trans (f5 (by simpa using h)), fun h => (getD_put_ne (by decide)).trans (f6 (by simpa using h)), u, (wsAqV_same _ _ _ _ _ _ _ _ _ _  rfl rfl hW)⟩
    · obtain rfl : oAqV5 pp = o := Option.some.inj ho
      have nL : L 6 = false := not_yetF hcl 30 (show reachB (opsAqV pp) 30 6 5 = true by kernel_rfl) hLi
      exact step_load rfl rfl rfl (hF.at 3 rfl h3) (by rw [hW.1 nL]; exact run_ldCmd _ _ _ hv) ⟨frm' 37 _ rfl, fun h => (getD_put_ne (by decide)).trans (f0 (by simpa using h)), fun h => (getD_put_ne (by decide)).trans (f1 (by simpa using h)), fun h => (getD_put_ne (by decide)).trans (f2 (by simpa using h)), fun h => (getD_put_ne (by decide)).trans (f3 (by simpa using h)), fun h => (getD_put_ne (by decide)).trans (f4 (by simpa using h)), fun _ => getD_put_same (by rw [hsz]; omega), fun h => (getD_put_ne (by decide)).trans (f6 (by simpa using h)), u, (wsAqV_same _ _ _ _ _ _ _ _ _ _  rfl rfl hW)⟩
    · obtain rfl : oAqV6 pp = o := Option.some.inj ho
      have q4 : a'.tmps.getD 36 undef = .pointer (some ⟨Rk, 0, none⟩) := f4 (edge_ofF (o := oAqV6 pp) hpre 4 rfl)
      have q5 : a'.tmps.getD 37 undef = v.val := f5 (edge_ofF (o := oAqV6 pp) hpre 5 rfl)
      refine step_callD rfl rfl rfl (enters_of Tryz.func43 (by kernel_rfl) rfl) (show Array.map a'.eval #[.tmp 36, .tmp 37] = _ from by simp only [List.map_toArray, List.map_cons, List.map_nil, Act.eval, q4, q5]) ((hW.1 hLi ▸ hC).mono ?_)
      rintro e w'' ⟨rfl, hI1⟩
      have hW2 : wsAqV I R p x Rk cd c0 tx t0 v w.drew (fun j => L j || j == 6) u w'' := by
        have n7 : L 7 = false := not_yetF hcl 30 (show reachB (opsAqV pp) 30 7 6 = true by kernel_rfl) hLi
        refine ⟨fun h => ?_, fun _ => ⟨_, hI1, ?_⟩⟩
        · simp at h
        · have e : (L 7 || (7 : Nat) == 6) = false := by simp [n7]
          simp only [e]
          rfl
      exact ⟨_, rfl, ⟨frm' 38 _ rfl, fun h => (getD_put_ne (by decide)).trans (f0 (by simpa using h)), fun h => (getD_put_ne (by decide)).trans (f1 (by simpa using h)), fun h => (getD_put_ne (by decide)).trans (f2 (by simpa using h)), fun h => (getD_put_ne (by decide)).trans (f3 (by simpa using h)), fun h => (getD_put_ne (by decide)).trans (f4 (by simpa using h)), fun h => (getD_put_ne (by decide)).trans (f5 (by simpa using h)), fun _ => getD_put_same (by rw [hsz]; omega), u, hW2⟩⟩
    · obtain rfl : oAqV7 pp = o := Option.some.inj ho
      have q6 : a'.tmps.getD 38 undef = .agg #[.int .u8 (cd : Int), .string tx] := f6 (edge_ofF (o := oAqV7 pp) hpre 6 rfl)
      have e6 := edge_ofF (o := oAqV7 pp) hpre 6 rfl
      obtain ⟨_, hx⟩ := hW
      obtain ⟨W1, h1, h2⟩ := hx e6
      rw [if_neg (by rw [hLi]; exact Bool.false_ne_true)] at h2
      have hx1 : a'.eval (.tmp 6) = .pointer (some ⟨x, 0, none⟩) := (hF.at 6 rfl h6)
      have hx2 : a'.eval (.tmp 38) = .agg #[.int .u8 (cd : Int), .string tx] := q6
      have hst := run_stRep W1 x _ _ (hI _ h1) cd tx
      rw [← h2] at hst
      refine step_skip (o := oAqV7 pp) rfl rfl (by intro c h; cases h) (by simp [Oper.about, oAqV7]) (w' := (w'.setCell ⟨x, 0, none⟩ (.int .u8 (cd : Int))).setCell ⟨x, 1, none⟩ (.string tx)) (by
        unfold execOp
        simp only [oAqV7, hx1, hx2, Sem.run_bind, hst, Result.andThen_ok]
        rfl) ?_
      have hW2 : wsAqV I R p x Rk cd c0 tx t0 v w.drew (fun j => L j || j == 7) u ((w'.setCell ⟨x, 0, none⟩ (.int .u8 (cd : Int))).setCell ⟨x, 1, none⟩ (.string tx)) := by
        refine ⟨fun h => ?_, fun _ => ⟨W1, h1, ?_⟩⟩
        · simp [e6] at h
        · simp only [beq_self_eq_true, Bool.or_true, if_true]
          rw [h2]
      exact ⟨hF, fun h => f0 (by simpa using h), fun h => f1 (by simpa using h), fun h => f2 (by simpa using h), fun h => f3 (by simpa using h), fun h => f4 (by simpa using h), fun h => f5 (by simpa using h), fun h => f6 (by simpa using h), u, hW2⟩
    · exact absurd ((Array.getElem?_eq_some_iff.1 ho).1) (by simp [opsAqV])
  · intro L a' w' hv hall
    have hL : ∀ j, j < 8 → L j = true := fun j hj => hall j (by simpa [opsAqV] using hj)
    obtain ⟨hF, f0, f1, f2, f3, f4, f5, f6, u, hW⟩ := hv
    have hW2 : wsAqV I R p x Rk cd c0 tx t0 v w.drew (fun _ => true) u w' := by
      unfold wsAqV at hW ⊢
      simp only [hL 6 (by omega), hL 7 (by omega)] at hW ⊢
      exact hW
    have hput : a' = puts [(32, .pointer (some ⟨R, 0, none⟩)), (33, .pointer (some ⟨R, 0, none⟩)), (34, .pointer (some ⟨R, 0, none⟩)), (35, .pointer (some ⟨R, 0, none⟩)), (36, .pointer (some ⟨Rk, 0, none⟩)), (37, v.val), (38, .agg #[.int .u8 (cd : Int), .string tx])] a := hF.puts _ (by
      intro z hz
      simp only [List.mem_cons, List.not_mem_nil, or_false] at hz
      rcases hz with rfl | rfl | rfl | rfl | rfl | rfl | rfl
      · exact f0 (hL 0 (by omega))
      · exact f1 (hL 1 (by omega))
      · exact f2 (hL 2 (by omega))
      · exact f3 (hL 3 (by omega))
      · exact f4 (hL 4 (by omega))
      · exact f5 (hL 5 (by omega))
      · exact f6 (hL 6 (by omega))) rfl (by rw [hN]; rfl)
    rw [hput]
    exact hQ u w' hW2
def oAqW0 (pp : String) : Oper := { dst := some 39, op := Op.move (Operand.tmp 0), type := 26, pos := pp, after := #[], guard := none }
def oAqW1 (pp : String) : Oper := { dst := some 40, op := Op.nilCheck (Operand.tmp 39), type := 0, pos := pp, after := #[{ on := 0, ground := Ground.data }], guard := none }
def oAqW2 (pp : String) : Oper := { dst := some 41, op := Op.fieldAddr 92 (Operand.tmp 40) 0, type := 0, pos := pp, after := #[{ on := 1, ground := Ground.data }], guard := none }
def oAqW3 (pp : String) : Oper := { dst := some 42, op := Op.fieldAddr 77 (Operand.tmp 41) 1, type := 0, pos := pp, after := #[{ on := 2, ground := Ground.data }], guard := none }
def oAqW4 (pp : String) : Oper := { dst := some 43, op := Op.load 75 (Operand.tmp 42), type := 75, pos := pp, after := #[{ on := 3, ground := Ground.data }], guard := none }
def oAqW5 (pp : String) : Oper := { dst := some 44, op := Op.fieldAddr 57 (Operand.tmp 3) 0, type := 0, pos := pp, after := #[], guard := none }
def oAqW6 (pp : String) : Oper := { dst := some 45, op := Op.load 54 (Operand.tmp 44), type := 54, pos := pp, after := #[{ on := 5, ground := Ground.data }], guard := none }
def oAqW7 (pp : String) : Oper := { dst := some 46, op := Op.fieldAddr 57 (Operand.tmp 3) 1, type := 0, pos := pp, after := #[], guard := none }
def oAqW8 (pp : String) : Oper := { dst := some 47, op := Op.load 54 (Operand.tmp 46), type := 54, pos := pp, after := #[{ on := 7, ground := Ground.data }], guard := none }
def oAqW9 (pp : String) : Oper := { dst := some 48, op := Op.load 45 (Operand.tmp 6), type := 45, pos := pp, after := #[], guard := none }
def oAqW10 (pp : String) : Oper := { dst := some 49, op := Op.call { callee := Callee.value (Operand.func 44), args := #[Operand.tmp 43, Operand.tmp 45, Operand.tmp 47, Operand.tmp 48], argTypes := #[75, 54, 54, 45] }, type := 0, pos := pp, after := #[{ on := 4, ground := Ground.data }, { on := 6, ground := Ground.data }, { on := 8, ground := Ground.data }, { on := 9, ground := Ground.data }], guard := none }
def opsAqW (pp : String) : List Oper := [oAqW0 pp, oAqW1 pp, oAqW2 pp, oAqW3 pp, oAqW4 pp, oAqW5 pp, oAqW6 pp, oAqW7 pp, oAqW8 pp, oAqW9 pp, oAqW10 pp]
theorem opsAqW_back (pp : String) : backwards (opsAqW pp) = true := by kernel_rfl
def wsAqW (I : World → Prop) (_R _p _x _Rs _cl _sq _cd : Nat) (_tx : ByteArray) (W0 : World) (L : Nat → Bool) (_u : Value) (w : World) : Prop := (L 10 = false → w = W0) ∧ (L 10 = true → I w)
theorem wsAqW_same (I : World → Prop) (R p x Rs cl sq cd : Nat) (tx : ByteArray) {W0 : World} {L : Nat → Bool} {i : Nat} {u : Value} {w : World} (k10 : ((10 : Nat) == i) = false) (h : wsAqW I R p x Rs cl sq cd tx W0 L u w) : wsAqW I R p x Rs cl sq cd tx W0 (fun j => L j || j == i) u w := by
  unfold wsAqW at h ⊢
  simp only [beq_noF k10]
  exact h
structure InvAqW (I : World → Prop) (R p x Rs cl sq cd : Nat) (tx : ByteArray) (W0 : World) (a : Act) (pp : String) (L : Nat → Bool) (a' : Act) (w' : World) : Prop where
  frm : Frm (opsAqW pp) a a'
  f0 : L 0 = true → a'.tmps.getD 39 undef = .pointer (some ⟨R, 0, none⟩)
  f1 : L 1 = true → a'.tmps.getD 40 undef = .pointer (some ⟨R, 0, none⟩)
  f2 : L 2 = true → a'.tmps.getD 41 undef = .pointer (some ⟨R, 0, none⟩)
  f3 : L 3 = true → a'.tmps.getD 42 undef = .pointer (some ⟨R, 1, none⟩)
  f4 : L 4 = true → a'.tmps.getD 43 undef = .pointer (some ⟨Rs, 0, none⟩)
  f5 : L 5 = true → a'.tmps.getD 44 undef = .pointer (some ⟨p, 0, none⟩)
  f6 : L 6 = true → a'.tmps.getD 45 undef = .int .u32 (cl : Int)
  f7 : L 7 = true → a'.tmps.getD 46 undef = .pointer (some ⟨p, 1, none⟩)
  f8 : L 8 = true → a'.tmps.getD 47 undef = .int .u32 (sq : Int)
  f9 : L 9 = true → a'.tmps.getD 48 undef = .agg #[.int .u8 (cd : Int), .string tx]
  f10 : L 10 = true → a'.tmps.getD 49 undef = .tuple #[]
  ex : ∃ u : Value, wsAqW I R p x Rs cl sq cd tx W0 L u w'
set_option maxRecDepth 100000 in
set_option maxHeartbeats 4000000 in
theorem ado_keep {pp : String} (I : World → Prop) (R p x Rs cl sq cd : Nat) (tx : ByteArray) (a : Act) (w : World) (Q : Exit → Act → World → Prop) (hN : a.tmps.size = 60) (h0 : a.tmps.getD 0 undef = .pointer (some ⟨R, 0, none⟩)) (h3 : a.tmps.getD 3 undef = .pointer (some ⟨p, 0, none⟩)) (h6 : a.tmps.getD 6 undef = .pointer (some ⟨x, 0, none⟩)) (cR1 : w.cell? ⟨R, 1, none⟩ = some (.pointer (some ⟨Rs, 0, none⟩))) (cp0 : w.cell? ⟨p, 0, none⟩ = some (.int .u32 (cl : Int))) (cp1 : w.cell? ⟨p, 1, none⟩ = some (.int .u32 (sq : Int))) (hx : RepB w x cd tx) (hC : Calls Tryz.prog 44 #[.pointer (some ⟨Rs, 0, none⟩), .int .u32 (cl : Int), .int .u32 (sq : Int), .agg #[.int .u8 (cd : Int), .string tx]] w.drew fun e W' => e = .returned (.tuple #[]) ∧ I W') (hW0 : wsAqW I R p x Rs cl sq cd tx w.drew (fun _ => false) undef w.drew) (hQ : ∀ (u : Value) w', wsAqW I R p x Rs cl sq cd tx w.drew (fun _ => true) u w' → Q .normal (puts [(39, .pointer (some ⟨R, 0, none⟩)), (40, .pointer (some ⟨R, 0, none⟩)), (41, .pointer (some ⟨R, 0, none⟩)), (42, .pointer (some ⟨R, 1, none⟩)), (43, .pointer (some ⟨Rs, 0, none⟩)), (44, .pointer (some ⟨p, 0, none⟩)), (45, .int .u32 (cl : Int)), (46, .pointer (some ⟨p, 1, none⟩)), (47, .int .u32 (sq : Int)), (48, .agg #[.int .u8 (cd : Int), .string tx]), (49, .tuple #[])] a) w')
    : (Code.region 7 (opsAqW pp).toArray true).wp Tryz.prog Q a w := by
  refine (wpIn_wide (n := 1)).1 (wpIn_region_by follows (opsAqW_back pp) (InvAqW I R p x Rs cl sq cd tx w.drew a pp) ?_ ?_ ?_)
  · exact ⟨⟨rfl, rfl, fun _ _ => rfl⟩, fun h => (by cases h), fun h => (by cases h), fun h => (by cases h), fun h => (by cases h), fun h => (by cases h), fun h => (by cases h), fun h => (by cases h), fun h => (by cases h), fun h => (by cases h), fun h => (by cases h), fun h => (by cases h), undef, hW0⟩
  · intro L a' w' i o hv ho hLi hpre hcl
    obtain ⟨hF, f0, f1, f2, f3, f4, f5, f6, f7, f8, f9, f10, u, hW⟩ := hv
    have hsz : a'.tmps.size = 60 := hF.size.trans hN
    have frm' : ∀ (d : Nat) (v : Value), o.dst = some d → Frm (opsAqW pp) a (a'.put (some d) v) := fun d v hd => ⟨size_put.trans hF.size, defers_put.trans hF.defers, fun s hs => by
      have hm : o ∈ opsAqW pp := by simpa using List.mem_of_getElem? (by simpa using ho)
      rw [getD_put_ne (fun e => hs o hm (by rw [hd, e]))]
      exact hF.old s hs⟩
    rcases i with _ | _ | _ | _ | _ | _ | _ | _ | _ | _ | _ | i
    · obtain rfl : oAqW0 pp = o := Option.some.inj ho
      exact step_move rfl rfl rfl (hF.at 0 rfl h0) ⟨frm' 39 _ rfl, fun _ => getD_put_same (by rw [hsz]; omega), fun h => (getD_put_ne (by decide)).trans (f1 (by simpa using h)), fun h => (getD_put_ne (by decide)).trans (f2 (by simpa using h)), fun h => (getD_put_ne (by decide)).trans (f3 (by simpa using h)), fun h => (getD_put_ne (by decide)).trans (f4 (by simpa using h)), fun h => (getD_put_ne (by decide)).trans (f5 (by simpa using h)), fun h => (getD_put_ne (by decide)).trans (f6 (by simpa using h)), fun h => (getD_put_ne (by decide)).trans (f7 (by simpa using h)), fun h => (getD_put_ne (by decide)).trans (f8 (by simpa using h)), fun h => (getD_put_ne (by decide)).trans (f9 (by simpa using h)), fun h => (getD_put_ne (by decide)).trans (f10 (by simpa using h)), u, (wsAqW_same _ _ _ _ _ _ _ _ _  rfl hW)⟩
    · obtain rfl : oAqW1 pp = o := Option.some.inj ho
      have q0 : a'.tmps.getD 39 undef = .pointer (some ⟨R, 0, none⟩) := f0 (edge_ofF (o := oAqW1 pp) hpre 0 rfl)
      have nL : L 10 = false := not_yetF hcl 30 (show reachB (opsAqW pp) 30 10 1 = true by kernel_rfl) hLi
      exact step_nilCheckF rfl rfl rfl q0 (trivial) ⟨frm' 40 _ rfl, fun h => (getD_put_ne (by decide)).trans (f0 (by simpa using h)), fun _ => getD_put_same (by rw [hsz]; omega), fun h => (getD_put_ne (by decide)).trans (f2 (by simpa using h)), fun h => (getD_put_ne (by decide)).trans (f3 (by simpa using h)), fun h => (getD_put_ne (by decide)).trans (f4 (by simpa using h)), fun h => (getD_put_ne (by decide)).trans (f5 (by simpa using h)), fun h => (getD_put_ne (by decide)).trans (f6 (by simpa using h)), fun h => (getD_put_ne (by decide)).trans (f7 (by simpa using h)), fun h => (getD_put_ne (by decide)).trans (f8 (by simpa using h)), fun h => (getD_put_ne (by decide)).trans (f9 (by simpa using h)), fun h => (getD_put_ne (by decide)).trans (f10 (by simpa using h)), u, (wsAqW_same _ _ _ _ _ _ _ _ _  rfl hW)⟩
    · obtain rfl : oAqW2 pp = o := Option.some.inj ho
      have q1 : a'.tmps.getD 40 undef = .pointer (some ⟨R, 0, none⟩) := f1 (edge_ofF (o := oAqW2 pp) hpre 1 rfl)
      have nL : L 10 = false := not_yetF hcl 30 (show reachB (opsAqW pp) 30 10 2 = true by kernel_rfl) hLi
      exact step_fieldF rfl rfl rfl q1 (run_fdA _ _) ⟨frm' 41 _ rfl, fun h => (getD_put_ne (by decide)).trans (f0 (by simpa using h)), fun h => (getD_put_ne (by decide)).trans (f1 (by simpa using h)), fun _ => getD_put_same (by rw [hsz]; omega), fun h => (getD_put_ne (by decide)).trans (f3 (by simpa using h)), fun h => (getD_put_ne (by decide)).trans (f4 (by simpa using h)), fun h => (getD_put_ne (by decide)).trans (f5 (by simpa using h)), fun h => (getD_put_ne (by decide)).trans (f6 (by simpa using h)), fun h => (getD_put_ne (by decide)).trans (f7 (by simpa using h)), fun h => (getD_put_ne (by decide)).trans (f8 (by simpa using h)), fun h => (getD_put_ne (by decide)).trans (f9 (by simpa using h)), fun h => (getD_put_ne (by decide)).trans (f10 (by simpa using h)), u, (wsAqW_same _ _ _ _ _ _ _ _ _  rfl hW)⟩
    · obtain rfl : oAqW3 pp = o := Option.some.inj ho
      have q2 : a'.tmps.getD 41 undef = .pointer (some ⟨R, 0, none⟩) := f2 (edge_ofF (o := oAqW3 pp) hpre 2 rfl)
      have nL : L 10 = false := not_yetF hcl 30 (show reachB (opsAqW pp) 30 10 3 = true by kernel_rfl) hLi
      exact step_fieldF rfl rfl rfl q2 (run_fdC1 _ _) ⟨frm' 42 _ rfl, fun h => (getD_put_ne (by decide)).trans (f0 (by simpa using h)), fun h => (getD_put_ne (by decide)).trans (f1 (by simpa using h)), fun h => (getD_put_ne (by decide)).trans (f2 (by simpa using h)), fun _ => getD_put_same (by rw [hsz]; omega), fun h => (getD_put_ne (by decide)).trans (f4 (by simpa using h)), fun h => (getD_put_ne (by decide)).trans (f5 (by simpa using h)), fun h => (getD_put_ne (by decide)).trans (f6 (by simpa using h)), fun h => (getD_put_ne (by decide)).trans (f7 (by simpa using h)), fun h => (getD_put_ne (by decide)).trans (f8 (by simpa using h)), fun h => (getD_put_ne (by decide)).trans (f9 (by simpa using h)), fun h => (getD_put_ne (by decide)).trans (f10 (by simpa using h)), u, (wsAqW_same _ _ _ _ _ _ _ _ _  rfl hW)⟩
    · obtain rfl : oAqW4 pp = o := Option.some.inj ho
      have q3 : a'.tmps.getD 42 undef = .pointer (some ⟨R, 1, none⟩) := f3 (edge_ofF (o := oAqW4 pp) hpre 3 rfl)
      have nL : L 10 = false := not_yetF hcl 30 (show reachB (opsAqW pp) 30 10 4 = true by kernel_rfl) hLi
      exact step_load rfl rfl rfl q3 (by rw [hW.1 nL]; exact run_ldS1 _ _ _ cR1) ⟨frm' 43 _ rfl, fun h => (getD_put_ne (by decide)).trans (f0 (by simpa using h)), fun h => (getD_put_ne (by decide)).trans (f1 (by simpa using h)), fun h => (getD_put_ne (by decide)).trans (f2 (by simpa using h)), fun h => (getD_put_ne (by decide)).trans (f3 (by simpa using h)), fun _ => getD_put_same (by rw [hsz]; omega), fun h => (getD_put_ne (by decide)).trans (f5 (by simpa using h)), fun h => (getD_put_ne (by decide)).trans (f6 (by simpa using h)), fun h => (getD_put_ne (by decide)).trans (f7 (by simpa using h)), fun h => (getD_put_ne (by decide)).trans (f8 (by simpa using h)), fun h => (getD_put_ne (by decide)).trans (f9 (by simpa using h)), fun h => (getD_put_ne (by decide)).trans (f10 (by simpa using h)), u, (wsAqW_same _ _ _ _ _ _ _ _ _  rfl hW)⟩
    · obtain rfl : oAqW5 pp = o := Option.some.inj ho
      have nL : L 10 = false := not_yetF hcl 30 (show reachB (opsAqW pp) 30 10 5 = true by kernel_rfl) hLi
      exact step_fieldF rfl rfl rfl (hF.at 3 rfl h3) (run_fdM0 _ _) ⟨frm' 44 _ rfl, fun h => (getD_put_ne (by decide)).trans (f0 (by simpa using h)), fun h => (getD_put_ne (by decide)).trans (f1 (by simpa using h)), fun h => (getD_put_ne (by decide)).trans (f2 (by simpa using h)), fun h => (getD_put_ne (by decide)).trans (f3 (by simpa using h)), fun h => (getD_put_ne (by decide)).trans (f4 (by simpa using h)), fun _ => getD_put_same (by rw [hsz]; omega), fun h => (getD_put_ne (by decide)).trans (f6 (by simpa using h)), fun h => (getD_put_ne (by decide)).trans (f7 (by simpa using h)), fun h => (getD_put_ne (by decide)).trans (f8 (by simpa using h)), fun h => (getD_put_ne (by decide)).trans (f9 (by simpa using h)), fun h => (getD_put_ne (by decide)).trans (f10 (by simpa using h)), u, (wsAqW_same _ _ _ _ _ _ _ _ _  rfl hW)⟩
    · obtain rfl : oAqW6 pp = o := Option.some.inj ho
      have q5 : a'.tmps.getD 44 undef = .pointer (some ⟨p, 0, none⟩) := f5 (edge_ofF (o := oAqW6 pp) hpre 5 rfl)
      have nL : L 10 = false := not_yetF hcl 30 (show reachB (opsAqW pp) 30 10 6 = true by kernel_rfl) hLi
      exact step_load rfl rfl rfl q5 (by rw [hW.1 nL]; exact run_ld32 _ _ _ cp0) ⟨frm' 45 _ rfl, fun h => (getD_put_ne (by decide)).trans (f0 (by simpa using h)), fun h => (getD_put_ne (by decide)).trans (f1 (by simpa using h)), fun h => (getD_put_ne (by decide)).trans (f2 (by simpa using h)), fun h => (getD_put_ne (by decide)).trans (f3 (by simpa using h)), fun h => (getD_put_ne (by decide)).trans (f4 (by simpa using h)), fun h => (getD_put_ne (by decide)).trans (f5 (by simpa using h)), fun _ => getD_put_same (by rw [hsz]; omega), fun h => (getD_put_ne (by decide)).trans (f7 (by simpa using h)), fun h => (getD_put_ne (by decide)).trans (f8 (by simpa using h)), fun h => (getD_put_ne (by decide)).trans (f9 (by simpa using h)), fun h => (getD_put_ne (by decide)).trans (f10 (by simpa using h)), u, (wsAqW_same _ _ _ _ _ _ _ _ _  rfl hW)⟩
    · obtain rfl : oAqW7 pp = o := Option.some.inj ho
      have nL : L 10 = false := not_yetF hcl 30 (show reachB (opsAqW pp) 30 10 7 = true by kernel_rfl) hLi
      exact step_fieldF rfl rfl rfl (hF.at 3 rfl h3) (run_fdM1 _ _) ⟨frm' 46 _ rfl, fun h => (getD_put_ne (by decide)).trans (f0 (by simpa using h)), fun h => (getD_put_ne (by decide)).trans (f1 (by simpa using h)), fun h => (getD_put_ne (by decide)).trans (f2 (by simpa using h)), fun h => (getD_put_ne (by decide)).trans (f3 (by simpa using h)), fun h => (getD_put_ne (by decide)).trans (f4 (by simpa using h)), fun h => (getD_put_ne (by decide)).trans (f5 (by simpa using h)), fun h => (getD_put_ne (by decide)).trans (f6 (by simpa using h)), fun _ => getD_put_same (by rw [hsz]; omega), fun h => (getD_put_ne (by decide)).trans (f8 (by simpa using h)), fun h => (getD_put_ne (by decide)).trans (f9 (by simpa using h)), fun h => (getD_put_ne (by decide)).trans (f10 (by simpa using h)), u, (wsAqW_same _ _ _ _ _ _ _ _ _  rfl hW)⟩
    · obtain rfl : oAqW8 pp = o := Option.some.inj ho
      have q7 : a'.tmps.getD 46 undef = .pointer (some ⟨p, 1, none⟩) := f7 (edge_ofF (o := oAqW8 pp) hpre 7 rfl)
      have nL : L 10 = false := not_yetF hcl 30 (show reachB (opsAqW pp) 30 10 8 = true by kernel_rfl) hLi
      exact step_load rfl rfl rfl q7 (by rw [hW.1 nL]; exact run_ld32 _ _ _ cp1) ⟨frm' 47 _ rfl, fun h => (getD_put_ne (by decide)).trans (f0 (by simpa using h)), fun h => (getD_put_ne (by decide)).trans (f1 (by simpa using h)), fun h => (getD_put_ne (by decide)).trans (f2 (by simpa using h)), fun h => (getD_put_ne (by decide)).trans (f3 (by simpa using h)), fun h => (getD_put_ne (by decide)).trans (f4 (by simpa using h)), fun h => (getD_put_ne (by decide)).trans (f5 (by simpa using h)), fun h => (getD_put_ne (by decide)).trans (f6 (by simpa using h)), fun h => (getD_put_ne (by decide)).trans (f7 (by simpa using h)), fun _ => getD_put_same (by rw [hsz]; omega), fun h => (getD_put_ne (by decide)).trans (f9 (by simpa using h)), fun h => (getD_put_ne (by decide)).trans (f10 (by simpa using h)), u, (wsAqW_same _ _ _ _ _ _ _ _ _  rfl hW)⟩
    · obtain rfl : oAqW9 pp = o := Option.some.inj ho
      have nL : L 10 = false := not_yetF hcl 30 (show reachB (opsAqW pp) 30 10 9 = true by kernel_rfl) hLi
      exact step_load rfl rfl rfl (hF.at 6 rfl h6) (by rw [hW.1 nL]; exact run_ldRep _ _ _ _ hx) ⟨frm' 48 _ rfl, fun h => (getD_put_ne (by decide)).trans (f0 (by simpa using h)), fun h => (getD_put_ne (by decide)).trans (f1 (by simpa using h)), fun h => (getD_put_ne (by decide)).trans (f2 (by simpa using h)), fun h => (getD_put_ne (by decide)).trans (f3 (by simpa using h)), fun h => (getD_put_ne (by decide)).trans (f4 (by simpa using h)), fun h => (getD_put_ne (by decide)).trans (f5 (by simpa using h)), fun h => (getD_put_ne (by decide)).trans (f6 (by simpa using h)), fun h => (getD_put_ne (by decide)).trans (f7 (by simpa using h)), fun h => (getD_put_ne (by decide)).trans (f8 (by simpa using h)), fun _ => getD_put_same (by rw [hsz]; omega), fun h => (getD_put_ne (by decide)).trans (f10 (by simpa using h)), u, (wsAqW_same _ _ _ _ _ _ _ _ _  rfl hW)⟩
    · obtain rfl : oAqW10 pp = o := Option.some.inj ho
      have q4 : a'.tmps.getD 43 undef = .pointer (some ⟨Rs, 0, none⟩) := f4 (edge_ofF (o := oAqW10 pp) hpre 4 rfl)
      have q6 : a'.tmps.getD 45 undef = .int .u32 (cl : Int) := f6 (edge_ofF (o := oAqW10 pp) hpre 6 rfl)
      have q8 : a'.tmps.getD 47 undef = .int .u32 (sq : Int) := f8 (edge_ofF (o := oAqW10 pp) hpre 8 rfl)
      have q9 : a'.tmps.getD 48 undef = .agg #[.int .u8 (cd : Int), .string tx] := f9 (edge_ofF (o := oAqW10 pp) hpre 9 rfl)
      refine step_callD rfl rfl rfl (enters_of Tryz.func44 (by kernel_rfl) rfl) (show Array.map a'.eval #[.tmp 43, .tmp 45, .tmp 47, .tmp 48] = _ from by simp only [List.map_toArray, List.map_cons, List.map_nil, Act.eval, q4, q6, q8, q9]) ((hW.1 hLi ▸ hC).mono ?_)
      rintro e w'' ⟨rfl, hI1⟩
      have hW2 : wsAqW I R p x Rs cl sq cd tx w.drew (fun j => L j || j == 10) u w'' := by
        refine ⟨fun h => ?_, fun _ => hI1⟩
        simp at h
      exact ⟨_, rfl, ⟨frm' 49 _ rfl, fun h => (getD_put_ne (by decide)).trans (f0 (by simpa using h)), fun h => (getD_put_ne (by decide)).trans (f1 (by simpa using h)), fun h => (getD_put_ne (by decide)).trans (f2 (by simpa using h)), fun h => (getD_put_ne (by decide)).trans (f3 (by simpa using h)), fun h => (getD_put_ne (by decide)).trans (f4 (by simpa using h)), fun h => (getD_put_ne (by decide)).trans (f5 (by simpa using h)), fun h => (getD_put_ne (by decide)).trans (f6 (by simpa using h)), fun h => (getD_put_ne (by decide)).trans (f7 (by simpa using h)), fun h => (getD_put_ne (by decide)).trans (f8 (by simpa using h)), fun h => (getD_put_ne (by decide)).trans (f9 (by simpa using h)), fun _ => getD_put_same (by rw [hsz]; omega), u, hW2⟩⟩
    · exact absurd ((Array.getElem?_eq_some_iff.1 ho).1) (by simp [opsAqW])
  · intro L a' w' hv hall
    have hL : ∀ j, j < 11 → L j = true := fun j hj => hall j (by simpa [opsAqW] using hj)
    obtain ⟨hF, f0, f1, f2, f3, f4, f5, f6, f7, f8, f9, f10, u, hW⟩ := hv
    have hW2 : wsAqW I R p x Rs cl sq cd tx w.drew (fun _ => true) u w' := by
      unfold wsAqW at hW ⊢
      simp only [hL 10 (by omega)] at hW ⊢
      exact hW
    have hput : a' = puts [(39, .pointer (some ⟨R, 0, none⟩)), (40, .pointer (some ⟨R, 0, none⟩)), (41, .pointer (some ⟨R, 0, none⟩)), (42, .pointer (some ⟨R, 1, none⟩)), (43, .pointer (some ⟨Rs, 0, none⟩)), (44, .pointer (some ⟨p, 0, none⟩)), (45, .int .u32 (cl : Int)), (46, .pointer (some ⟨p, 1, none⟩)), (47, .int .u32 (sq : Int)), (48, .agg #[.int .u8 (cd : Int), .string tx]), (49, .tuple #[])] a := hF.puts _ (by
      intro z hz
      simp only [List.mem_cons, List.not_mem_nil, or_false] at hz
      rcases hz with rfl | rfl | rfl | rfl | rfl | rfl | rfl | rfl | rfl | rfl | rfl
      · exact f0 (hL 0 (by omega))
      · exact f1 (hL 1 (by omega))
      · exact f2 (hL 2 (by omega))
      · exact f3 (hL 3 (by omega))
      · exact f4 (hL 4 (by omega))
      · exact f5 (hL 5 (by omega))
      · exact f6 (hL 6 (by omega))
      · exact f7 (hL 7 (by omega))
      · exact f8 (hL 8 (by omega))
      · exact f9 (hL 9 (by omega))
      · exact f10 (hL 10 (by omega))) rfl (by rw [hN]; rfl)
    rw [hput]
    exact hQ u w' hW2
end Go.Proofs.YtfjmdkhemnmkpaaGreatDoor
