/- The drawn statements of the reference's Do. -/
import Derived.Test.YtfkdlmokigeemaaGreatDoorStepC
import Derived.Test.YtfkdlmokigeemaaGreatDoorMKvD
import Derived.Test.YtfkdlmokigeemaaGreatDoorStore
import Derived.Test.YtfkdlmokigeemaaGreatDoorMKvZ
namespace Go.Proofs.YtfkdlmokigeemaaGreatDoor
open Go.RowKit

/-- v is a slice of the pairs l, which came since block B. -/
def IsP (B : Nat) (w : World) (v : Value) (l : List PV) : Prop := ∃ A n c, v = .slice A n c ∧ n = l.length ∧ OwnP B w v l
theorem IsP.grew {B : Nat} {w w' : World} {v : Value} {l : List PV} (h : IsP B w v l) (hg : Grew w w') : IsP B w' v l := by
  obtain ⟨A, n, c, h1, h2, h3⟩ := h
  exact ⟨A, n, c, h1, h2, h3.below hg⟩
theorem IsP.of_own {B B' : Nat} {w : World} {v : Value} {l : List PV} (h : OwnP B' w v l) (hB : B ≤ B') : IsP B w v l := by
  obtain ⟨A, c, rfl, _⟩ := h.form
  exact ⟨A, _, c, rfl, rfl, h.mono hB⟩
theorem run_fdC (w : World) (b i : Nat) (hi : i = 3 ∨ i = 4 ∨ i = 5) : (Instr.fieldAt 35 (.pointer (some ⟨b, 0, none⟩)) i).run Tryz.prog w = .ok (.pointer (some ⟨b, i, none⟩)) w := by
  rcases hi with rfl | rfl | rfl <;> simp [go_sem]
theorem run_fdP (w : World) (b o : Nat) : (Instr.fieldAt 45 (.pointer (some ⟨b, o, none⟩)) 1).run Tryz.prog w = .ok (.pointer (some ⟨b, o + 1, none⟩)) w := by
  simp [go_sem]
theorem run_ldT (w : World) (t : TypeId) (ht : t = 9 ∨ t = 33) (p : Addr) (v : Value) (h : w.cell? p = some v) : (Instr.loadAt t (.pointer (some p))).run Tryz.prog w = .ok v w := by
  rcases ht with rfl | rfl <;> simp [go_sem, h]
theorem run_ixS (w : World) (b o L c q : Nat) (h : q < L) : (Instr.indexAt 33 (.slice (some ⟨b, o, none⟩) L c) (.int .i64 (q : Int))).run Tryz.prog w = .ok (.pointer (some ⟨b, o + q, none⟩)) w := by
  have h1 : (0 : Int) ≤ q := by omega
  have h2 : (q : Int) < L := by omega
  simp [go_sem, h1, h2]
theorem run_ixP (w : World) (b o L c q : Nat) (h : q < L) : (Instr.indexAt 27 (.slice (some ⟨b, o, none⟩) L c) (.int .i64 (q : Int))).run Tryz.prog w = .ok (.pointer (some ⟨b, o + q * 2, none⟩)) w := by
  have h1 : (0 : Int) ≤ q := by omega
  have h2 : (q : Int) < L := by omega
  simp [go_sem, h1, h2]
theorem run_stR (w : World) (q : Nat) (cd : Int) (tx : ByteArray) (h : w.heap[q]? = some (.cells #[.int .u8 0, .string ⟨#[]⟩] 29 (0, 0))) :
    (Instr.storeAt 29 (.pointer (some ⟨q, 0, none⟩)) (.agg #[.int .u8 cd, .string tx])).run Tryz.prog w = .ok () ((w.setCell ⟨q, 0, none⟩ (.int .u8 cd)).setCell ⟨q, 1, none⟩ (.string tx)) := by
  have c0 : w.cell? ⟨q, 0, none⟩ = some (.int .u8 0) := by rw [blk_cell h 0]; rfl
  have c1 : w.cell? ⟨q, 1, none⟩ = some (.string ⟨#[]⟩) := by rw [blk_cell h 1]; rfl
  have z0 := blk_frozen h 0
  have z1 := blk_frozen h 1
  simp [go_sem, c0, c1, z0, z1]
theorem run_rep0 (w : World) : (Instr.build 29 #[]).run Tryz.prog w = .ok (.agg #[.int .u8 0, .string ⟨#[]⟩]) w := by
  simp [go_sem, Instr.build]
theorem run_rep1 (w : World) (x : ByteArray) : (Instr.build 29 #[(1, .string x)]).run Tryz.prog w = .ok (.agg #[.int .u8 0, .string x]) w := by
  simp [go_sem, Instr.build]
section
variable {n : Nat} {Q : Exit → Act → World → Prop} {ops : Array Oper} {i : Nat} {o : Oper} {a : Act} {w : World} {K : Act → World → Prop}
theorem step_fieldK {t : TypeId} {x : Operand} {k : Nat} {vx v : Value} (hi : ops[i]? = some o) (hw : Region.wanted o (yielded ops a.tmps) = true) (ho : o.op = .fieldAddr t x k) (hx : a.eval x = vx) (hr : (Instr.fieldAt t vx k).run Tryz.prog w = .ok v w) (h : K (a.put o.dst v) w) : wpOpIn Fence.wide n Tryz.prog ops Q i K a w :=
  step_run hi hw (by rw [ho]; intro c h; cases h) (by simp [Oper.about, ho]) (by simp [execOp, ho, hx, hr]) h
theorem step_rep0 (hi : ops[i]? = some o) (hw : Region.wanted o (yielded ops a.tmps) = true) (ho : o.op = .build 29 #[]) (h : K (a.put o.dst (.agg #[.int .u8 0, .string ⟨#[]⟩])) w) : wpOpIn Fence.wide n Tryz.prog ops Q i K a w :=
  step_run hi hw (by rw [ho]; intro c h; cases h) (by simp [Oper.about, ho]) (by simp [execOp, ho, run_rep0]) h
theorem step_rep1 {x : Operand} {s : ByteArray} (hi : ops[i]? = some o) (hw : Region.wanted o (yielded ops a.tmps) = true) (ho : o.op = .build 29 #[(1, x)]) (hx : a.eval x = .string s) (h : K (a.put o.dst (.agg #[.int .u8 0, .string s])) w) : wpOpIn Fence.wide n Tryz.prog ops Q i K a w :=
  step_run hi hw (by rw [ho]; intro c h; cases h) (by simp [Oper.about, ho]) (by simp [execOp, ho, hx, run_rep1]) h
end
def oDoA0 (p : String) : Oper := { dst := some 26, op := Op.move (Operand.tmp 0), type := 27, pos := p, after := #[], guard := none }
def oDoA1 (p : String) : Oper := { dst := some 27, op := Op.fieldAddr 35 (Operand.tmp 3) 3, type := 0, pos := p, after := #[], guard := none }
def oDoA2 (p : String) : Oper := { dst := some 28, op := Op.load 33 (Operand.tmp 27), type := 33, pos := p, after := #[{ on := 1, ground := Ground.data }], guard := none }
def oDoA3 (p : String) : Oper := { dst := some 29, op := Op.indexAddr 33 (Operand.tmp 28) (Operand.const (Value.int IntKind.i64 0)), type := 0, pos := p, after := #[{ on := 2, ground := Ground.data }], guard := none }
def oDoA4 (p : String) : Oper := { dst := some 30, op := Op.load 9 (Operand.tmp 29), type := 9, pos := p, after := #[{ on := 3, ground := Ground.data }], guard := none }
def oDoA5 (p : String) : Oper := { dst := some 31, op := Op.fieldAddr 35 (Operand.tmp 3) 5, type := 0, pos := p, after := #[], guard := none }
def oDoA6 (p : String) : Oper := { dst := some 32, op := Op.load 9 (Operand.tmp 31), type := 9, pos := p, after := #[{ on := 5, ground := Ground.data }], guard := none }
def oDoA7 (p : String) : Oper := { dst := some 33, op := Op.call { callee := Callee.value (Operand.func 22), args := #[Operand.tmp 26, Operand.tmp 30, Operand.tmp 32], argTypes := #[27, 9, 9] }, type := 27, pos := p, after := #[{ on := 0, ground := Ground.data }, { on := 4, ground := Ground.data }, { on := 6, ground := Ground.data }], guard := none }
def oDoA8 (p : String) : Oper := { dst := some 34, op := Op.build 29 #[], type := 29, pos := p, after := #[{ on := 9, ground := Ground.gcOnly Departure.lateStores }], guard := none }
def oDoA9 (p : String) : Oper := { dst := some 4, op := Op.assign (Operand.tmp 33), type := 27, pos := p, after := #[{ on := 7, ground := Ground.data }, { on := 7, ground := Ground.chain }, { on := 0, ground := Ground.phase }, { on := 1, ground := Ground.phase }, { on := 2, ground := Ground.phase }, { on := 3, ground := Ground.phase }, { on := 4, ground := Ground.phase }, { on := 5, ground := Ground.phase }, { on := 6, ground := Ground.phase }, { on := 7, ground := Ground.phase }, { on := 8, ground := Ground.textOnly Departure.lateStores }], guard := none }
def opsDoA (p : String) : List Oper := [oDoA0 p, oDoA1 p, oDoA2 p, oDoA3 p, oDoA4 p, oDoA5 p, oDoA6 p, oDoA7 p, oDoA8 p, oDoA9 p]
def oDoAL (p : String) : Oper := { dst := none, op := Op.store 29 (Operand.tmp 5) (Operand.tmp 34), type := 0, pos := p, after := #[{ on := 8, ground := Ground.data }, { on := 9, ground := Ground.chain }, { on := 0, ground := Ground.phase }, { on := 1, ground := Ground.phase }, { on := 2, ground := Ground.phase }, { on := 3, ground := Ground.phase }, { on := 4, ground := Ground.phase }, { on := 5, ground := Ground.phase }, { on := 6, ground := Ground.phase }, { on := 7, ground := Ground.phase }, { on := 8, ground := Ground.phase }, { on := 9, ground := Ground.phase }], guard := none }
theorem opsDoA_back (p : String) : backwards (opsDoA p ++ [oDoAL p]) = true := by kernel_rfl
theorem opsDoA_all (p : String) : ((List.range (opsDoA p).length).all (hasEdge (oDoAL p))) = true := by kernel_rfl
theorem opsDoA_slots (p : String) : slotsOk 156 (opsDoA p) = true := by kernel_rfl
/-- What each slot comes to. -/
def psiDoA (pb _q kb ko kc KL : Nat) (A : Option Addr) (L c : Nat) (l : List PV) (k0 nw : ByteArray) (B : Nat) : Nat → Value → World → Prop
  | 0, v, _ => v = .slice A L c
  | 1, v, _ => v = .pointer (some ⟨pb, 3, none⟩)
  | 2, v, _ => v = .slice (some ⟨kb, ko, none⟩) KL kc
  | 3, v, _ => v = .pointer (some ⟨kb, ko + 0, none⟩)
  | 4, v, _ => v = .string k0
  | 5, v, _ => v = .pointer (some ⟨pb, 5, none⟩)
  | 6, v, _ => v = .string nw
  | 7, v, w => IsP B w v (withP l k0 nw)
  | 8, v, _ => v = .agg #[.int .u8 0, .string ⟨#[]⟩]
  | 9, v, w => IsP B w v (withP l k0 nw)
  | _, _, _ => True
theorem psiDoA_grew (pb q kb ko kc KL : Nat) (A : Option Addr) (L c : Nat) (l : List PV) (k0 nw : ByteArray) (B : Nat) : ∀ i v w w', psiDoA pb q kb ko kc KL A L c l k0 nw B i v w → Grew w w' → psiDoA pb q kb ko kc KL A L c l k0 nw B i v w' := by
  intro i v w w' h hg
  rcases i with _ | _ | _ | _ | _ | _ | _ | _ | _ | _ | i
  · exact h
  · exact h
  · exact h
  · exact h
  · exact h
  · exact h
  · exact h
  · exact IsP.grew h hg
  · exact h
  · exact IsP.grew h hg
  · trivial
set_option maxRecDepth 100000 in
set_option maxHeartbeats 4000000 in
theorem do_put_region {p : String} (pb q kb ko kc KL : Nat) (A : Option Addr) (L c : Nat) (l : List PV) (k0 nw : ByteArray) (B : Nat)  (a : Act) (w : World) (Q : Exit → Act → World → Prop) (hN : a.tmps.size = 156) (h0 : a.tmps.getD 0 undef = .slice A L c) (h3 : a.tmps.getD 3 undef = .pointer (some ⟨pb, 0, none⟩)) (h5 : a.tmps.getD 5 undef = .pointer (some ⟨q, 0, none⟩)) (hB : B ≤ w.heap.size) (hq : w.heap[q]? = some (.cells #[.int .u8 0, .string ⟨#[]⟩] 29 (0, 0))) (hL : L = l.length) (hLm : L ≤ 10000) (hA : HasP w A l) (c3 : w.cell? ⟨pb, 3, none⟩ = some (.slice (some ⟨kb, ko, none⟩) KL kc)) (ck : w.cell? ⟨kb, ko, none⟩ = some (.string k0)) (hKL : 0 < KL) (c5 : w.cell? ⟨pb, 5, none⟩ = some (.string nw)) (hQ : ∀ (v33 : Value), ∀ (v4 : Value), ∀ (w' : World), (fun v w => IsP B w v (withP l k0 nw)) v33 w' → (fun v w => IsP B w v (withP l k0 nw)) v4 w' → Grew w w' → Q .normal (puts [(26, .slice A L c), (27, .pointer (some ⟨pb, 3, none⟩)), (28, .slice (some ⟨kb, ko, none⟩) KL kc), (29, .pointer (some ⟨kb, ko + 0, none⟩)), (30, .string k0), (31, .pointer (some ⟨pb, 5, none⟩)), (32, .string nw), (33, v33), (34, .agg #[.int .u8 0, .string ⟨#[]⟩]), (4, v4)] a) ((w'.setCell ⟨q, 0, none⟩ (.int .u8 0)).setCell ⟨q, 1, none⟩ (.string ⟨#[]⟩)))
    : (Code.region 6 (opsDoA p ++ [oDoAL p]).toArray true).wp Tryz.prog Q a w := by
  refine (wpIn_wide (n := 1)).1 (wpIn_region_store 156 hN follows (opsDoA_back p) (opsDoA_slots p) (opsDoA_all p) Grew Grew.refl Grew.trans (psiDoA pb q kb ko kc KL A L c l k0 nw B) (psiDoA_grew pb q kb ko kc KL A L c l k0 nw B) ?_ ?_)
  · intro i o d ho hd a' w' hF hR hp
    rcases i with _ | _ | _ | _ | _ | _ | _ | _ | _ | _ | i
    · obtain rfl : oDoA0 p = o := Option.some.inj ho
      obtain rfl : 26 = d := Option.some.inj hd
      exact step_move rfl rfl rfl (hF.at 0 rfl h0) ⟨_, rfl, rfl, Grew.refl _⟩
    · obtain rfl : oDoA1 p = o := Option.some.inj ho
      obtain rfl : 27 = d := Option.some.inj hd
      exact step_fieldK rfl rfl rfl (hF.at 3 rfl h3) (run_fdC w' pb 3 (.inl rfl)) ⟨_, rfl, rfl, Grew.refl _⟩
    · obtain rfl : oDoA2 p = o := Option.some.inj ho
      obtain rfl : 28 = d := Option.some.inj hd
      have q1 : a'.tmps.getD 27 undef = .pointer (some ⟨pb, 3, none⟩) := hp 1 (oDoA1 p) 27 rfl rfl rfl
      exact step_load rfl rfl rfl q1 (run_ldT w' _ (.inr rfl) _ _ ((Below.cell hR.undraw (p := ⟨pb, 3, none⟩) (World.block_lt_of_cell? w _ c3)).trans c3)) ⟨_, rfl, rfl, Grew.refl _⟩
    · obtain rfl : oDoA3 p = o := Option.some.inj ho
      obtain rfl : 29 = d := Option.some.inj hd
      have q2 : a'.tmps.getD 28 undef = .slice (some ⟨kb, ko, none⟩) KL kc := hp 2 (oDoA2 p) 28 rfl rfl rfl
      exact step_index rfl rfl rfl q2 rfl (run_ixS w' kb ko KL kc 0 hKL) ⟨_, rfl, rfl, Grew.refl _⟩
    · obtain rfl : oDoA4 p = o := Option.some.inj ho
      obtain rfl : 30 = d := Option.some.inj hd
      have q3 : a'.tmps.getD 29 undef = .pointer (some ⟨kb, ko + 0, none⟩) := hp 3 (oDoA3 p) 29 rfl rfl rfl
      exact step_load rfl rfl rfl q3 (run_ldT w' _ (.inl rfl) _ _ ((Below.cell hR.undraw (p := ⟨kb, ko, none⟩) (World.block_lt_of_cell? w _ ck)).trans ck)) ⟨_, rfl, rfl, Grew.refl _⟩
    · obtain rfl : oDoA5 p = o := Option.some.inj ho
      obtain rfl : 31 = d := Option.some.inj hd
      exact step_fieldK rfl rfl rfl (hF.at 3 rfl h3) (run_fdC w' pb 5 (.inr (.inr rfl))) ⟨_, rfl, rfl, Grew.refl _⟩
    · obtain rfl : oDoA6 p = o := Option.some.inj ho
      obtain rfl : 32 = d := Option.some.inj hd
      have q5 : a'.tmps.getD 31 undef = .pointer (some ⟨pb, 5, none⟩) := hp 5 (oDoA5 p) 31 rfl rfl rfl
      exact step_load rfl rfl rfl q5 (run_ldT w' _ (.inl rfl) _ _ ((Below.cell hR.undraw (p := ⟨pb, 5, none⟩) (World.block_lt_of_cell? w _ c5)).trans c5)) ⟨_, rfl, rfl, Grew.refl _⟩
    · obtain rfl : oDoA7 p = o := Option.some.inj ho
      obtain rfl : 33 = d := Option.some.inj hd
      have q0 : a'.tmps.getD 26 undef = .slice A L c := hp 0 (oDoA0 p) 26 rfl rfl rfl
      have q4 : a'.tmps.getD 30 undef = .string k0 := hp 4 (oDoA4 p) 30 rfl rfl rfl
      have q6 : a'.tmps.getD 32 undef = .string nw := hp 6 (oDoA6 p) 32 rfl rfl rfl
      refine step_callD rfl rfl rfl (enters_of Tryz.func22 (by kernel_rfl) rfl) (show Array.map a'.eval #[.tmp 26, .tmp 30, .tmp 32] = _ from by simp only [List.map_toArray, List.map_cons, List.map_nil, Act.eval, q0, q4, q6]) ((With_any A L c l k0 nw w' hL (by omega) (hA.below hR.undraw)).mono ?_)
      rintro e w'' ⟨x, rfl, ho, hb⟩
      exact ⟨_, rfl, _, rfl, IsP.of_own ho (Nat.le_trans hB hR.undraw.size), hb⟩
    · obtain rfl : oDoA8 p = o := Option.some.inj ho
      obtain rfl : 34 = d := Option.some.inj hd
      exact step_rep0 rfl rfl rfl ⟨_, rfl, rfl, Grew.refl _⟩
    · obtain rfl : oDoA9 p = o := Option.some.inj ho
      obtain rfl : 4 = d := Option.some.inj hd
      have q7 : (fun v w => IsP B w v (withP l k0 nw)) (a'.tmps.getD 33 undef) w' := hp 7 (oDoA7 p) 33 rfl rfl rfl
      exact step_assign rfl rfl rfl rfl ⟨_, rfl, q7, Grew.refl _⟩
    · exact absurd ((Array.getElem?_eq_some_iff.1 ho).1) (by simp [opsDoA])
  · intro a' w' hF hR hp
    have e0 : psiDoA pb q kb ko kc KL A L c l k0 nw B 0 (a'.tmps.getD 26 undef) w' := hp 0 (oDoA0 p) 26 rfl rfl
    have e1 : psiDoA pb q kb ko kc KL A L c l k0 nw B 1 (a'.tmps.getD 27 undef) w' := hp 1 (oDoA1 p) 27 rfl rfl
    have e2 : psiDoA pb q kb ko kc KL A L c l k0 nw B 2 (a'.tmps.getD 28 undef) w' := hp 2 (oDoA2 p) 28 rfl rfl
    have e3 : psiDoA pb q kb ko kc KL A L c l k0 nw B 3 (a'.tmps.getD 29 undef) w' := hp 3 (oDoA3 p) 29 rfl rfl
    have e4 : psiDoA pb q kb ko kc KL A L c l k0 nw B 4 (a'.tmps.getD 30 undef) w' := hp 4 (oDoA4 p) 30 rfl rfl
    have e5 : psiDoA pb q kb ko kc KL A L c l k0 nw B 5 (a'.tmps.getD 31 undef) w' := hp 5 (oDoA5 p) 31 rfl rfl
    have e6 : psiDoA pb q kb ko kc KL A L c l k0 nw B 6 (a'.tmps.getD 32 undef) w' := hp 6 (oDoA6 p) 32 rfl rfl
    have e7 : psiDoA pb q kb ko kc KL A L c l k0 nw B 7 (a'.tmps.getD 33 undef) w' := hp 7 (oDoA7 p) 33 rfl rfl
    have e8 : psiDoA pb q kb ko kc KL A L c l k0 nw B 8 (a'.tmps.getD 34 undef) w' := hp 8 (oDoA8 p) 34 rfl rfl
    have e9 : psiDoA pb q kb ko kc KL A L c l k0 nw B 9 (a'.tmps.getD 4 undef) w' := hp 9 (oDoA9 p) 4 rfl rfl
    have hput : a' = puts [(26, .slice A L c), (27, .pointer (some ⟨pb, 3, none⟩)), (28, .slice (some ⟨kb, ko, none⟩) KL kc), (29, .pointer (some ⟨kb, ko + 0, none⟩)), (30, .string k0), (31, .pointer (some ⟨pb, 5, none⟩)), (32, .string nw), (33, a'.tmps.getD 33 undef), (34, .agg #[.int .u8 0, .string ⟨#[]⟩]), (4, a'.tmps.getD 4 undef)] a := hF.puts [(26, .slice A L c), (27, .pointer (some ⟨pb, 3, none⟩)), (28, .slice (some ⟨kb, ko, none⟩) KL kc), (29, .pointer (some ⟨kb, ko + 0, none⟩)), (30, .string k0), (31, .pointer (some ⟨pb, 5, none⟩)), (32, .string nw), (33, a'.tmps.getD 33 undef), (34, .agg #[.int .u8 0, .string ⟨#[]⟩]), (4, a'.tmps.getD 4 undef)] (by
      intro x hx
      simp only [List.mem_cons, List.not_mem_nil, or_false] at hx
      rcases hx with rfl | rfl | rfl | rfl | rfl | rfl | rfl | rfl | rfl | rfl
      · exact e0
      · exact e1
      · exact e2
      · exact e3
      · exact e4
      · exact e5
      · exact e6
      · exact rfl
      · exact e8
      · exact rfl) rfl (by rw [hN]; rfl)
    have hq' := (hR.undraw.block q (Array.getElem?_eq_some_iff.1 hq).1).trans hq
    have hst := run_stR w' q 0 ⟨#[]⟩ hq'
    have hx1 : a'.eval (.tmp 5) = .pointer (some ⟨q, 0, none⟩) := hF.at 5 rfl h5
    have hx2 : a'.eval (.tmp 34) = .agg #[.int .u8 0, .string ⟨#[]⟩] := e8
    refine step_skip (o := oDoAL p) (w' := (w'.setCell ⟨q, 0, none⟩ (.int .u8 0)).setCell ⟨q, 1, none⟩ (.string ⟨#[]⟩)) rfl rfl (by intro c h; cases h) (by simp [Oper.about, oDoAL]) (by
      unfold execOp
      simp only [oDoAL, hx1, hx2, Sem.run_bind, hst, Result.andThen_ok]
      rfl) ?_
    show Q .normal a' _
    rw [hput]
    exact hQ _ _ w' e7 e9 hR.undraw
def oDoB0 (p : String) : Oper := { dst := some 87, op := Op.move (Operand.tmp 0), type := 27, pos := p, after := #[], guard := none }
def oDoB1 (p : String) : Oper := { dst := some 88, op := Op.fieldAddr 35 (Operand.tmp 3) 3, type := 0, pos := p, after := #[], guard := none }
def oDoB2 (p : String) : Oper := { dst := some 89, op := Op.load 33 (Operand.tmp 88), type := 33, pos := p, after := #[{ on := 1, ground := Ground.data }], guard := none }
def oDoB3 (p : String) : Oper := { dst := some 90, op := Op.indexAddr 33 (Operand.tmp 89) (Operand.const (Value.int IntKind.i64 0)), type := 0, pos := p, after := #[{ on := 2, ground := Ground.data }], guard := none }
def oDoB4 (p : String) : Oper := { dst := some 91, op := Op.load 9 (Operand.tmp 90), type := 9, pos := p, after := #[{ on := 3, ground := Ground.data }], guard := none }
def oDoB5 (p : String) : Oper := { dst := some 92, op := Op.fieldAddr 35 (Operand.tmp 3) 5, type := 0, pos := p, after := #[], guard := none }
def oDoB6 (p : String) : Oper := { dst := some 93, op := Op.load 9 (Operand.tmp 92), type := 9, pos := p, after := #[{ on := 5, ground := Ground.data }], guard := none }
def oDoB7 (p : String) : Oper := { dst := some 94, op := Op.call { callee := Callee.value (Operand.func 22), args := #[Operand.tmp 87, Operand.tmp 91, Operand.tmp 93], argTypes := #[27, 9, 9] }, type := 27, pos := p, after := #[{ on := 0, ground := Ground.data }, { on := 4, ground := Ground.data }, { on := 6, ground := Ground.data }], guard := none }
def oDoB8 (p : String) : Oper := { dst := some 95, op := Op.build 29 #[], type := 29, pos := p, after := #[{ on := 9, ground := Ground.gcOnly Departure.lateStores }], guard := none }
def oDoB9 (p : String) : Oper := { dst := some 4, op := Op.assign (Operand.tmp 94), type := 27, pos := p, after := #[{ on := 7, ground := Ground.data }, { on := 7, ground := Ground.chain }, { on := 0, ground := Ground.phase }, { on := 1, ground := Ground.phase }, { on := 2, ground := Ground.phase }, { on := 3, ground := Ground.phase }, { on := 4, ground := Ground.phase }, { on := 5, ground := Ground.phase }, { on := 6, ground := Ground.phase }, { on := 7, ground := Ground.phase }, { on := 8, ground := Ground.textOnly Departure.lateStores }], guard := none }
def opsDoB (p : String) : List Oper := [oDoB0 p, oDoB1 p, oDoB2 p, oDoB3 p, oDoB4 p, oDoB5 p, oDoB6 p, oDoB7 p, oDoB8 p, oDoB9 p]
def oDoBL (p : String) : Oper := { dst := none, op := Op.store 29 (Operand.tmp 5) (Operand.tmp 95), type := 0, pos := p, after := #[{ on := 8, ground := Ground.data }, { on := 9, ground := Ground.chain }, { on := 0, ground := Ground.phase }, { on := 1, ground := Ground.phase }, { on := 2, ground := Ground.phase }, { on := 3, ground := Ground.phase }, { on := 4, ground := Ground.phase }, { on := 5, ground := Ground.phase }, { on := 6, ground := Ground.phase }, { on := 7, ground := Ground.phase }, { on := 8, ground := Ground.phase }, { on := 9, ground := Ground.phase }], guard := none }
theorem opsDoB_back (p : String) : backwards (opsDoB p ++ [oDoBL p]) = true := by kernel_rfl
theorem opsDoB_all (p : String) : ((List.range (opsDoB p).length).all (hasEdge (oDoBL p))) = true := by kernel_rfl
theorem opsDoB_slots (p : String) : slotsOk 156 (opsDoB p) = true := by kernel_rfl
/-- What each slot comes to. -/
def psiDoB (pb _q kb ko kc KL : Nat) (A : Option Addr) (L c : Nat) (l : List PV) (k0 nw : ByteArray) (B : Nat) : Nat → Value → World → Prop
  | 0, v, _ => v = .slice A L c
  | 1, v, _ => v = .pointer (some ⟨pb, 3, none⟩)
  | 2, v, _ => v = .slice (some ⟨kb, ko, none⟩) KL kc
  | 3, v, _ => v = .pointer (some ⟨kb, ko + 0, none⟩)
  | 4, v, _ => v = .string k0
  | 5, v, _ => v = .pointer (some ⟨pb, 5, none⟩)
  | 6, v, _ => v = .string nw
  | 7, v, w => IsP B w v (withP l k0 nw)
  | 8, v, _ => v = .agg #[.int .u8 0, .string ⟨#[]⟩]
  | 9, v, w => IsP B w v (withP l k0 nw)
  | _, _, _ => True
theorem psiDoB_grew (pb q kb ko kc KL : Nat) (A : Option Addr) (L c : Nat) (l : List PV) (k0 nw : ByteArray) (B : Nat) : ∀ i v w w', psiDoB pb q kb ko kc KL A L c l k0 nw B i v w → Grew w w' → psiDoB pb q kb ko kc KL A L c l k0 nw B i v w' := by
  intro i v w w' h hg
  rcases i with _ | _ | _ | _ | _ | _ | _ | _ | _ | _ | i
  · exact h
  · exact h
  · exact h
  · exact h
  · exact h
  · exact h
  · exact h
  · exact IsP.grew h hg
  · exact h
  · exact IsP.grew h hg
  · trivial
set_option maxRecDepth 100000 in
set_option maxHeartbeats 4000000 in
theorem do_cas_region {p : String} (pb q kb ko kc KL : Nat) (A : Option Addr) (L c : Nat) (l : List PV) (k0 nw : ByteArray) (B : Nat)  (a : Act) (w : World) (Q : Exit → Act → World → Prop) (hN : a.tmps.size = 156) (h0 : a.tmps.getD 0 undef = .slice A L c) (h3 : a.tmps.getD 3 undef = .pointer (some ⟨pb, 0, none⟩)) (h5 : a.tmps.getD 5 undef = .pointer (some ⟨q, 0, none⟩)) (hB : B ≤ w.heap.size) (hq : w.heap[q]? = some (.cells #[.int .u8 0, .string ⟨#[]⟩] 29 (0, 0))) (hL : L = l.length) (hLm : L ≤ 10000) (hA : HasP w A l) (c3 : w.cell? ⟨pb, 3, none⟩ = some (.slice (some ⟨kb, ko, none⟩) KL kc)) (ck : w.cell? ⟨kb, ko, none⟩ = some (.string k0)) (hKL : 0 < KL) (c5 : w.cell? ⟨pb, 5, none⟩ = some (.string nw)) (hQ : ∀ (v94 : Value), ∀ (v4 : Value), ∀ (w' : World), (fun v w => IsP B w v (withP l k0 nw)) v94 w' → (fun v w => IsP B w v (withP l k0 nw)) v4 w' → Grew w w' → Q .normal (puts [(87, .slice A L c), (88, .pointer (some ⟨pb, 3, none⟩)), (89, .slice (some ⟨kb, ko, none⟩) KL kc), (90, .pointer (some ⟨kb, ko + 0, none⟩)), (91, .string k0), (92, .pointer (some ⟨pb, 5, none⟩)), (93, .string nw), (94, v94), (95, .agg #[.int .u8 0, .string ⟨#[]⟩]), (4, v4)] a) ((w'.setCell ⟨q, 0, none⟩ (.int .u8 0)).setCell ⟨q, 1, none⟩ (.string ⟨#[]⟩)))
    : (Code.region 21 (opsDoB p ++ [oDoBL p]).toArray true).wp Tryz.prog Q a w := by
  refine (wpIn_wide (n := 1)).1 (wpIn_region_store 156 hN follows (opsDoB_back p) (opsDoB_slots p) (opsDoB_all p) Grew Grew.refl Grew.trans (psiDoB pb q kb ko kc KL A L c l k0 nw B) (psiDoB_grew pb q kb ko kc KL A L c l k0 nw B) ?_ ?_)
  · intro i o d ho hd a' w' hF hR hp
    rcases i with _ | _ | _ | _ | _ | _ | _ | _ | _ | _ | i
    · obtain rfl : oDoB0 p = o := Option.some.inj ho
      obtain rfl : 87 = d := Option.some.inj hd
      exact step_move rfl rfl rfl (hF.at 0 rfl h0) ⟨_, rfl, rfl, Grew.refl _⟩
    · obtain rfl : oDoB1 p = o := Option.some.inj ho
      obtain rfl : 88 = d := Option.some.inj hd
      exact step_fieldK rfl rfl rfl (hF.at 3 rfl h3) (run_fdC w' pb 3 (.inl rfl)) ⟨_, rfl, rfl, Grew.refl _⟩
    · obtain rfl : oDoB2 p = o := Option.some.inj ho
      obtain rfl : 89 = d := Option.some.inj hd
      have q1 : a'.tmps.getD 88 undef = .pointer (some ⟨pb, 3, none⟩) := hp 1 (oDoB1 p) 88 rfl rfl rfl
      exact step_load rfl rfl rfl q1 (run_ldT w' _ (.inr rfl) _ _ ((Below.cell hR.undraw (p := ⟨pb, 3, none⟩) (World.block_lt_of_cell? w _ c3)).trans c3)) ⟨_, rfl, rfl, Grew.refl _⟩
    · obtain rfl : oDoB3 p = o := Option.some.inj ho
      obtain rfl : 90 = d := Option.some.inj hd
      have q2 : a'.tmps.getD 89 undef = .slice (some ⟨kb, ko, none⟩) KL kc := hp 2 (oDoB2 p) 89 rfl rfl rfl
      exact step_index rfl rfl rfl q2 rfl (run_ixS w' kb ko KL kc 0 hKL) ⟨_, rfl, rfl, Grew.refl _⟩
    · obtain rfl : oDoB4 p = o := Option.some.inj ho
      obtain rfl : 91 = d := Option.some.inj hd
      have q3 : a'.tmps.getD 90 undef = .pointer (some ⟨kb, ko + 0, none⟩) := hp 3 (oDoB3 p) 90 rfl rfl rfl
      exact step_load rfl rfl rfl q3 (run_ldT w' _ (.inl rfl) _ _ ((Below.cell hR.undraw (p := ⟨kb, ko, none⟩) (World.block_lt_of_cell? w _ ck)).trans ck)) ⟨_, rfl, rfl, Grew.refl _⟩
    · obtain rfl : oDoB5 p = o := Option.some.inj ho
      obtain rfl : 92 = d := Option.some.inj hd
      exact step_fieldK rfl rfl rfl (hF.at 3 rfl h3) (run_fdC w' pb 5 (.inr (.inr rfl))) ⟨_, rfl, rfl, Grew.refl _⟩
    · obtain rfl : oDoB6 p = o := Option.some.inj ho
      obtain rfl : 93 = d := Option.some.inj hd
      have q5 : a'.tmps.getD 92 undef = .pointer (some ⟨pb, 5, none⟩) := hp 5 (oDoB5 p) 92 rfl rfl rfl
      exact step_load rfl rfl rfl q5 (run_ldT w' _ (.inl rfl) _ _ ((Below.cell hR.undraw (p := ⟨pb, 5, none⟩) (World.block_lt_of_cell? w _ c5)).trans c5)) ⟨_, rfl, rfl, Grew.refl _⟩
    · obtain rfl : oDoB7 p = o := Option.some.inj ho
      obtain rfl : 94 = d := Option.some.inj hd
      have q0 : a'.tmps.getD 87 undef = .slice A L c := hp 0 (oDoB0 p) 87 rfl rfl rfl
      have q4 : a'.tmps.getD 91 undef = .string k0 := hp 4 (oDoB4 p) 91 rfl rfl rfl
      have q6 : a'.tmps.getD 93 undef = .string nw := hp 6 (oDoB6 p) 93 rfl rfl rfl
      refine step_callD rfl rfl rfl (enters_of Tryz.func22 (by kernel_rfl) rfl) (show Array.map a'.eval #[.tmp 87, .tmp 91, .tmp 93] = _ from by simp only [List.map_toArray, List.map_cons, List.map_nil, Act.eval, q0, q4, q6]) ((With_any A L c l k0 nw w' hL (by omega) (hA.below hR.undraw)).mono ?_)
      rintro e w'' ⟨x, rfl, ho, hb⟩
      exact ⟨_, rfl, _, rfl, IsP.of_own ho (Nat.le_trans hB hR.undraw.size), hb⟩
    · obtain rfl : oDoB8 p = o := Option.some.inj ho
      obtain rfl : 95 = d := Option.some.inj hd
      exact step_rep0 rfl rfl rfl ⟨_, rfl, rfl, Grew.refl _⟩
    · obtain rfl : oDoB9 p = o := Option.some.inj ho
      obtain rfl : 4 = d := Option.some.inj hd
      have q7 : (fun v w => IsP B w v (withP l k0 nw)) (a'.tmps.getD 94 undef) w' := hp 7 (oDoB7 p) 94 rfl rfl rfl
      exact step_assign rfl rfl rfl rfl ⟨_, rfl, q7, Grew.refl _⟩
    · exact absurd ((Array.getElem?_eq_some_iff.1 ho).1) (by simp [opsDoB])
  · intro a' w' hF hR hp
    have e0 : psiDoB pb q kb ko kc KL A L c l k0 nw B 0 (a'.tmps.getD 87 undef) w' := hp 0 (oDoB0 p) 87 rfl rfl
    have e1 : psiDoB pb q kb ko kc KL A L c l k0 nw B 1 (a'.tmps.getD 88 undef) w' := hp 1 (oDoB1 p) 88 rfl rfl
    have e2 : psiDoB pb q kb ko kc KL A L c l k0 nw B 2 (a'.tmps.getD 89 undef) w' := hp 2 (oDoB2 p) 89 rfl rfl
    have e3 : psiDoB pb q kb ko kc KL A L c l k0 nw B 3 (a'.tmps.getD 90 undef) w' := hp 3 (oDoB3 p) 90 rfl rfl
    have e4 : psiDoB pb q kb ko kc KL A L c l k0 nw B 4 (a'.tmps.getD 91 undef) w' := hp 4 (oDoB4 p) 91 rfl rfl
    have e5 : psiDoB pb q kb ko kc KL A L c l k0 nw B 5 (a'.tmps.getD 92 undef) w' := hp 5 (oDoB5 p) 92 rfl rfl
    have e6 : psiDoB pb q kb ko kc KL A L c l k0 nw B 6 (a'.tmps.getD 93 undef) w' := hp 6 (oDoB6 p) 93 rfl rfl
    have e7 : psiDoB pb q kb ko kc KL A L c l k0 nw B 7 (a'.tmps.getD 94 undef) w' := hp 7 (oDoB7 p) 94 rfl rfl
    have e8 : psiDoB pb q kb ko kc KL A L c l k0 nw B 8 (a'.tmps.getD 95 undef) w' := hp 8 (oDoB8 p) 95 rfl rfl
    have e9 : psiDoB pb q kb ko kc KL A L c l k0 nw B 9 (a'.tmps.getD 4 undef) w' := hp 9 (oDoB9 p) 4 rfl rfl
    have hput : a' = puts [(87, .slice A L c), (88, .pointer (some ⟨pb, 3, none⟩)), (89, .slice (some ⟨kb, ko, none⟩) KL kc), (90, .pointer (some ⟨kb, ko + 0, none⟩)), (91, .string k0), (92, .pointer (some ⟨pb, 5, none⟩)), (93, .string nw), (94, a'.tmps.getD 94 undef), (95, .agg #[.int .u8 0, .string ⟨#[]⟩]), (4, a'.tmps.getD 4 undef)] a := hF.puts [(87, .slice A L c), (88, .pointer (some ⟨pb, 3, none⟩)), (89, .slice (some ⟨kb, ko, none⟩) KL kc), (90, .pointer (some ⟨kb, ko + 0, none⟩)), (91, .string k0), (92, .pointer (some ⟨pb, 5, none⟩)), (93, .string nw), (94, a'.tmps.getD 94 undef), (95, .agg #[.int .u8 0, .string ⟨#[]⟩]), (4, a'.tmps.getD 4 undef)] (by
      intro x hx
      simp only [List.mem_cons, List.not_mem_nil, or_false] at hx
      rcases hx with rfl | rfl | rfl | rfl | rfl | rfl | rfl | rfl | rfl | rfl
      · exact e0
      · exact e1
      · exact e2
      · exact e3
      · exact e4
      · exact e5
      · exact e6
      · exact rfl
      · exact e8
      · exact rfl) rfl (by rw [hN]; rfl)
    have hq' := (hR.undraw.block q (Array.getElem?_eq_some_iff.1 hq).1).trans hq
    have hst := run_stR w' q 0 ⟨#[]⟩ hq'
    have hx1 : a'.eval (.tmp 5) = .pointer (some ⟨q, 0, none⟩) := hF.at 5 rfl h5
    have hx2 : a'.eval (.tmp 95) = .agg #[.int .u8 0, .string ⟨#[]⟩] := e8
    refine step_skip (o := oDoBL p) (w' := (w'.setCell ⟨q, 0, none⟩ (.int .u8 0)).setCell ⟨q, 1, none⟩ (.string ⟨#[]⟩)) rfl rfl (by intro c h; cases h) (by simp [Oper.about, oDoBL]) (by
      unfold execOp
      simp only [oDoBL, hx1, hx2, Sem.run_bind, hst, Result.andThen_ok]
      rfl) ?_
    show Q .normal a' _
    rw [hput]
    exact hQ _ _ w' e7 e9 hR.undraw
def oDoC0 (p : String) : Oper := { dst := some 98, op := Op.move (Operand.tmp 0), type := 27, pos := p, after := #[], guard := none }
def oDoC1 (p : String) : Oper := { dst := some 99, op := Op.fieldAddr 35 (Operand.tmp 3) 3, type := 0, pos := p, after := #[], guard := none }
def oDoC2 (p : String) : Oper := { dst := some 100, op := Op.load 33 (Operand.tmp 99), type := 33, pos := p, after := #[{ on := 1, ground := Ground.data }], guard := none }
def oDoC3 (p : String) : Oper := { dst := some 101, op := Op.indexAddr 33 (Operand.tmp 100) (Operand.const (Value.int IntKind.i64 0)), type := 0, pos := p, after := #[{ on := 2, ground := Ground.data }], guard := none }
def oDoC4 (p : String) : Oper := { dst := some 102, op := Op.load 9 (Operand.tmp 101), type := 9, pos := p, after := #[{ on := 3, ground := Ground.data }], guard := none }
def oDoC5 (p : String) : Oper := { dst := some 103, op := Op.fieldAddr 35 (Operand.tmp 3) 3, type := 0, pos := p, after := #[], guard := none }
def oDoC6 (p : String) : Oper := { dst := some 104, op := Op.load 33 (Operand.tmp 103), type := 33, pos := p, after := #[{ on := 5, ground := Ground.data }], guard := none }
def oDoC7 (p : String) : Oper := { dst := some 105, op := Op.indexAddr 33 (Operand.tmp 104) (Operand.const (Value.int IntKind.i64 1)), type := 0, pos := p, after := #[{ on := 6, ground := Ground.data }], guard := none }
def oDoC8 (p : String) : Oper := { dst := some 106, op := Op.load 9 (Operand.tmp 105), type := 9, pos := p, after := #[{ on := 7, ground := Ground.data }], guard := none }
def oDoC9 (p : String) : Oper := { dst := some 107, op := Op.call { callee := Callee.value (Operand.func 25), args := #[Operand.tmp 98, Operand.tmp 102, Operand.tmp 106], argTypes := #[27, 9, 9] }, type := 27, pos := p, after := #[{ on := 0, ground := Ground.data }, { on := 4, ground := Ground.data }, { on := 8, ground := Ground.data }], guard := none }
def oDoC10 (p : String) : Oper := { dst := some 108, op := Op.build 29 #[], type := 29, pos := p, after := #[{ on := 11, ground := Ground.gcOnly Departure.lateStores }], guard := none }
def oDoC11 (p : String) : Oper := { dst := some 4, op := Op.assign (Operand.tmp 107), type := 27, pos := p, after := #[{ on := 9, ground := Ground.data }, { on := 9, ground := Ground.chain }, { on := 0, ground := Ground.phase }, { on := 1, ground := Ground.phase }, { on := 2, ground := Ground.phase }, { on := 3, ground := Ground.phase }, { on := 4, ground := Ground.phase }, { on := 5, ground := Ground.phase }, { on := 6, ground := Ground.phase }, { on := 7, ground := Ground.phase }, { on := 8, ground := Ground.phase }, { on := 9, ground := Ground.phase }, { on := 10, ground := Ground.textOnly Departure.lateStores }], guard := none }
def opsDoC (p : String) : List Oper := [oDoC0 p, oDoC1 p, oDoC2 p, oDoC3 p, oDoC4 p, oDoC5 p, oDoC6 p, oDoC7 p, oDoC8 p, oDoC9 p, oDoC10 p, oDoC11 p]
def oDoCL (p : String) : Oper := { dst := none, op := Op.store 29 (Operand.tmp 5) (Operand.tmp 108), type := 0, pos := p, after := #[{ on := 10, ground := Ground.data }, { on := 11, ground := Ground.chain }, { on := 0, ground := Ground.phase }, { on := 1, ground := Ground.phase }, { on := 2, ground := Ground.phase }, { on := 3, ground := Ground.phase }, { on := 4, ground := Ground.phase }, { on := 5, ground := Ground.phase }, { on := 6, ground := Ground.phase }, { on := 7, ground := Ground.phase }, { on := 8, ground := Ground.phase }, { on := 9, ground := Ground.phase }, { on := 10, ground := Ground.phase }, { on := 11, ground := Ground.phase }], guard := none }
theorem opsDoC_back (p : String) : backwards (opsDoC p ++ [oDoCL p]) = true := by kernel_rfl
theorem opsDoC_all (p : String) : ((List.range (opsDoC p).length).all (hasEdge (oDoCL p))) = true := by kernel_rfl
theorem opsDoC_slots (p : String) : slotsOk 156 (opsDoC p) = true := by kernel_rfl
/-- What each slot comes to. -/
def psiDoC (pb _q kb ko kc KL : Nat) (A : Option Addr) (L c : Nat) (l : List PV) (k0 k1 : ByteArray) (B : Nat) : Nat → Value → World → Prop
  | 0, v, _ => v = .slice A L c
  | 1, v, _ => v = .pointer (some ⟨pb, 3, none⟩)
  | 2, v, _ => v = .slice (some ⟨kb, ko, none⟩) KL kc
  | 3, v, _ => v = .pointer (some ⟨kb, ko + 0, none⟩)
  | 4, v, _ => v = .string k0
  | 5, v, _ => v = .pointer (some ⟨pb, 3, none⟩)
  | 6, v, _ => v = .slice (some ⟨kb, ko, none⟩) KL kc
  | 7, v, _ => v = .pointer (some ⟨kb, ko + 1, none⟩)
  | 8, v, _ => v = .string k1
  | 9, v, w => IsP B w v (swapP l k0 k1)
  | 10, v, _ => v = .agg #[.int .u8 0, .string ⟨#[]⟩]
  | 11, v, w => IsP B w v (swapP l k0 k1)
  | _, _, _ => True
theorem psiDoC_grew (pb q kb ko kc KL : Nat) (A : Option Addr) (L c : Nat) (l : List PV) (k0 k1 : ByteArray) (B : Nat) : ∀ i v w w', psiDoC pb q kb ko kc KL A L c l k0 k1 B i v w → Grew w w' → psiDoC pb q kb ko kc KL A L c l k0 k1 B i v w' := by
  intro i v w w' h hg
  rcases i with _ | _ | _ | _ | _ | _ | _ | _ | _ | _ | _ | _ | i
  · exact h
  · exact h
  · exact h
  · exact h
  · exact h
  · exact h
  · exact h
  · exact h
  · exact h
  · exact IsP.grew h hg
  · exact h
  · exact IsP.grew h hg
  · trivial
set_option maxRecDepth 100000 in
set_option maxHeartbeats 4000000 in
theorem do_swap_region {p : String} (pb q kb ko kc KL : Nat) (A : Option Addr) (L c : Nat) (l : List PV) (k0 k1 : ByteArray) (B : Nat)  (a : Act) (w : World) (Q : Exit → Act → World → Prop) (hN : a.tmps.size = 156) (h0 : a.tmps.getD 0 undef = .slice A L c) (h3 : a.tmps.getD 3 undef = .pointer (some ⟨pb, 0, none⟩)) (h5 : a.tmps.getD 5 undef = .pointer (some ⟨q, 0, none⟩)) (hB : B ≤ w.heap.size) (hq : w.heap[q]? = some (.cells #[.int .u8 0, .string ⟨#[]⟩] 29 (0, 0))) (hL : L = l.length) (hLm : L ≤ 10000) (hA : HasP w A l) (c3 : w.cell? ⟨pb, 3, none⟩ = some (.slice (some ⟨kb, ko, none⟩) KL kc)) (ck : w.cell? ⟨kb, ko, none⟩ = some (.string k0)) (hKL : 0 < KL) (ck1 : w.cell? ⟨kb, ko + 1, none⟩ = some (.string k1)) (hKL1 : 1 < KL) (hQ : ∀ (v107 : Value), ∀ (v4 : Value), ∀ (w' : World), (fun v w => IsP B w v (swapP l k0 k1)) v107 w' → (fun v w => IsP B w v (swapP l k0 k1)) v4 w' → Grew w w' → Q .normal (puts [(98, .slice A L c), (99, .pointer (some ⟨pb, 3, none⟩)), (100, .slice (some ⟨kb, ko, none⟩) KL kc), (101, .pointer (some ⟨kb, ko + 0, none⟩)), (102, .string k0), (103, .pointer (some ⟨pb, 3, none⟩)), (104, .slice (some ⟨kb, ko, none⟩) KL kc), (105, .pointer (some ⟨kb, ko + 1, none⟩)), (106, .string k1), (107, v107), (108, .agg #[.int .u8 0, .string ⟨#[]⟩]), (4, v4)] a) ((w'.setCell ⟨q, 0, none⟩ (.int .u8 0)).setCell ⟨q, 1, none⟩ (.string ⟨#[]⟩)))
    : (Code.region 23 (opsDoC p ++ [oDoCL p]).toArray true).wp Tryz.prog Q a w := by
  refine (wpIn_wide (n := 1)).1 (wpIn_region_store 156 hN follows (opsDoC_back p) (opsDoC_slots p) (opsDoC_all p) Grew Grew.refl Grew.trans (psiDoC pb q kb ko kc KL A L c l k0 k1 B) (psiDoC_grew pb q kb ko kc KL A L c l k0 k1 B) ?_ ?_)
  · intro i o d ho hd a' w' hF hR hp
    rcases i with _ | _ | _ | _ | _ | _ | _ | _ | _ | _ | _ | _ | i
    · obtain rfl : oDoC0 p = o := Option.some.inj ho
      obtain rfl : 98 = d := Option.some.inj hd
      exact step_move rfl rfl rfl (hF.at 0 rfl h0) ⟨_, rfl, rfl, Grew.refl _⟩
    · obtain rfl : oDoC1 p = o := Option.some.inj ho
      obtain rfl : 99 = d := Option.some.inj hd
      exact step_fieldK rfl rfl rfl (hF.at 3 rfl h3) (run_fdC w' pb 3 (.inl rfl)) ⟨_, rfl, rfl, Grew.refl _⟩
    · obtain rfl : oDoC2 p = o := Option.some.inj ho
      obtain rfl : 100 = d := Option.some.inj hd
      have q1 : a'.tmps.getD 99 undef = .pointer (some ⟨pb, 3, none⟩) := hp 1 (oDoC1 p) 99 rfl rfl rfl
      exact step_load rfl rfl rfl q1 (run_ldT w' _ (.inr rfl) _ _ ((Below.cell hR.undraw (p := ⟨pb, 3, none⟩) (World.block_lt_of_cell? w _ c3)).trans c3)) ⟨_, rfl, rfl, Grew.refl _⟩
    · obtain rfl : oDoC3 p = o := Option.some.inj ho
      obtain rfl : 101 = d := Option.some.inj hd
      have q2 : a'.tmps.getD 100 undef = .slice (some ⟨kb, ko, none⟩) KL kc := hp 2 (oDoC2 p) 100 rfl rfl rfl
      exact step_index rfl rfl rfl q2 rfl (run_ixS w' kb ko KL kc 0 hKL) ⟨_, rfl, rfl, Grew.refl _⟩
    · obtain rfl : oDoC4 p = o := Option.some.inj ho
      obtain rfl : 102 = d := Option.some.inj hd
      have q3 : a'.tmps.getD 101 undef = .pointer (some ⟨kb, ko + 0, none⟩) := hp 3 (oDoC3 p) 101 rfl rfl rfl
      exact step_load rfl rfl rfl q3 (run_ldT w' _ (.inl rfl) _ _ ((Below.cell hR.undraw (p := ⟨kb, ko, none⟩) (World.block_lt_of_cell? w _ ck)).trans ck)) ⟨_, rfl, rfl, Grew.refl _⟩
    · obtain rfl : oDoC5 p = o := Option.some.inj ho
      obtain rfl : 103 = d := Option.some.inj hd
      exact step_fieldK rfl rfl rfl (hF.at 3 rfl h3) (run_fdC w' pb 3 (.inl rfl)) ⟨_, rfl, rfl, Grew.refl _⟩
    · obtain rfl : oDoC6 p = o := Option.some.inj ho
      obtain rfl : 104 = d := Option.some.inj hd
      have q5 : a'.tmps.getD 103 undef = .pointer (some ⟨pb, 3, none⟩) := hp 5 (oDoC5 p) 103 rfl rfl rfl
      exact step_load rfl rfl rfl q5 (run_ldT w' _ (.inr rfl) _ _ ((Below.cell hR.undraw (p := ⟨pb, 3, none⟩) (World.block_lt_of_cell? w _ c3)).trans c3)) ⟨_, rfl, rfl, Grew.refl _⟩
    · obtain rfl : oDoC7 p = o := Option.some.inj ho
      obtain rfl : 105 = d := Option.some.inj hd
      have q6 : a'.tmps.getD 104 undef = .slice (some ⟨kb, ko, none⟩) KL kc := hp 6 (oDoC6 p) 104 rfl rfl rfl
      exact step_index rfl rfl rfl q6 rfl (run_ixS w' kb ko KL kc 1 hKL1) ⟨_, rfl, rfl, Grew.refl _⟩
    · obtain rfl : oDoC8 p = o := Option.some.inj ho
      obtain rfl : 106 = d := Option.some.inj hd
      have q7 : a'.tmps.getD 105 undef = .pointer (some ⟨kb, ko + 1, none⟩) := hp 7 (oDoC7 p) 105 rfl rfl rfl
      exact step_load rfl rfl rfl q7 (run_ldT w' _ (.inl rfl) _ _ ((Below.cell hR.undraw (p := ⟨kb, ko + 1, none⟩) (World.block_lt_of_cell? w _ ck1)).trans ck1)) ⟨_, rfl, rfl, Grew.refl _⟩
    · obtain rfl : oDoC9 p = o := Option.some.inj ho
      obtain rfl : 107 = d := Option.some.inj hd
      have q0 : a'.tmps.getD 98 undef = .slice A L c := hp 0 (oDoC0 p) 98 rfl rfl rfl
      have q4 : a'.tmps.getD 102 undef = .string k0 := hp 4 (oDoC4 p) 102 rfl rfl rfl
      have q8 : a'.tmps.getD 106 undef = .string k1 := hp 8 (oDoC8 p) 106 rfl rfl rfl
      refine step_callD rfl rfl rfl (enters_of Tryz.func25 (by kernel_rfl) rfl) (show Array.map a'.eval #[.tmp 98, .tmp 102, .tmp 106] = _ from by simp only [List.map_toArray, List.map_cons, List.map_nil, Act.eval, q0, q4, q8]) ((swap_any A L c l k0 k1 w' hL hLm (hA.below hR.undraw)).mono ?_)
      rintro e w'' ⟨x, rfl, ho, hb⟩
      exact ⟨_, rfl, _, rfl, IsP.of_own ho (Nat.le_trans hB hR.undraw.size), hb⟩
    · obtain rfl : oDoC10 p = o := Option.some.inj ho
      obtain rfl : 108 = d := Option.some.inj hd
      exact step_rep0 rfl rfl rfl ⟨_, rfl, rfl, Grew.refl _⟩
    · obtain rfl : oDoC11 p = o := Option.some.inj ho
      obtain rfl : 4 = d := Option.some.inj hd
      have q9 : (fun v w => IsP B w v (swapP l k0 k1)) (a'.tmps.getD 107 undef) w' := hp 9 (oDoC9 p) 107 rfl rfl rfl
      exact step_assign rfl rfl rfl rfl ⟨_, rfl, q9, Grew.refl _⟩
    · exact absurd ((Array.getElem?_eq_some_iff.1 ho).1) (by simp [opsDoC])
  · intro a' w' hF hR hp
    have e0 : psiDoC pb q kb ko kc KL A L c l k0 k1 B 0 (a'.tmps.getD 98 undef) w' := hp 0 (oDoC0 p) 98 rfl rfl
    have e1 : psiDoC pb q kb ko kc KL A L c l k0 k1 B 1 (a'.tmps.getD 99 undef) w' := hp 1 (oDoC1 p) 99 rfl rfl
    have e2 : psiDoC pb q kb ko kc KL A L c l k0 k1 B 2 (a'.tmps.getD 100 undef) w' := hp 2 (oDoC2 p) 100 rfl rfl
    have e3 : psiDoC pb q kb ko kc KL A L c l k0 k1 B 3 (a'.tmps.getD 101 undef) w' := hp 3 (oDoC3 p) 101 rfl rfl
    have e4 : psiDoC pb q kb ko kc KL A L c l k0 k1 B 4 (a'.tmps.getD 102 undef) w' := hp 4 (oDoC4 p) 102 rfl rfl
    have e5 : psiDoC pb q kb ko kc KL A L c l k0 k1 B 5 (a'.tmps.getD 103 undef) w' := hp 5 (oDoC5 p) 103 rfl rfl
    have e6 : psiDoC pb q kb ko kc KL A L c l k0 k1 B 6 (a'.tmps.getD 104 undef) w' := hp 6 (oDoC6 p) 104 rfl rfl
    have e7 : psiDoC pb q kb ko kc KL A L c l k0 k1 B 7 (a'.tmps.getD 105 undef) w' := hp 7 (oDoC7 p) 105 rfl rfl
    have e8 : psiDoC pb q kb ko kc KL A L c l k0 k1 B 8 (a'.tmps.getD 106 undef) w' := hp 8 (oDoC8 p) 106 rfl rfl
    have e9 : psiDoC pb q kb ko kc KL A L c l k0 k1 B 9 (a'.tmps.getD 107 undef) w' := hp 9 (oDoC9 p) 107 rfl rfl
    have e10 : psiDoC pb q kb ko kc KL A L c l k0 k1 B 10 (a'.tmps.getD 108 undef) w' := hp 10 (oDoC10 p) 108 rfl rfl
    have e11 : psiDoC pb q kb ko kc KL A L c l k0 k1 B 11 (a'.tmps.getD 4 undef) w' := hp 11 (oDoC11 p) 4 rfl rfl
    have hput : a' = puts [(98, .slice A L c), (99, .pointer (some ⟨pb, 3, none⟩)), (100, .slice (some ⟨kb, ko, none⟩) KL kc), (101, .pointer (some ⟨kb, ko + 0, none⟩)), (102, .string k0), (103, .pointer (some ⟨pb, 3, none⟩)), (104, .slice (some ⟨kb, ko, none⟩) KL kc), (105, .pointer (some ⟨kb, ko + 1, none⟩)), (106, .string k1), (107, a'.tmps.getD 107 undef), (108, .agg #[.int .u8 0, .string ⟨#[]⟩]), (4, a'.tmps.getD 4 undef)] a := hF.puts [(98, .slice A L c), (99, .pointer (some ⟨pb, 3, none⟩)), (100, .slice (some ⟨kb, ko, none⟩) KL kc), (101, .pointer (some ⟨kb, ko + 0, none⟩)), (102, .string k0), (103, .pointer (some ⟨pb, 3, none⟩)), (104, .slice (some ⟨kb, ko, none⟩) KL kc), (105, .pointer (some ⟨kb, ko + 1, none⟩)), (106, .string k1), (107, a'.tmps.getD 107 undef), (108, .agg #[.int .u8 0, .string ⟨#[]⟩]), (4, a'.tmps.getD 4 undef)] (by
      intro x hx
      simp only [List.mem_cons, List.not_mem_nil, or_false] at hx
      rcases hx with rfl | rfl | rfl | rfl | rfl | rfl | rfl | rfl | rfl | rfl | rfl | rfl
      · exact e0
      · exact e1
      · exact e2
      · exact e3
      · exact e4
      · exact e5
      · exact e6
      · exact e7
      · exact e8
      · exact rfl
      · exact e10
      · exact rfl) rfl (by rw [hN]; rfl)
    have hq' := (hR.undraw.block q (Array.getElem?_eq_some_iff.1 hq).1).trans hq
    have hst := run_stR w' q 0 ⟨#[]⟩ hq'
    have hx1 : a'.eval (.tmp 5) = .pointer (some ⟨q, 0, none⟩) := hF.at 5 rfl h5
    have hx2 : a'.eval (.tmp 108) = .agg #[.int .u8 0, .string ⟨#[]⟩] := e10
    refine step_skip (o := oDoCL p) (w' := (w'.setCell ⟨q, 0, none⟩ (.int .u8 0)).setCell ⟨q, 1, none⟩ (.string ⟨#[]⟩)) rfl rfl (by intro c h; cases h) (by simp [Oper.about, oDoCL]) (by
      unfold execOp
      simp only [oDoCL, hx1, hx2, Sem.run_bind, hst, Result.andThen_ok]
      rfl) ?_
    show Q .normal a' _
    rw [hput]
    exact hQ _ _ w' e9 e11 hR.undraw
def oDoD0 (p : String) : Oper := { dst := some 45, op := Op.move (Operand.tmp 0), type := 27, pos := p, after := #[], guard := none }
def oDoD1 (p : String) : Oper := { dst := some 46, op := Op.fieldAddr 35 (Operand.tmp 3) 3, type := 0, pos := p, after := #[], guard := none }
def oDoD2 (p : String) : Oper := { dst := some 47, op := Op.load 33 (Operand.tmp 46), type := 33, pos := p, after := #[{ on := 1, ground := Ground.data }], guard := none }
def oDoD3 (p : String) : Oper := { dst := some 48, op := Op.indexAddr 33 (Operand.tmp 47) (Operand.const (Value.int IntKind.i64 0)), type := 0, pos := p, after := #[{ on := 2, ground := Ground.data }], guard := none }
def oDoD4 (p : String) : Oper := { dst := some 49, op := Op.load 9 (Operand.tmp 48), type := 9, pos := p, after := #[{ on := 3, ground := Ground.data }], guard := none }
def oDoD5 (p : String) : Oper := { dst := some 50, op := Op.call { callee := Callee.value (Operand.func 23), args := #[Operand.tmp 45, Operand.tmp 49], argTypes := #[27, 9] }, type := 27, pos := p, after := #[{ on := 0, ground := Ground.data }, { on := 4, ground := Ground.data }], guard := none }
def oDoD6 (p : String) : Oper := { dst := some 51, op := Op.move (Operand.tmp 0), type := 27, pos := p, after := #[{ on := 12, ground := Ground.gcOnly Departure.lateStores }], guard := none }
def oDoD7 (p : String) : Oper := { dst := some 52, op := Op.move (Operand.tmp 6), type := 3, pos := p, after := #[{ on := 12, ground := Ground.gcOnly Departure.lateStores }], guard := none }
def oDoD8 (p : String) : Oper := { dst := some 53, op := Op.indexAddr 27 (Operand.tmp 51) (Operand.tmp 52), type := 0, pos := p, after := #[{ on := 6, ground := Ground.data }, { on := 7, ground := Ground.data }, { on := 12, ground := Ground.gcOnly Departure.lateStores }], guard := none }
def oDoD9 (p : String) : Oper := { dst := some 54, op := Op.fieldAddr 45 (Operand.tmp 53) 1, type := 0, pos := p, after := #[{ on := 8, ground := Ground.data }, { on := 12, ground := Ground.gcOnly Departure.lateStores }], guard := none }
def oDoD10 (p : String) : Oper := { dst := some 55, op := Op.load 9 (Operand.tmp 54), type := 9, pos := p, after := #[{ on := 9, ground := Ground.data }, { on := 12, ground := Ground.gcOnly Departure.lateStores }], guard := none }
def oDoD11 (p : String) : Oper := { dst := some 56, op := Op.build 29 #[(1, Operand.tmp 55)], type := 29, pos := p, after := #[{ on := 10, ground := Ground.data }, { on := 12, ground := Ground.gcOnly Departure.lateStores }], guard := none }
def oDoD12 (p : String) : Oper := { dst := some 4, op := Op.assign (Operand.tmp 50), type := 27, pos := p, after := #[{ on := 5, ground := Ground.data }, { on := 5, ground := Ground.chain }, { on := 0, ground := Ground.phase }, { on := 1, ground := Ground.phase }, { on := 2, ground := Ground.phase }, { on := 3, ground := Ground.phase }, { on := 4, ground := Ground.phase }, { on := 5, ground := Ground.phase }, { on := 6, ground := Ground.textOnly Departure.lateStores }, { on := 7, ground := Ground.textOnly Departure.lateStores }, { on := 8, ground := Ground.textOnly Departure.lateStores }, { on := 9, ground := Ground.textOnly Departure.lateStores }, { on := 10, ground := Ground.textOnly Departure.lateStores }, { on := 11, ground := Ground.textOnly Departure.lateStores }], guard := none }
def opsDoD (p : String) : List Oper := [oDoD0 p, oDoD1 p, oDoD2 p, oDoD3 p, oDoD4 p, oDoD5 p, oDoD6 p, oDoD7 p, oDoD8 p, oDoD9 p, oDoD10 p, oDoD11 p, oDoD12 p]
def oDoDL (p : String) : Oper := { dst := none, op := Op.store 29 (Operand.tmp 5) (Operand.tmp 56), type := 0, pos := p, after := #[{ on := 11, ground := Ground.data }, { on := 12, ground := Ground.chain }, { on := 0, ground := Ground.phase }, { on := 1, ground := Ground.phase }, { on := 2, ground := Ground.phase }, { on := 3, ground := Ground.phase }, { on := 4, ground := Ground.phase }, { on := 5, ground := Ground.phase }, { on := 6, ground := Ground.phase }, { on := 7, ground := Ground.phase }, { on := 8, ground := Ground.phase }, { on := 9, ground := Ground.phase }, { on := 10, ground := Ground.phase }, { on := 11, ground := Ground.phase }, { on := 12, ground := Ground.phase }], guard := none }
theorem opsDoD_back (p : String) : backwards (opsDoD p ++ [oDoDL p]) = true := by kernel_rfl
theorem opsDoD_all (p : String) : ((List.range (opsDoD p).length).all (hasEdge (oDoDL p))) = true := by kernel_rfl
theorem opsDoD_slots (p : String) : slotsOk 156 (opsDoD p) = true := by kernel_rfl
/-- What each slot comes to. -/
def psiDoD (pb _q kb ko kc KL ab ao j : Nat) (A : Option Addr) (L c : Nat) (l : List PV) (k0 u : ByteArray) (B : Nat) : Nat → Value → World → Prop
  | 0, v, _ => v = .slice A L c
  | 1, v, _ => v = .pointer (some ⟨pb, 3, none⟩)
  | 2, v, _ => v = .slice (some ⟨kb, ko, none⟩) KL kc
  | 3, v, _ => v = .pointer (some ⟨kb, ko + 0, none⟩)
  | 4, v, _ => v = .string k0
  | 5, v, w => IsP B w v (withoutP l k0)
  | 6, v, _ => v = .slice A L c
  | 7, v, _ => v = .int .i64 (j : Int)
  | 8, v, _ => v = .pointer (some ⟨ab, ao + j * 2, none⟩)
  | 9, v, _ => v = .pointer (some ⟨ab, ao + j * 2 + 1, none⟩)
  | 10, v, _ => v = .string u
  | 11, v, _ => v = .agg #[.int .u8 0, .string u]
  | 12, v, w => IsP B w v (withoutP l k0)
  | _, _, _ => True
theorem psiDoD_grew (pb q kb ko kc KL ab ao j : Nat) (A : Option Addr) (L c : Nat) (l : List PV) (k0 u : ByteArray) (B : Nat) : ∀ i v w w', psiDoD pb q kb ko kc KL ab ao j A L c l k0 u B i v w → Grew w w' → psiDoD pb q kb ko kc KL ab ao j A L c l k0 u B i v w' := by
  intro i v w w' h hg
  rcases i with _ | _ | _ | _ | _ | _ | _ | _ | _ | _ | _ | _ | _ | i
  · exact h
  · exact h
  · exact h
  · exact h
  · exact h
  · exact IsP.grew h hg
  · exact h
  · exact h
  · exact h
  · exact h
  · exact h
  · exact h
  · exact IsP.grew h hg
  · trivial
set_option maxRecDepth 100000 in
set_option maxHeartbeats 4000000 in
theorem do_del_region {p : String} (pb q kb ko kc KL ab ao j : Nat) (A : Option Addr) (L c : Nat) (l : List PV) (k0 u : ByteArray) (B : Nat)  (a : Act) (w : World) (Q : Exit → Act → World → Prop) (hN : a.tmps.size = 156) (h0 : a.tmps.getD 0 undef = .slice A L c) (h3 : a.tmps.getD 3 undef = .pointer (some ⟨pb, 0, none⟩)) (h5 : a.tmps.getD 5 undef = .pointer (some ⟨q, 0, none⟩)) (h6 : a.tmps.getD 6 undef = .int .i64 (j : Int)) (hB : B ≤ w.heap.size) (hq : w.heap[q]? = some (.cells #[.int .u8 0, .string ⟨#[]⟩] 29 (0, 0))) (hL : L = l.length) (hLm : L ≤ 10000) (hA : HasP w A l) (c3 : w.cell? ⟨pb, 3, none⟩ = some (.slice (some ⟨kb, ko, none⟩) KL kc)) (ck : w.cell? ⟨kb, ko, none⟩ = some (.string k0)) (hKL : 0 < KL) (hAb : A = some ⟨ab, ao, none⟩) (hj : j < L) (cu : w.cell? ⟨ab, ao + j * 2 + 1, none⟩ = some (.string u)) (hQ : ∀ (v50 : Value), ∀ (v4 : Value), ∀ (w' : World), (fun v w => IsP B w v (withoutP l k0)) v50 w' → (fun v w => IsP B w v (withoutP l k0)) v4 w' → Grew w w' → Q .normal (puts [(45, .slice A L c), (46, .pointer (some ⟨pb, 3, none⟩)), (47, .slice (some ⟨kb, ko, none⟩) KL kc), (48, .pointer (some ⟨kb, ko + 0, none⟩)), (49, .string k0), (50, v50), (51, .slice A L c), (52, .int .i64 (j : Int)), (53, .pointer (some ⟨ab, ao + j * 2, none⟩)), (54, .pointer (some ⟨ab, ao + j * 2 + 1, none⟩)), (55, .string u), (56, .agg #[.int .u8 0, .string u]), (4, v4)] a) ((w'.setCell ⟨q, 0, none⟩ (.int .u8 0)).setCell ⟨q, 1, none⟩ (.string u)))
    : (Code.region 12 (opsDoD p ++ [oDoDL p]).toArray true).wp Tryz.prog Q a w := by
  refine (wpIn_wide (n := 1)).1 (wpIn_region_store 156 hN follows (opsDoD_back p) (opsDoD_slots p) (opsDoD_all p) Grew Grew.refl Grew.trans (psiDoD pb q kb ko kc KL ab ao j A L c l k0 u B) (psiDoD_grew pb q kb ko kc KL ab ao j A L c l k0 u B) ?_ ?_)
  · intro i o d ho hd a' w' hF hR hp
    rcases i with _ | _ | _ | _ | _ | _ | _ | _ | _ | _ | _ | _ | _ | i
    · obtain rfl : oDoD0 p = o := Option.some.inj ho
      obtain rfl : 45 = d := Option.some.inj hd
      exact step_move rfl rfl rfl (hF.at 0 rfl h0) ⟨_, rfl, rfl, Grew.refl _⟩
    · obtain rfl : oDoD1 p = o := Option.some.inj ho
      obtain rfl : 46 = d := Option.some.inj hd
      exact step_fieldK rfl rfl rfl (hF.at 3 rfl h3) (run_fdC w' pb 3 (.inl rfl)) ⟨_, rfl, rfl, Grew.refl _⟩
    · obtain rfl : oDoD2 p = o := Option.some.inj ho
      obtain rfl : 47 = d := Option.some.inj hd
      have q1 : a'.tmps.getD 46 undef = .pointer (some ⟨pb, 3, none⟩) := hp 1 (oDoD1 p) 46 rfl rfl rfl
      exact step_load rfl rfl rfl q1 (run_ldT w' _ (.inr rfl) _ _ ((Below.cell hR.undraw (p := ⟨pb, 3, none⟩) (World.block_lt_of_cell? w _ c3)).trans c3)) ⟨_, rfl, rfl, Grew.refl _⟩
    · obtain rfl : oDoD3 p = o := Option.some.inj ho
      obtain rfl : 48 = d := Option.some.inj hd
      have q2 : a'.tmps.getD 47 undef = .slice (some ⟨kb, ko, none⟩) KL kc := hp 2 (oDoD2 p) 47 rfl rfl rfl
      exact step_index rfl rfl rfl q2 rfl (run_ixS w' kb ko KL kc 0 hKL) ⟨_, rfl, rfl, Grew.refl _⟩
    · obtain rfl : oDoD4 p = o := Option.some.inj ho
      obtain rfl : 49 = d := Option.some.inj hd
      have q3 : a'.tmps.getD 48 undef = .pointer (some ⟨kb, ko + 0, none⟩) := hp 3 (oDoD3 p) 48 rfl rfl rfl
      exact step_load rfl rfl rfl q3 (run_ldT w' _ (.inl rfl) _ _ ((Below.cell hR.undraw (p := ⟨kb, ko, none⟩) (World.block_lt_of_cell? w _ ck)).trans ck)) ⟨_, rfl, rfl, Grew.refl _⟩
    · obtain rfl : oDoD5 p = o := Option.some.inj ho
      obtain rfl : 50 = d := Option.some.inj hd
      have q0 : a'.tmps.getD 45 undef = .slice A L c := hp 0 (oDoD0 p) 45 rfl rfl rfl
      have q4 : a'.tmps.getD 49 undef = .string k0 := hp 4 (oDoD4 p) 49 rfl rfl rfl
      refine step_callD rfl rfl rfl (enters_of Tryz.func23 (by kernel_rfl) rfl) (show Array.map a'.eval #[.tmp 45, .tmp 49] = _ from by simp only [List.map_toArray, List.map_cons, List.map_nil, Act.eval, q0, q4]) ((Without_any A L c l k0 w' hL (by omega) (hA.below hR.undraw)).mono ?_)
      rintro e w'' ⟨x, rfl, ho, hb⟩
      exact ⟨_, rfl, _, rfl, IsP.of_own ho (Nat.le_trans hB hR.undraw.size), hb⟩
    · obtain rfl : oDoD6 p = o := Option.some.inj ho
      obtain rfl : 51 = d := Option.some.inj hd
      exact step_move rfl rfl rfl (hF.at 0 rfl h0) ⟨_, rfl, rfl, Grew.refl _⟩
    · obtain rfl : oDoD7 p = o := Option.some.inj ho
      obtain rfl : 52 = d := Option.some.inj hd
      exact step_move rfl rfl rfl (hF.at 6 rfl h6) ⟨_, rfl, rfl, Grew.refl _⟩
    · obtain rfl : oDoD8 p = o := Option.some.inj ho
      obtain rfl : 53 = d := Option.some.inj hd
      have q6 : a'.tmps.getD 51 undef = .slice A L c := hp 6 (oDoD6 p) 51 rfl rfl rfl
      have q7 : a'.tmps.getD 52 undef = .int .i64 (j : Int) := hp 7 (oDoD7 p) 52 rfl rfl rfl
      exact step_index rfl rfl rfl q6 q7 (by rw [hAb]; exact run_ixP w' ab ao L c j hj) ⟨_, rfl, rfl, Grew.refl _⟩
    · obtain rfl : oDoD9 p = o := Option.some.inj ho
      obtain rfl : 54 = d := Option.some.inj hd
      have q8 : a'.tmps.getD 53 undef = .pointer (some ⟨ab, ao + j * 2, none⟩) := hp 8 (oDoD8 p) 53 rfl rfl rfl
      exact step_fieldK rfl rfl rfl q8 (run_fdP w' ab (ao + j * 2)) ⟨_, rfl, rfl, Grew.refl _⟩
    · obtain rfl : oDoD10 p = o := Option.some.inj ho
      obtain rfl : 55 = d := Option.some.inj hd
      have q9 : a'.tmps.getD 54 undef = .pointer (some ⟨ab, ao + j * 2 + 1, none⟩) := hp 9 (oDoD9 p) 54 rfl rfl rfl
      exact step_load rfl rfl rfl q9 (run_ldT w' _ (.inl rfl) _ _ ((Below.cell hR.undraw (p := ⟨ab, ao + j * 2 + 1, none⟩) (World.block_lt_of_cell? w _ cu)).trans cu)) ⟨_, rfl, rfl, Grew.refl _⟩
    · obtain rfl : oDoD11 p = o := Option.some.inj ho
      obtain rfl : 56 = d := Option.some.inj hd
      have q10 : a'.tmps.getD 55 undef = .string u := hp 10 (oDoD10 p) 55 rfl rfl rfl
      exact step_rep1 rfl rfl rfl q10 ⟨_, rfl, rfl, Grew.refl _⟩
    · obtain rfl : oDoD12 p = o := Option.some.inj ho
      obtain rfl : 4 = d := Option.some.inj hd
      have q5 : (fun v w => IsP B w v (withoutP l k0)) (a'.tmps.getD 50 undef) w' := hp 5 (oDoD5 p) 50 rfl rfl rfl
      exact step_assign rfl rfl rfl rfl ⟨_, rfl, q5, Grew.refl _⟩
    · exact absurd ((Array.getElem?_eq_some_iff.1 ho).1) (by simp [opsDoD])
  · intro a' w' hF hR hp
    have e0 : psiDoD pb q kb ko kc KL ab ao j A L c l k0 u B 0 (a'.tmps.getD 45 undef) w' := hp 0 (oDoD0 p) 45 rfl rfl
    have e1 : psiDoD pb q kb ko kc KL ab ao j A L c l k0 u B 1 (a'.tmps.getD 46 undef) w' := hp 1 (oDoD1 p) 46 rfl rfl
    have e2 : psiDoD pb q kb ko kc KL ab ao j A L c l k0 u B 2 (a'.tmps.getD 47 undef) w' := hp 2 (oDoD2 p) 47 rfl rfl
    have e3 : psiDoD pb q kb ko kc KL ab ao j A L c l k0 u B 3 (a'.tmps.getD 48 undef) w' := hp 3 (oDoD3 p) 48 rfl rfl
    have e4 : psiDoD pb q kb ko kc KL ab ao j A L c l k0 u B 4 (a'.tmps.getD 49 undef) w' := hp 4 (oDoD4 p) 49 rfl rfl
    have e5 : psiDoD pb q kb ko kc KL ab ao j A L c l k0 u B 5 (a'.tmps.getD 50 undef) w' := hp 5 (oDoD5 p) 50 rfl rfl
    have e6 : psiDoD pb q kb ko kc KL ab ao j A L c l k0 u B 6 (a'.tmps.getD 51 undef) w' := hp 6 (oDoD6 p) 51 rfl rfl
    have e7 : psiDoD pb q kb ko kc KL ab ao j A L c l k0 u B 7 (a'.tmps.getD 52 undef) w' := hp 7 (oDoD7 p) 52 rfl rfl
    have e8 : psiDoD pb q kb ko kc KL ab ao j A L c l k0 u B 8 (a'.tmps.getD 53 undef) w' := hp 8 (oDoD8 p) 53 rfl rfl
    have e9 : psiDoD pb q kb ko kc KL ab ao j A L c l k0 u B 9 (a'.tmps.getD 54 undef) w' := hp 9 (oDoD9 p) 54 rfl rfl
    have e10 : psiDoD pb q kb ko kc KL ab ao j A L c l k0 u B 10 (a'.tmps.getD 55 undef) w' := hp 10 (oDoD10 p) 55 rfl rfl
    have e11 : psiDoD pb q kb ko kc KL ab ao j A L c l k0 u B 11 (a'.tmps.getD 56 undef) w' := hp 11 (oDoD11 p) 56 rfl rfl
    have e12 : psiDoD pb q kb ko kc KL ab ao j A L c l k0 u B 12 (a'.tmps.getD 4 undef) w' := hp 12 (oDoD12 p) 4 rfl rfl
    have hput : a' = puts [(45, .slice A L c), (46, .pointer (some ⟨pb, 3, none⟩)), (47, .slice (some ⟨kb, ko, none⟩) KL kc), (48, .pointer (some ⟨kb, ko + 0, none⟩)), (49, .string k0), (50, a'.tmps.getD 50 undef), (51, .slice A L c), (52, .int .i64 (j : Int)), (53, .pointer (some ⟨ab, ao + j * 2, none⟩)), (54, .pointer (some ⟨ab, ao + j * 2 + 1, none⟩)), (55, .string u), (56, .agg #[.int .u8 0, .string u]), (4, a'.tmps.getD 4 undef)] a := hF.puts [(45, .slice A L c), (46, .pointer (some ⟨pb, 3, none⟩)), (47, .slice (some ⟨kb, ko, none⟩) KL kc), (48, .pointer (some ⟨kb, ko + 0, none⟩)), (49, .string k0), (50, a'.tmps.getD 50 undef), (51, .slice A L c), (52, .int .i64 (j : Int)), (53, .pointer (some ⟨ab, ao + j * 2, none⟩)), (54, .pointer (some ⟨ab, ao + j * 2 + 1, none⟩)), (55, .string u), (56, .agg #[.int .u8 0, .string u]), (4, a'.tmps.getD 4 undef)] (by
      intro x hx
      simp only [List.mem_cons, List.not_mem_nil, or_false] at hx
      rcases hx with rfl | rfl | rfl | rfl | rfl | rfl | rfl | rfl | rfl | rfl | rfl | rfl | rfl
      · exact e0
      · exact e1
      · exact e2
      · exact e3
      · exact e4
      · exact rfl
      · exact e6
      · exact e7
      · exact e8
      · exact e9
      · exact e10
      · exact e11
      · exact rfl) rfl (by rw [hN]; rfl)
    have hq' := (hR.undraw.block q (Array.getElem?_eq_some_iff.1 hq).1).trans hq
    have hst := run_stR w' q 0 u hq'
    have hx1 : a'.eval (.tmp 5) = .pointer (some ⟨q, 0, none⟩) := hF.at 5 rfl h5
    have hx2 : a'.eval (.tmp 56) = .agg #[.int .u8 0, .string u] := e11
    refine step_skip (o := oDoDL p) (w' := (w'.setCell ⟨q, 0, none⟩ (.int .u8 0)).setCell ⟨q, 1, none⟩ (.string u)) rfl rfl (by intro c h; cases h) (by simp [Oper.about, oDoDL]) (by
      unfold execOp
      simp only [oDoDL, hx1, hx2, Sem.run_bind, hst, Result.andThen_ok]
      rfl) ?_
    show Q .normal a' _
    rw [hput]
    exact hQ _ _ w' e5 e12 hR.undraw
end Go.Proofs.YtfkdlmokigeemaaGreatDoor
