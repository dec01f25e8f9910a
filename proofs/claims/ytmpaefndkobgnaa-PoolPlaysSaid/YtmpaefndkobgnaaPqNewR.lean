/- The statement of pool.New that makes a pool's parts, whatever its order of evaluation. -/
import Derived.Test.YtmpaefndkobgnaaPqBytes
namespace Go.Proofs.Ytmpaefndkobgnaa
open Go.RowKit

def bufC (n : Nat) : Array Value := madeCells #[.slice none 0 0, .int .u32 0, .bool false] (n * 3)
def intC (n : Nat) : Array Value := madeCells #[.int .i64 0] n
/-- A row that came since block B. -/
def IsMade (t : TypeId) (cs : Array Value) (B n : Nat) (v : Value) (w : World) : Prop := ∃ q, v = .slice (some ⟨q, 0, none⟩) n n ∧ w.heap[q]? = some (.cells cs t (0, 0)) ∧ B ≤ q
theorem IsMade.grew {t : TypeId} {cs : Array Value} {B n : Nat} {v : Value} {w w' : World} (h : IsMade t cs B n v w) (hg : Grew w w') : IsMade t cs B n v w' := by
  obtain ⟨q, h1, h2, h3⟩ := h
  exact ⟨q, h1, (Below.block hg q (Array.getElem?_eq_some_iff.1 h2).1).trans h2, h3⟩
def IsPair (B n : Nat) (v : Value) (w : World) : Prop := ∃ a b, v = .agg #[a, b] ∧ IsMade 59 (bufC n) B n a w ∧ IsMade 3 (intC n) B n b w
theorem IsPair.grew {B n : Nat} {v : Value} {w w' : World} (h : IsPair B n v w) (hg : Grew w w') : IsPair B n v w' := by
  obtain ⟨a, b, h1, h2, h3⟩ := h
  exact ⟨a, b, h1, h2.grew hg, h3.grew hg⟩
def IsNew (B n : Nat) (v : Value) (w : World) : Prop := ∃ R a b, v = .pointer (some ⟨R, 0, none⟩) ∧ w.heap[R]? = some (.cells #[a, b] 57 (0, 0)) ∧ B ≤ R ∧ IsMade 59 (bufC n) B n a w ∧ IsMade 3 (intC n) B n b w
theorem IsNew.grew {B n : Nat} {v : Value} {w w' : World} (h : IsNew B n v w) (hg : Grew w w') : IsNew B n v w' := by
  obtain ⟨R, a, b, h1, h2, h3, h4, h5⟩ := h
  exact ⟨R, a, b, h1, (Below.block hg R (Array.getElem?_eq_some_iff.1 h2).1).trans h2, h3, h4.grew hg, h5.grew hg⟩
theorem infoBuf : ∃ i, Try.prog.info? 59 = some i ∧ i.zero = some (.agg #[.slice none 0 0, .int .u32 0, .bool false]) ∧ i.size = 3 ∧ i.bytes = 32 := by
  have h : (Try.prog.info? 59).map (fun i => (i.zero, i.size, i.bytes)) = some (some (.agg #[.slice none 0 0, .int .u32 0, .bool false]), 3, 32) := by kernel_rfl
  obtain ⟨i, hi, h⟩ := Option.map_eq_some_iff.1 h
  simp only [Prod.mk.injEq] at h
  exact ⟨i, hi, h.1, h.2.1, h.2.2⟩
theorem run_mkB (w : World) (n : Nat) (hn : n ≤ 4096) : (Instr.makeSlice 55 (.int .i64 (n : Int)) (.int .i64 (n : Int))).run Try.prog w = .ok (.slice (some ⟨w.heap.size, 0, none⟩) n n) (w.alloc (.cells (bufC n) 59)) := by
  obtain ⟨i, hi, hz, hs, hb⟩ := infoBuf
  have := run_make (P := Try.prog) w 55 59 i _ Try.underlying55 hi hz .i64 .i64 (n : Int) (n : Int) (by omega) (by omega) (by rw [hb]; omega) (by omega)
  rw [hs] at this
  exact this
theorem run_mkI (w : World) (n : Nat) (hn : n ≤ 4096) : (Instr.makeSlice 47 (.int .i64 (n : Int)) (.int .i64 (n : Int))).run Try.prog w = .ok (.slice (some ⟨w.heap.size, 0, none⟩) n n) (w.alloc (.cells (intC n) 3)) := by
  obtain ⟨i, hi, hz, hs, hb⟩ := infoInt_parts
  have := run_make (P := Try.prog) w 47 3 i _ Try.underlying47 hi hz .i64 .i64 (n : Int) (n : Int) (by omega) (by omega) (by rw [hb]; omega) (by omega)
  rw [hs, Nat.mul_one] at this
  exact this
theorem run_bldP (w : World) (a b : Option Addr) (n m k : Nat) : (Instr.build 57 #[(0, .slice a n m), (1, .slice b n k)]).run Try.prog w = .ok (.agg #[.slice a n m, .slice b n k]) w := by
  simp [go_sem]
theorem run_boxP (w : World) (a b : Value) : (Instr.box 57 (.agg #[a, b])).run Try.prog w = .ok (.pointer (some ⟨w.heap.size, 0, none⟩)) (w.alloc (.cells #[a, b] 57)) := by
  simp [go_sem]

def oPN0 (p : String) : Oper := { dst := some 24, op := Op.move (Operand.tmp 0), type := 3, pos := p, after := #[], guard := none }
def oPN1 (p : String) : Oper := { dst := some 25, op := Op.makeSlice 55 (Operand.tmp 24) (Operand.tmp 24), type := 55, pos := p, after := #[{ on := 0, ground := Ground.data }, { on := 0, ground := Ground.data }], guard := none }
def oPN2 (p : String) : Oper := { dst := some 26, op := Op.move (Operand.tmp 0), type := 3, pos := p, after := #[], guard := none }
def oPN3 (p : String) : Oper := { dst := some 27, op := Op.makeSlice 47 (Operand.tmp 26) (Operand.tmp 26), type := 47, pos := p, after := #[{ on := 2, ground := Ground.data }, { on := 2, ground := Ground.data }], guard := none }
def oPN4 (p : String) : Oper := { dst := some 28, op := Op.build 57 #[(0, Operand.tmp 25), (1, Operand.tmp 27)], type := 57, pos := p, after := #[{ on := 1, ground := Ground.data }, { on := 3, ground := Ground.data }], guard := none }
def oPN5 (p : String) : Oper := { dst := some 29, op := Op.box 57 (Operand.tmp 28), type := 23, pos := p, after := #[{ on := 4, ground := Ground.data }], guard := none }
def oPN6 (p : String) : Oper := { dst := some 6, op := Op.assign (Operand.tmp 29), type := 23, pos := p, after := #[{ on := 5, ground := Ground.data }, { on := 0, ground := Ground.phase }, { on := 1, ground := Ground.phase }, { on := 2, ground := Ground.phase }, { on := 3, ground := Ground.phase }, { on := 4, ground := Ground.phase }, { on := 5, ground := Ground.phase }], guard := none }
def opsPN (p : String) : List Oper := [oPN0 p, oPN1 p, oPN2 p, oPN3 p, oPN4 p, oPN5 p, oPN6 p]
theorem opsPN_back (p : String) : backwards (opsPN p) = true := by kernel_rfl
theorem opsPN_slots (p : String) : slotsOk 67 (opsPN p) = true := by kernel_rfl
/-- What each slot comes to. -/
def psiPN (B n : Nat) : Nat → Value → World → Prop
  | 0, v, _ => v = .int .i64 (n : Int)
  | 1, v, w => IsMade 59 (bufC n) B n v w
  | 2, v, _ => v = .int .i64 (n : Int)
  | 3, v, w => IsMade 3 (intC n) B n v w
  | 4, v, w => IsPair B n v w
  | 5, v, w => IsNew B n v w
  | 6, v, w => IsNew B n v w
  | _, _, _ => True
theorem psiPN_grew (B n : Nat) : ∀ i v w w', psiPN B n i v w → Grew w w' → psiPN B n i v w' := by
  intro i v w w' h hg
  rcases i with _ | _ | _ | _ | _ | _ | _ | i
  · exact h
  · exact IsMade.grew h hg
  · exact h
  · exact IsMade.grew h hg
  · exact IsPair.grew h hg
  · exact IsNew.grew h hg
  · exact IsNew.grew h hg
  · trivial
set_option maxRecDepth 100000 in
set_option maxHeartbeats 4000000 in
theorem new_region {p : String} (B n : Nat) (hn : n ≤ 4096) (a : Act) (w : World) (Q : Exit → Act → World → Prop) (hN : a.tmps.size = 67) (h0 : a.tmps.getD 0 undef = .int .i64 (n : Int)) (hB : B ≤ w.heap.size) (hQ : ∀ (v25 : Value), ∀ (v27 : Value), ∀ (v28 : Value), ∀ (v29 : Value), ∀ (v6 : Value), ∀ (w' : World), (fun v w => IsMade 59 (bufC n) B n v w) v25 w' → (fun v w => IsMade 3 (intC n) B n v w) v27 w' → (fun v w => IsPair B n v w) v28 w' → (fun v w => IsNew B n v w) v29 w' → (fun v w => IsNew B n v w) v6 w' → Grew w w' → Q .normal (puts [(24, .int .i64 (n : Int)), (25, v25), (26, .int .i64 (n : Int)), (27, v27), (28, v28), (29, v29), (6, v6)] a) w')
    : (Code.region 3 (opsPN p).toArray true).wp Try.prog Q a w := by
  refine (wpIn_wide (n := 1)).1 (wpIn_region_vals 67 hN follows (opsPN_back p) (opsPN_slots p) Grew Grew.refl Grew.trans (psiPN B n) (psiPN_grew B n) ?_ ?_)
  · intro i o d ho hd a' w' hF hR hp
    rcases i with _ | _ | _ | _ | _ | _ | _ | i
    · obtain rfl : oPN0 p = o := Option.some.inj ho
      obtain rfl : 24 = d := Option.some.inj hd
      exact step_move rfl rfl rfl (hF.at 0 rfl h0) ⟨_, rfl, rfl, Grew.refl _⟩
    · obtain rfl : oPN1 p = o := Option.some.inj ho
      obtain rfl : 25 = d := Option.some.inj hd
      have q0 : a'.tmps.getD 24 undef = .int .i64 (n : Int) := hp 0 (oPN0 p) 24 rfl rfl rfl
      have hx : a'.eval (.tmp 24) = .int .i64 (n : Int) := q0
      exact step_run (o := oPN1 p) (v := .slice (some ⟨w'.heap.size, 0, none⟩) n n) (w' := w'.alloc (.cells (bufC n) 59)) rfl rfl (by intro c h; cases h) (by simp [Oper.about, oPN1]) (by simp [execOp, oPN1, hx, run_mkB w' n hn]) ⟨_, rfl, ⟨_, rfl, World.alloc_heap_new w' _, Nat.le_trans hB (Below.size hR.undraw)⟩, (Below.refl _ _).alloc (Nat.le_refl _) _⟩
    · obtain rfl : oPN2 p = o := Option.some.inj ho
      obtain rfl : 26 = d := Option.some.inj hd
      exact step_move rfl rfl rfl (hF.at 0 rfl h0) ⟨_, rfl, rfl, Grew.refl _⟩
    · obtain rfl : oPN3 p = o := Option.some.inj ho
      obtain rfl : 27 = d := Option.some.inj hd
      have q2 : a'.tmps.getD 26 undef = .int .i64 (n : Int) := hp 2 (oPN2 p) 26 rfl rfl rfl
      have hx : a'.eval (.tmp 26) = .int .i64 (n : Int) := q2
      exact step_run (o := oPN3 p) (v := .slice (some ⟨w'.heap.size, 0, none⟩) n n) (w' := w'.alloc (.cells (intC n) 3)) rfl rfl (by intro c h; cases h) (by simp [Oper.about, oPN3]) (by simp [execOp, oPN3, hx, run_mkI w' n hn]) ⟨_, rfl, ⟨_, rfl, World.alloc_heap_new w' _, Nat.le_trans hB (Below.size hR.undraw)⟩, (Below.refl _ _).alloc (Nat.le_refl _) _⟩
    · obtain rfl : oPN4 p = o := Option.some.inj ho
      obtain rfl : 28 = d := Option.some.inj hd
      have q1 : (fun v w => IsMade 59 (bufC n) B n v w) (a'.tmps.getD 25 undef) w' := hp 1 (oPN1 p) 25 rfl rfl rfl
      have q3 : (fun v w => IsMade 3 (intC n) B n v w) (a'.tmps.getD 27 undef) w' := hp 3 (oPN3 p) 27 rfl rfl rfl
      have q1' : IsMade 59 (bufC n) B n (a'.tmps.getD 25 undef) w' := q1
      have q3' : IsMade 3 (intC n) B n (a'.tmps.getD 27 undef) w' := q3
      obtain ⟨qa, ea, ha, ba⟩ := id q1'
      obtain ⟨qb, eb, hb, bb⟩ := id q3'
      have hxa : a'.eval (.tmp 25) = .slice (some ⟨qa, 0, none⟩) n n := ea
      have hxb : a'.eval (.tmp 27) = .slice (some ⟨qb, 0, none⟩) n n := eb
      exact step_run (o := oPN4 p) (v := .agg #[.slice (some ⟨qa, 0, none⟩) n n, .slice (some ⟨qb, 0, none⟩) n n]) (w' := w') rfl rfl (by intro c h; cases h) (by simp [Oper.about, oPN4]) (by simp [execOp, oPN4, hxa, hxb, run_bldP]) ⟨_, rfl, ⟨_, _, rfl, ⟨qa, rfl, ha, ba⟩, ⟨qb, rfl, hb, bb⟩⟩, Grew.refl _⟩
    · obtain rfl : oPN5 p = o := Option.some.inj ho
      obtain rfl : 29 = d := Option.some.inj hd
      have q4 : (fun v w => IsPair B n v w) (a'.tmps.getD 28 undef) w' := hp 4 (oPN4 p) 28 rfl rfl rfl
      have q4' : IsPair B n (a'.tmps.getD 28 undef) w' := q4
      obtain ⟨va, vb, e4, ha, hb⟩ := id q4'
      have hx : a'.eval (.tmp 28) = .agg #[va, vb] := e4
      have hg : Grew w' (w'.alloc (.cells #[va, vb] 57)) := (Below.refl _ _).alloc (Nat.le_refl _) _
      exact step_run (o := oPN5 p) (v := .pointer (some ⟨w'.heap.size, 0, none⟩)) (w' := w'.alloc (.cells #[va, vb] 57)) rfl rfl (by intro c h; cases h) (by simp [Oper.about, oPN5]) (by simp [execOp, oPN5, hx, run_boxP]) ⟨_, rfl, ⟨_, va, vb, rfl, World.alloc_heap_new w' _, Nat.le_trans hB (Below.size hR.undraw), ha.grew hg, hb.grew hg⟩, hg⟩
    · obtain rfl : oPN6 p = o := Option.some.inj ho
      obtain rfl : 6 = d := Option.some.inj hd
      have q5 : (fun v w => IsNew B n v w) (a'.tmps.getD 29 undef) w' := hp 5 (oPN5 p) 29 rfl rfl rfl
      exact step_assign rfl rfl rfl rfl ⟨_, rfl, q5, Grew.refl _⟩
    · exact absurd ((Array.getElem?_eq_some_iff.1 ho).1) (by simp [opsPN])
  · intro a' w' hF hR hp
    have e0 : psiPN B n 0 (a'.tmps.getD 24 undef) w' := hp 0 (oPN0 p) 24 rfl rfl
    have e1 : psiPN B n 1 (a'.tmps.getD 25 undef) w' := hp 1 (oPN1 p) 25 rfl rfl
    have e2 : psiPN B n 2 (a'.tmps.getD 26 undef) w' := hp 2 (oPN2 p) 26 rfl rfl
    have e3 : psiPN B n 3 (a'.tmps.getD 27 undef) w' := hp 3 (oPN3 p) 27 rfl rfl
    have e4 : psiPN B n 4 (a'.tmps.getD 28 undef) w' := hp 4 (oPN4 p) 28 rfl rfl
    have e5 : psiPN B n 5 (a'.tmps.getD 29 undef) w' := hp 5 (oPN5 p) 29 rfl rfl
    have e6 : psiPN B n 6 (a'.tmps.getD 6 undef) w' := hp 6 (oPN6 p) 6 rfl rfl
    rw [hF.puts [(24, .int .i64 (n : Int)), (25, a'.tmps.getD 25 undef), (26, .int .i64 (n : Int)), (27, a'.tmps.getD 27 undef), (28, a'.tmps.getD 28 undef), (29, a'.tmps.getD 29 undef), (6, a'.tmps.getD 6 undef)] ?_ rfl (by rw [hN]; rfl)]
    · exact hQ _ _ _ _ _ w' e1 e3 e4 e5 e6 hR.undraw
    · intro x hx
      simp only [List.mem_cons, List.not_mem_nil, or_false] at hx
      rcases hx with rfl | rfl | rfl | rfl | rfl | rfl | rfl
      · exact e0
      · exact rfl
      · exact e2
      · exact rfl
      · exact rfl
      · exact rfl
      · exact rfl
end Go.Proofs.Ytmpaefndkobgnaa
