/- The law CmdTakes: the statement that reads a byte and holds it, whatever its order of evaluation. -/
import Derived.Test.YtfaplmpenlbajaaDoorCmWakes
import Derived.Test.YtfaplmpenlbajaaDoorRdB
import Derived.Test.YtfaplmpenlbajaaDoorRdD
namespace Go.Proofs.YtfaplmpenlbajaaDoor
open Go.RowKit

theorem run_ixB (w : World) (b o L c q : Nat) (h : q < L) : (Instr.indexAt 29 (.slice (some ⟨b, o, none⟩) L c) (.int .i64 (q : Int))).run Tryd.prog w = .ok (.pointer (some ⟨b, o + q, none⟩)) w := by
  have h1 : (0 : Int) ≤ q := by omega
  have h2 : (q : Int) < L := by omega
  simp [go_sem, h1, h2]
theorem run_ldU8 (w : World) (q : Addr) (x : UInt8) (h : w.cell? q = some (enc x)) : (Instr.loadAt 5 (.pointer (some q))).run Tryd.prog w = .ok (.int .u8 (x.toNat : Int)) w := by
  simp [go_sem, h, enc]
theorem run_neU (w : World) (x y : Int) : (binOp .neq 5 (.int .u8 x) (.int .u8 y)).run Tryd.prog w = .ok (.bool (x != y)) w := by
  simp [go_sem]
def oTB0 (p : String) : Oper := { dst := some 44, op := Op.move (Operand.tmp 5), type := 39, pos := p, after := #[], guard := none }
def oTB1 (p : String) : Oper := { dst := some 45, op := Op.call { callee := Callee.value (Operand.func 19), args := #[Operand.tmp 44], argTypes := #[39] }, type := 5, pos := p, after := #[{ on := 0, ground := Ground.data }], guard := none }
def oTB2 (p : String) : Oper := { dst := some 46, op := Op.move (Operand.tmp 1), type := 29, pos := p, after := #[], guard := none }
def oTB3 (p : String) : Oper := { dst := some 47, op := Op.move (Operand.tmp 7), type := 3, pos := p, after := #[], guard := none }
def oTB4 (p : String) : Oper := { dst := some 48, op := Op.indexAddr 29 (Operand.tmp 46) (Operand.tmp 47), type := 0, pos := p, after := #[{ on := 2, ground := Ground.data }, { on := 3, ground := Ground.data }], guard := none }
def oTB5 (p : String) : Oper := { dst := some 49, op := Op.load 5 (Operand.tmp 48), type := 5, pos := p, after := #[{ on := 4, ground := Ground.data }], guard := none }
def oTB6 (p : String) : Oper := { dst := some 50, op := Op.binOp BinOp.neq 5 (Operand.tmp 45) (Operand.tmp 49) 5, type := 4, pos := p, after := #[{ on := 1, ground := Ground.data }, { on := 5, ground := Ground.data }], guard := none }
def opsTB (p : String) : List Oper := [oTB0 p, oTB1 p, oTB2 p, oTB3 p, oTB4 p, oTB5 p, oTB6 p]
theorem opsTB_back (p : String) : backwards (opsTB p) = true := by kernel_rfl
theorem opsTB_slots (p : String) : slotsOk 57 (opsTB p) = true := by kernel_rfl
/-- What each slot comes to. -/
def psiTB (_w0 : World) (R b o M c k : Nat) (x : UInt8) (_rest : List UInt8) (_L : Nat → Bool) : Nat → Value → World → Prop
  | 0, v, _ => v = .pointer (some ⟨R, 0, none⟩)
  | 1, v, _ => v = .int .u8 (x.toNat : Int)
  | 2, v, _ => v = .slice (some ⟨b, o, none⟩) M c
  | 3, v, _ => v = .int .i64 (k : Int)
  | 4, v, _ => v = .pointer (some ⟨b, o + k, none⟩)
  | 5, v, _ => v = .int .u8 (x.toNat : Int)
  | 6, v, _ => v = .bool false
  | _, _, _ => True
def wsTB (w0 : World) (R _b _o _M _c _k : Nat) (x : UInt8) (rest : List UInt8) (_W0 : World) (L : Nat → Bool) (w : World) : Prop := Below w0.heap.size w0 w ∧ RdQ w R 64 (if L 1 = true then ⟨0, rest⟩ else ⟨0, x :: rest⟩)
theorem psiTB_same (w0 : World) (R b o M c k : Nat) (x : UInt8) (rest : List UInt8) : ∀ (L : Nat → Bool) (i j : Nat) (u : Value) (w : World), psiTB w0 R b o M c k x rest L j u w → psiTB w0 R b o M c k x rest (andI L i) j u w := by
  intro L i j u w h
  rcases j with _ | _ | _ | _ | _ | _ | _ | j
  · exact h
  · exact h
  · exact h
  · exact h
  · exact h
  · exact h
  · exact h
  · trivial
theorem wsTB_same (w0 : World) (R b o M c k : Nat) (x : UInt8) (rest : List UInt8) : ∀ (W0 : World) (L : Nat → Bool) (i : Nat) (w : World), i ≠ 1 → wsTB w0 R b o M c k x rest W0 L w → wsTB w0 R b o M c k x rest W0 (andI L i) w := by
  intro W0 L i w n1 h
  have e : ∀ k, k ≠ i → andI L i k = L k := fun k hk => by simp [andI, hk]
  unfold wsTB at h ⊢
  rw [e 1 (Ne.symm n1)]
  exact h
theorem psiTB_any (w0 : World) (R b o M c k : Nat) (x : UInt8) (rest : List UInt8) {L L' : Nat → Bool} {j : Nat} {u : Value} {w w' : World} (h : psiTB w0 R b o M c k x rest L j u w) : psiTB w0 R b o M c k x rest L' j u w' := by
  rcases j with _ | _ | _ | _ | _ | _ | _ | j
  all_goals first | exact h | trivial
set_option maxRecDepth 100000 in
set_option maxHeartbeats 4000000 in
theorem takes_byte {p : String} (w0 : World) (R b o M c k : Nat) (x : UInt8) (rest : List UInt8) (hk : k < M) (hR0 : w0.heap.size ≤ R) (a : Act) (w : World) (Q : Exit → Act → World → Prop) (hN : a.tmps.size = 57) (h1 : a.tmps.getD 1 undef = .slice (some ⟨b, o, none⟩) M c) (h5 : a.tmps.getD 5 undef = .pointer (some ⟨R, 0, none⟩)) (h7 : a.tmps.getD 7 undef = .int .i64 (k : Int)) (hb0 : Below w0.heap.size w0 w) (hq : RdQ w R 64 ⟨0, x :: rest⟩) (hbl : b < w0.heap.size) (hx : w0.cell? ⟨b, o + k, none⟩ = some (enc x)) (hQ : ∀ (w' : World), (Below w0.heap.size w0 w' ∧ RdQ w' R 64 ⟨0, rest⟩) → Q .normal (puts [(44, .pointer (some ⟨R, 0, none⟩)), (45, .int .u8 (x.toNat : Int)), (46, .slice (some ⟨b, o, none⟩) M c), (47, .int .i64 (k : Int)), (48, .pointer (some ⟨b, o + k, none⟩)), (49, .int .u8 (x.toNat : Int)), (50, .bool false)] a) w')
    : (Code.region 10 (opsTB p).toArray true).wp Tryd.prog Q a w := by
  refine (wpIn_wide (n := 1)).1 (wpIn_region_st 57 hN follows (opsTB_back p) (opsTB_slots p) (wsTB w0 R b o M c k x rest w) (psiTB w0 R b o M c k x rest) (⟨hb0.drew, by rw [if_neg (by simp)]; exact hq.below ((Below.refl _ _).drew)⟩) ?_ ?_)
  · intro L i o d a' w' ho hd hLi hdep hcl hF hW hp
    rcases i with _ | _ | _ | _ | _ | _ | _ | i
    · obtain rfl : oTB0 p = o := Option.some.inj ho
      obtain rfl : 44 = d := Option.some.inj hd
      exact step_move rfl rfl rfl (hF.at 5 rfl h5) ⟨_, rfl, rfl, wsTB_same _ _ _ _ _ _ _ _ _  _ _ _ _ (by decide) hW, fun j u _ h => psiTB_same _ _ _ _ _ _ _ _ _  _ _ _ _ _ h⟩
    · obtain rfl : oTB1 p = o := Option.some.inj ho
      obtain rfl : 45 = d := Option.some.inj hd
      have q0 : a'.tmps.getD 44 undef = .pointer (some ⟨R, 0, none⟩) := hp 0 (oTB0 p) 44 (hdep 0 rfl) rfl rfl
      obtain ⟨h1, h2⟩ := hW
      rw [if_neg (by rw [hLi]; simp)] at h2
      refine step_callC rfl rfl rfl (enters_of Tryd.func19 (by kernel_rfl) rfl) (show Array.map a'.eval #[.tmp 44] = _ from by simp only [List.map_toArray, List.map_cons, List.map_nil, Act.eval, q0]) ((ByteR_q h2).mono ?_)
      rintro e w'' ⟨rfl, hq, hg⟩
      exact ⟨_, rfl, _, rfl, rfl, ⟨below_grown h1 h1.size hR0 hg, by rw [if_pos (andI_self _ _)]; exact hq⟩, fun j u _ h => psiTB_any _ _ _ _ _ _ _ _ _  h⟩
    · obtain rfl : oTB2 p = o := Option.some.inj ho
      obtain rfl : 46 = d := Option.some.inj hd
      exact step_move rfl rfl rfl (hF.at 1 rfl h1) ⟨_, rfl, rfl, wsTB_same _ _ _ _ _ _ _ _ _  _ _ _ _ (by decide) hW, fun j u _ h => psiTB_same _ _ _ _ _ _ _ _ _  _ _ _ _ _ h⟩
    · obtain rfl : oTB3 p = o := Option.some.inj ho
      obtain rfl : 47 = d := Option.some.inj hd
      exact step_move rfl rfl rfl (hF.at 7 rfl h7) ⟨_, rfl, rfl, wsTB_same _ _ _ _ _ _ _ _ _  _ _ _ _ (by decide) hW, fun j u _ h => psiTB_same _ _ _ _ _ _ _ _ _  _ _ _ _ _ h⟩
    · obtain rfl : oTB4 p = o := Option.some.inj ho
      obtain rfl : 48 = d := Option.some.inj hd
      have q2 : a'.tmps.getD 46 undef = .slice (some ⟨b, o, none⟩) M c := hp 2 (oTB2 p) 46 (hdep 2 rfl) rfl rfl
      have q3 : a'.tmps.getD 47 undef = .int .i64 (k : Int) := hp 3 (oTB3 p) 47 (hdep 3 rfl) rfl rfl
      exact step_index rfl rfl rfl q2 q3 (run_ixB _ _ _ _ _ _ hk) ⟨_, rfl, rfl, wsTB_same _ _ _ _ _ _ _ _ _  _ _ _ _ (by decide) hW, fun j u _ h => psiTB_same _ _ _ _ _ _ _ _ _  _ _ _ _ _ h⟩
    · obtain rfl : oTB5 p = o := Option.some.inj ho
      obtain rfl : 49 = d := Option.some.inj hd
      have q4 : a'.tmps.getD 48 undef = .pointer (some ⟨b, o + k, none⟩) := hp 4 (oTB4 p) 48 (hdep 4 rfl) rfl rfl
      exact step_load rfl rfl rfl q4 (run_ldU8 _ _ _ ((hW.1.cell (p := ⟨b, o + k, none⟩) hbl).trans hx)) ⟨_, rfl, rfl, wsTB_same _ _ _ _ _ _ _ _ _  _ _ _ _ (by decide) hW, fun j u _ h => psiTB_same _ _ _ _ _ _ _ _ _  _ _ _ _ _ h⟩
    · obtain rfl : oTB6 p = o := Option.some.inj ho
      obtain rfl : 50 = d := Option.some.inj hd
      have q1 : a'.tmps.getD 45 undef = .int .u8 (x.toNat : Int) := hp 1 (oTB1 p) 45 (hdep 1 rfl) rfl rfl
      have q5 : a'.tmps.getD 49 undef = .int .u8 (x.toNat : Int) := hp 5 (oTB5 p) 49 (hdep 5 rfl) rfl rfl
      exact step_bin rfl rfl rfl q1 q5 (guard_int _ _ _ _ _ _ _ _ _) ((run_neU _ _ _).trans (by simp)) ⟨_, rfl, rfl, wsTB_same _ _ _ _ _ _ _ _ _  _ _ _ _ (by decide) hW, fun j u _ h => psiTB_same _ _ _ _ _ _ _ _ _  _ _ _ _ _ h⟩
    · exact absurd ((Array.getElem?_eq_some_iff.1 ho).1) (by simp [opsTB])
  · intro L a' w' hLall hF hW hp
    have e0 : psiTB w0 R b o M c k x rest L 0 (a'.tmps.getD 44 undef) w' := hp 0 (oTB0 p) 44 rfl rfl
    have e1 : psiTB w0 R b o M c k x rest L 1 (a'.tmps.getD 45 undef) w' := hp 1 (oTB1 p) 45 rfl rfl
    have e2 : psiTB w0 R b o M c k x rest L 2 (a'.tmps.getD 46 undef) w' := hp 2 (oTB2 p) 46 rfl rfl
    have e3 : psiTB w0 R b o M c k x rest L 3 (a'.tmps.getD 47 undef) w' := hp 3 (oTB3 p) 47 rfl rfl
    have e4 : psiTB w0 R b o M c k x rest L 4 (a'.tmps.getD 48 undef) w' := hp 4 (oTB4 p) 48 rfl rfl
    have e5 : psiTB w0 R b o M c k x rest L 5 (a'.tmps.getD 49 undef) w' := hp 5 (oTB5 p) 49 rfl rfl
    have e6 : psiTB w0 R b o M c k x rest L 6 (a'.tmps.getD 50 undef) w' := hp 6 (oTB6 p) 50 rfl rfl
    rw [hF.puts [(44, .pointer (some ⟨R, 0, none⟩)), (45, .int .u8 (x.toNat : Int)), (46, .slice (some ⟨b, o, none⟩) M c), (47, .int .i64 (k : Int)), (48, .pointer (some ⟨b, o + k, none⟩)), (49, .int .u8 (x.toNat : Int)), (50, .bool false)] ?_ rfl (by rw [hN]; rfl)]
    · exact hQ  w'  (by obtain ⟨h1, h2⟩ := hW; rw [if_pos (hLall 1 (by simp [opsTB]))] at h2; exact ⟨h1, h2⟩)
    · intro x hx
      simp only [List.mem_cons, List.not_mem_nil, or_false] at hx
      rcases hx with rfl | rfl | rfl | rfl | rfl | rfl | rfl
      · exact e0
      · exact e1
      · exact e2
      · exact e3
      · exact e4
      · exact e5
      · exact e6
end Go.Proofs.YtfaplmpenlbajaaDoor
