/- The statement of the law that what is synced stays that reads the disk ahead of an act, whatever its order of evaluation. -/
import Derived.Test.YteiednjhliobeaaDkMath
namespace Go.Proofs.Yteiednjhliobeaa
open Go.RowKit

section
variable {n : Nat} {Q : Exit → Act → World → Prop} {ops : Array Oper} {i : Nat} {o : Oper} {a : Act} {w : World} {K : Act → World → Prop}
theorem step_callP {f : FuncId} {xs : Array Operand} {ts : Array TypeId} {vs : Array Value} (hi : ops[i]? = some o) (hw : Region.wanted o (yielded ops a.tmps) = true)
    (ho : o.op = .call { callee := .value (.func f), args := xs, argTypes := ts }) (eg : ∀ args w, (callFunc f args).run Try.prog w = .ok (.enter f args) w) (hxs : xs.map a.eval = vs) (hc : Calls Try.prog f vs w fun e w' => ∃ v, e = .returned v ∧ K (a.put o.dst v) w') : wpOpIn Fence.wide n Try.prog ops Q i K a w := by
  refine step_call hi hw ho trivial (fun h => by cases h) eg ?_
  rw [hxs]
  exact callsIn_wide.2 hc
end
def oK90 (p : String) : Oper := { dst := some 28, op := Op.move (Operand.tmp 3), type := 25, pos := p, after := #[], guard := none }
def oK91 (p : String) : Oper := { dst := some 29, op := Op.call { callee := Callee.value (Operand.func 7), args := #[Operand.tmp 28], argTypes := #[25] }, type := 27, pos := p, after := #[{ on := 0, ground := Ground.data }], guard := none }
def oK92 (p : String) : Oper := { dst := some 30, op := Op.convert 27 9 (Operand.tmp 29), type := 9, pos := p, after := #[{ on := 1, ground := Ground.data }], guard := none }
def oK93 (p : String) : Oper := { dst := some 31, op := Op.move (Operand.tmp 3), type := 25, pos := p, after := #[], guard := none }
def oK94 (p : String) : Oper := { dst := some 32, op := Op.call { callee := Callee.value (Operand.func 8), args := #[Operand.tmp 31], argTypes := #[25] }, type := 4, pos := p, after := #[{ on := 3, ground := Ground.data }, { on := 1, ground := Ground.chain }], guard := none }
def oK95 (p : String) : Oper := { dst := some 6, op := Op.assign (Operand.tmp 30), type := 9, pos := p, after := #[{ on := 2, ground := Ground.data }, { on := 4, ground := Ground.chain }, { on := 0, ground := Ground.phase }, { on := 1, ground := Ground.phase }, { on := 2, ground := Ground.phase }, { on := 3, ground := Ground.textOnly Departure.lateStores }, { on := 4, ground := Ground.textOnly Departure.lateStoresUnsure }], guard := none }
def oK96 (p : String) : Oper := { dst := some 7, op := Op.assign (Operand.tmp 32), type := 4, pos := p, after := #[{ on := 4, ground := Ground.data }, { on := 5, ground := Ground.chain }, { on := 0, ground := Ground.phase }, { on := 1, ground := Ground.phase }, { on := 2, ground := Ground.phase }, { on := 3, ground := Ground.phase }, { on := 4, ground := Ground.phase }, { on := 5, ground := Ground.phase }], guard := none }
def opsK9 (p : String) : List Oper := [oK90 p, oK91 p, oK92 p, oK93 p, oK94 p, oK95 p, oK96 p]
theorem opsK9_back (p : String) : backwards (opsK9 p) = true := by kernel_rfl
theorem opsK9_slots (p : String) : slotsOk 176 (opsK9 p) = true := by kernel_rfl
/-- What each slot comes to. -/
def psiK9 (P : DiskK) (w0 : World) (R : Nat) (s : DS) : Nat → Value → World → Prop
  | 0, v, _ => v = .pointer (some ⟨R, 0, none⟩)
  | 1, v, w => IsB w v (s.A)
  | 2, v, _ => v = .string (str (s.A))
  | 3, v, _ => v = .pointer (some ⟨R, 0, none⟩)
  | 4, v, _ => v = .bool s.dead
  | 5, v, _ => v = .string (str (s.A))
  | 6, v, _ => v = .bool s.dead
  | _, _, _ => True
theorem psiK9_grew (P : DiskK) (w0 : World) (R : Nat) (s : DS) : ∀ i v w w', psiK9 P w0 R s i v w → Grew w w' → psiK9 P w0 R s i v w' := by
  intro i v w w' h hg
  rcases i with _ | _ | _ | _ | _ | _ | _ | i
  · exact h
  · exact IsB.grew h hg
  · exact h
  · exact h
  · exact h
  · exact h
  · exact h
  · trivial
set_option maxRecDepth 100000 in
set_option maxHeartbeats 4000000 in
theorem keeps_before {p : String} (P : DiskK) (w0 : World) (R : Nat) (s : DS)  (a : Act) (w : World) (Q : Exit → Act → World → Prop) (hN : a.tmps.size = 176) (h3 : a.tmps.getD 3 undef = .pointer (some ⟨R, 0, none⟩)) (hl : LiveD P w0 R s w) (hQ : ∀ (v29 : Value), ∀ (w' : World), IsB w' v29 (s.A) → Grew w w' → Q .normal (puts [(28, .pointer (some ⟨R, 0, none⟩)), (29, v29), (30, .string (str (s.A))), (31, .pointer (some ⟨R, 0, none⟩)), (32, .bool s.dead), (6, .string (str (s.A))), (7, .bool s.dead)] a) w')
    : (Code.region 9 (opsK9 p).toArray true).wp Try.prog Q a w := by
  refine (wpIn_wide (n := 1)).1 (wpIn_region_vals 176 hN follows (opsK9_back p) (opsK9_slots p) Grew Grew.refl Grew.trans (psiK9 P w0 R s) (psiK9_grew P w0 R s) ?_ ?_)
  · intro i o d ho hd a' w' hF hR hp
    rcases i with _ | _ | _ | _ | _ | _ | _ | i
    · obtain rfl : oK90 p = o := Option.some.inj ho
      obtain rfl : 28 = d := Option.some.inj hd
      exact step_move rfl rfl rfl (hF.at 3 rfl h3) ⟨_, rfl, rfl, Grew.refl _⟩
    · obtain rfl : oK91 p = o := Option.some.inj ho
      obtain rfl : 29 = d := Option.some.inj hd
      have q0 : a'.tmps.getD 28 undef = .pointer (some ⟨R, 0, none⟩) := hp 0 (oK90 p) 28 rfl rfl rfl
      refine step_callP rfl rfl rfl (enters_of Try.func7 (by kernel_rfl) rfl) (show Array.map a'.eval #[.tmp 28] = _ from by simp only [List.map_toArray, List.map_cons, List.map_nil, Act.eval, q0]) ((LiveD.bytes (hl.grew hR.undraw)).mono ?_)
      rintro e w'' ⟨v, L, rfl, ho, _, hb⟩
      exact ⟨_, rfl, _, rfl, IsB.own ho, hb⟩
    · obtain rfl : oK92 p = o := Option.some.inj ho
      obtain rfl : 30 = d := Option.some.inj hd
      have q1 : IsB w' (a'.tmps.getD 29 undef) (s.A) := hp 1 (oK91 p) 29 rfl rfl rfl
      exact step_conv rfl rfl rfl (show IsB w' (a'.tmps.getD 29 undef) _ from q1) ⟨_, rfl, rfl, Grew.refl _⟩
    · obtain rfl : oK93 p = o := Option.some.inj ho
      obtain rfl : 31 = d := Option.some.inj hd
      exact step_move rfl rfl rfl (hF.at 3 rfl h3) ⟨_, rfl, rfl, Grew.refl _⟩
    · obtain rfl : oK94 p = o := Option.some.inj ho
      obtain rfl : 32 = d := Option.some.inj hd
      have q3 : a'.tmps.getD 31 undef = .pointer (some ⟨R, 0, none⟩) := hp 3 (oK93 p) 31 rfl rfl rfl
      refine step_callP rfl rfl rfl (enters_of Try.func8 (by kernel_rfl) rfl) (show Array.map a'.eval #[.tmp 31] = _ from by simp only [List.map_toArray, List.map_cons, List.map_nil, Act.eval, q3]) ((LiveD.isdead (hl.grew hR.undraw)).mono ?_)
      rintro e w'' ⟨rfl, _, hb⟩
      exact ⟨_, rfl, _, rfl, rfl, hb⟩
    · obtain rfl : oK95 p = o := Option.some.inj ho
      obtain rfl : 6 = d := Option.some.inj hd
      have q2 : a'.tmps.getD 30 undef = .string (str (s.A)) := hp 2 (oK92 p) 30 rfl rfl rfl
      exact step_assign rfl rfl rfl q2 ⟨_, rfl, rfl, Grew.refl _⟩
    · obtain rfl : oK96 p = o := Option.some.inj ho
      obtain rfl : 7 = d := Option.some.inj hd
      have q4 : a'.tmps.getD 32 undef = .bool s.dead := hp 4 (oK94 p) 32 rfl rfl rfl
      exact step_assign rfl rfl rfl q4 ⟨_, rfl, rfl, Grew.refl _⟩
    · exact absurd ((Array.getElem?_eq_some_iff.1 ho).1) (by simp [opsK9])
  · intro a' w' hF hR hp
    have e0 : psiK9 P w0 R s 0 (a'.tmps.getD 28 undef) w' := hp 0 (oK90 p) 28 rfl rfl
    have e1 : psiK9 P w0 R s 1 (a'.tmps.getD 29 undef) w' := hp 1 (oK91 p) 29 rfl rfl
    have e2 : psiK9 P w0 R s 2 (a'.tmps.getD 30 undef) w' := hp 2 (oK92 p) 30 rfl rfl
    have e3 : psiK9 P w0 R s 3 (a'.tmps.getD 31 undef) w' := hp 3 (oK93 p) 31 rfl rfl
    have e4 : psiK9 P w0 R s 4 (a'.tmps.getD 32 undef) w' := hp 4 (oK94 p) 32 rfl rfl
    have e5 : psiK9 P w0 R s 5 (a'.tmps.getD 6 undef) w' := hp 5 (oK95 p) 6 rfl rfl
    have e6 : psiK9 P w0 R s 6 (a'.tmps.getD 7 undef) w' := hp 6 (oK96 p) 7 rfl rfl
    rw [hF.puts [(28, .pointer (some ⟨R, 0, none⟩)), (29, a'.tmps.getD 29 undef), (30, .string (str (s.A))), (31, .pointer (some ⟨R, 0, none⟩)), (32, .bool s.dead), (6, .string (str (s.A))), (7, .bool s.dead)] ?_ rfl (by rw [hN]; rfl)]
    · exact hQ _ w' e1 hR.undraw
    · intro x hx
      simp only [List.mem_cons, List.not_mem_nil, or_false] at hx
      rcases hx with rfl | rfl | rfl | rfl | rfl | rfl | rfl
      · exact e0
      · exact rfl
      · exact e2
      · exact e3
      · exact e4
      · exact e5
      · exact e6
end Go.Proofs.Yteiednjhliobeaa
