/- The first test of the law VarintOne, whatever its order of evaluation. -/
import Derived.Test.YtmphgahkeoaplaaSteps
namespace Go.Proofs.Ytmphgahkeoaplaa
open Go.RowKit

def oR50 (p : String) : Oper := { dst := some 17, op := Op.move (Operand.tmp 7), type := 32, pos := p, after := #[], guard := none }
def oR51 (p : String) : Oper := { dst := some 18, op := Op.call { callee := Callee.value (Operand.func 18), args := #[Operand.tmp 17], argTypes := #[32] }, type := 38, pos := p, after := #[{ on := 0, ground := Ground.data }], guard := none }
def oR52 (p : String) : Oper := { dst := some 19, op := Op.binOp BinOp.eql 38 (Operand.tmp 18) (Operand.const (Value.int IntKind.i64 0)) 38, type := 4, pos := p, after := #[{ on := 1, ground := Ground.data }], guard := none }
def oR53 (p : String) : Oper := { dst := some 20, op := Op.move (Operand.tmp 19), type := 4, pos := p, after := #[{ on := 2, ground := Ground.data }, { on := 1, ground := Ground.chain }], guard := none }
def oR54 (p : String) : Oper := { dst := some 21, op := Op.move (Operand.tmp 8), type := 23, pos := p, after := #[{ on := 3, ground := Ground.guard }], guard := some (3, true) }
def oR55 (p : String) : Oper := { dst := some 22, op := Op.call { callee := Callee.value (Operand.func 7), args := #[Operand.const (Value.slice none 0 0), Operand.tmp 21], argTypes := #[22, 23] }, type := 22, pos := p, after := #[{ on := 4, ground := Ground.data }, { on := 3, ground := Ground.chain }, { on := 3, ground := Ground.guard }], guard := some (3, true) }
def oR56 (p : String) : Oper := { dst := some 23, op := Op.convert 22 9 (Operand.tmp 22), type := 9, pos := p, after := #[{ on := 5, ground := Ground.data }, { on := 3, ground := Ground.guard }], guard := some (3, true) }
def oR57 (p : String) : Oper := { dst := some 24, op := Op.move (Operand.tmp 0), type := 22, pos := p, after := #[{ on := 3, ground := Ground.guard }], guard := some (3, true) }
def oR58 (p : String) : Oper := { dst := some 25, op := Op.convert 22 9 (Operand.tmp 24), type := 9, pos := p, after := #[{ on := 7, ground := Ground.data }, { on := 3, ground := Ground.guard }], guard := some (3, true) }
def oR59 (p : String) : Oper := { dst := some 26, op := Op.binOp BinOp.neq 9 (Operand.tmp 23) (Operand.tmp 25) 9, type := 4, pos := p, after := #[{ on := 6, ground := Ground.data }, { on := 8, ground := Ground.data }, { on := 3, ground := Ground.guard }], guard := some (3, true) }
def oR510 (p : String) : Oper := { dst := some 27, op := Op.pick (Operand.tmp 20) (Operand.tmp 26) (Operand.const (Value.bool false)), type := 4, pos := p, after := #[{ on := 3, ground := Ground.data }, { on := 9, ground := Ground.data }], guard := none }
def opsR5 (p : String) : List Oper := [oR50 p, oR51 p, oR52 p, oR53 p, oR54 p, oR55 p, oR56 p, oR57 p, oR58 p, oR59 p, oR510 p]
theorem opsR5_back (p : String) : backwards (opsR5 p) = true := by kernel_rfl
theorem opsR5_slots (p : String) : slotsOk 42 (opsR5 p) = true := by kernel_rfl
/-- What each slot comes to. -/
def psiR5 (R : Nat) (x : Nat) (A : Option Addr) (L c : Nat) (B : List UInt8) : Nat → Value → World → Prop
  | 0, v, _ => v = .pointer (some ⟨R, 0, none⟩)
  | 1, v, _ => v = .int .i64 0
  | 2, v, _ => v = .bool true
  | 3, v, _ => v = .bool true
  | 4, v, _ => v = .int .u64 (x : Int)
  | 5, v, w => IsB w v (vb x)
  | 6, v, _ => v = .string (str (vb x))
  | 7, v, _ => v = .slice A L c
  | 8, v, _ => v = .string (str B)
  | 9, v, _ => v = .bool false
  | 10, v, _ => v = .bool false
  | _, _, _ => True
theorem psiR5_grew (R : Nat) (x : Nat) (A : Option Addr) (L c : Nat) (B : List UInt8) : ∀ i v w w', psiR5 R x A L c B i v w → Grew w w' → psiR5 R x A L c B i v w' := by
  intro i v w w' h hg
  rcases i with _ | _ | _ | _ | _ | _ | _ | _ | _ | _ | _ | i
  · exact h
  · exact h
  · exact h
  · exact h
  · exact h
  · exact IsB.grew h hg
  · exact h
  · exact h
  · exact h
  · exact h
  · exact h
  · trivial
set_option maxRecDepth 100000 in
set_option maxHeartbeats 4000000 in
theorem one_region5 {p : String} (R : Nat) (x : Nat) (A : Option Addr) (L c : Nat) (B : List UInt8) (hx : x < 18446744073709551616) (hBx : B = vb x) (a : Act) (w : World) (Q : Exit → Act → World → Prop) (hN : a.tmps.size = 42) (h0 : a.tmps.getD 0 undef = .slice A L c) (h7 : a.tmps.getD 7 undef = .pointer (some ⟨R, 0, none⟩)) (h8 : a.tmps.getD 8 undef = .int .u64 (x : Int)) (hRd0 : Rd w R 0 0 []) (hAB0 : IsB w (.slice A L c) B) (hQ : ∀ a' w', a'.tmps.size = 42 → a'.defers = a.defers → a'.tmps.getD 1 undef = a.tmps.getD 1 undef → a'.tmps.getD 2 undef = a.tmps.getD 2 undef → a'.tmps.getD 27 undef = .bool false → Grew w w' → Q .normal a' w')
    : (Code.region 5 (opsR5 p).toArray true).wp Try.prog Q a w := by
  have hAB : IsB w.drew (.slice A L c) B := hAB0
  have hRd : Rd w.drew R 0 0 [] := hRd0
  refine (wpIn_wide (n := 1)).1 (wpIn_region_vals 42 hN follows (opsR5_back p) (opsR5_slots p) Grew Grew.refl Grew.trans (psiR5 R x A L c B) (psiR5_grew R x A L c B) ?_ ?_)
  · intro i o d ho hd a' w' hF hR hp
    rcases i with _ | _ | _ | _ | _ | _ | _ | _ | _ | _ | _ | i
    · obtain rfl : oR50 p = o := Option.some.inj ho
      obtain rfl : 17 = d := Option.some.inj hd
      exact step_move rfl rfl rfl (hF.at 7 rfl h7) ⟨_, rfl, rfl, Grew.refl _⟩
    · obtain rfl : oR51 p = o := Option.some.inj ho
      obtain rfl : 18 = d := Option.some.inj hd
      have q0 : a'.tmps.getD 17 undef = .pointer (some ⟨R, 0, none⟩) := hp 0 (oR50 p) 17 rfl rfl rfl
      refine step_call rfl rfl rfl trivial (fun h => by cases h) (enters_of Try.func18 (by kernel_rfl) rfl) ?_
      rw [show Array.map a'.eval #[.tmp 17] = #[.pointer (some ⟨R, 0, none⟩)] by simp only [List.map_toArray, List.map_cons, List.map_nil, Act.eval, q0]]
      refine (callsIn_wide.2 (Done_ok R 0 w' (hRd.below hR))).mono ?_
      rintro e w'' ⟨rfl, rfl⟩
      exact ⟨_, rfl, _, rfl, rfl, Grew.refl _⟩
    · obtain rfl : oR52 p = o := Option.some.inj ho
      obtain rfl : 19 = d := Option.some.inj hd
      have q1 : a'.tmps.getD 18 undef = .int .i64 0 := hp 1 (oR51 p) 18 rfl rfl rfl
      exact step_bin rfl rfl rfl q1 rfl (guard_int _ _ _ _ _ _ _ _ _) (run_eqe w' 0 0) ⟨_, rfl, rfl, Grew.refl _⟩
    · obtain rfl : oR53 p = o := Option.some.inj ho
      obtain rfl : 20 = d := Option.some.inj hd
      have q2 : a'.tmps.getD 19 undef = .bool true := hp 2 (oR52 p) 19 rfl rfl rfl
      exact step_move rfl rfl rfl q2 ⟨_, rfl, rfl, Grew.refl _⟩
    · obtain rfl : oR54 p = o := Option.some.inj ho
      obtain rfl : 21 = d := Option.some.inj hd
      have q3 : a'.tmps.getD 20 undef = .bool true := hp 3 (oR53 p) 20 rfl rfl rfl
      exact step_move rfl (wanted_on rfl (show (opsR5 p).toArray[3]? = some (oR53 p) from rfl) rfl q3) rfl (hF.at 8 rfl h8) ⟨_, rfl, rfl, Grew.refl _⟩
    · obtain rfl : oR55 p = o := Option.some.inj ho
      obtain rfl : 22 = d := Option.some.inj hd
      have q3 : a'.tmps.getD 20 undef = .bool true := hp 3 (oR53 p) 20 rfl rfl rfl
      have q4 : a'.tmps.getD 21 undef = .int .u64 (x : Int) := hp 4 (oR54 p) 21 rfl rfl rfl
      exact step_gives rfl (wanted_on rfl (show (opsR5 p).toArray[3]? = some (oR53 p) from rfl) rfl q3) rfl (enters_of Try.func7 (by kernel_rfl) rfl) (vs := #[.slice none 0 0, .int .u64 (x : Int)]) (by simp only [List.map_toArray, List.map_cons, List.map_nil, Act.eval, q4]) (X := vb x) (Uint_any none [] 0 0 x rfl hx (by simp) w' (HasA.nil _ _ _)) (fun v w'' h hg => ⟨v, rfl, h, hg⟩)
    · obtain rfl : oR56 p = o := Option.some.inj ho
      obtain rfl : 23 = d := Option.some.inj hd
      have q3 : a'.tmps.getD 20 undef = .bool true := hp 3 (oR53 p) 20 rfl rfl rfl
      have q5 : IsB w' (a'.tmps.getD 22 undef) (vb x) := hp 5 (oR55 p) 22 rfl rfl rfl
      exact step_conv rfl (wanted_on rfl (show (opsR5 p).toArray[3]? = some (oR53 p) from rfl) rfl q3) rfl (show IsB w' (a'.tmps.getD 22 undef) _ from q5) ⟨_, rfl, rfl, Grew.refl _⟩
    · obtain rfl : oR57 p = o := Option.some.inj ho
      obtain rfl : 24 = d := Option.some.inj hd
      have q3 : a'.tmps.getD 20 undef = .bool true := hp 3 (oR53 p) 20 rfl rfl rfl
      exact step_move rfl (wanted_on rfl (show (opsR5 p).toArray[3]? = some (oR53 p) from rfl) rfl q3) rfl (hF.at 0 rfl h0) ⟨_, rfl, rfl, Grew.refl _⟩
    · obtain rfl : oR58 p = o := Option.some.inj ho
      obtain rfl : 25 = d := Option.some.inj hd
      have q3 : a'.tmps.getD 20 undef = .bool true := hp 3 (oR53 p) 20 rfl rfl rfl
      have q7 : a'.tmps.getD 24 undef = .slice A L c := hp 7 (oR57 p) 24 rfl rfl rfl
      exact step_conv rfl (wanted_on rfl (show (opsR5 p).toArray[3]? = some (oR53 p) from rfl) rfl q3) rfl (show IsB w' (a'.tmps.getD 24 undef) _ from by rw [q7]; exact hAB.grew hR) ⟨_, rfl, rfl, Grew.refl _⟩
    · obtain rfl : oR59 p = o := Option.some.inj ho
      obtain rfl : 26 = d := Option.some.inj hd
      have q3 : a'.tmps.getD 20 undef = .bool true := hp 3 (oR53 p) 20 rfl rfl rfl
      have q6 : a'.tmps.getD 23 undef = .string (str (vb x)) := hp 6 (oR56 p) 23 rfl rfl rfl
      have q8 : a'.tmps.getD 25 undef = .string (str B) := hp 8 (oR58 p) 25 rfl rfl rfl
      exact step_bin rfl (wanted_on rfl (show (opsR5 p).toArray[3]? = some (oR53 p) from rfl) rfl q3) rfl q6 q8 (guard_str _ _ _ _ _ _ _) (by rw [run_neq, hBx]; simp) ⟨_, rfl, rfl, Grew.refl _⟩
    · obtain rfl : oR510 p = o := Option.some.inj ho
      obtain rfl : 27 = d := Option.some.inj hd
      have q3 : a'.tmps.getD 20 undef = .bool true := hp 3 (oR53 p) 20 rfl rfl rfl
      have q9 : a'.tmps.getD 26 undef = .bool false := hp 9 (oR59 p) 26 rfl rfl rfl
      exact step_pick rfl rfl rfl q3 (show (if true = true then a'.tmps.getD 26 undef else _) = _ from q9) ⟨_, rfl, rfl, Grew.refl _⟩
    · exact absurd ((Array.getElem?_eq_some_iff.1 ho).1) (by simp [opsR5])
  · intro a' w' hF hR hp
    exact hQ a' w' (hF.size.trans hN) hF.defers (hF.at 1 rfl rfl) (hF.at 2 rfl rfl) (hp 10 (oR510 p) 27 rfl rfl) hR.undraw

/-- The reader R will say d, which is no zero, when it is asked whether it is done. -/
def Fd (R : Nat) (d : Int) (bs : List UInt8) (w : World) : Prop := ∃ e, Rd w R e 0 bs ∧ (((e == 0) = false ∧ e = d) ∨ (e = 0 ∧ d = 11 ∧ bs ≠ []))
def Rb (R : Nat) (d : Int) (bs : List UInt8) (w w' : World) : Prop := w.grownBy w' (some R) ∧ (Fd R d bs w → Fd R d bs w')
theorem Rb.refl {R : Nat} {d : Int} {bs : List UInt8} (w : World) : Rb R d bs w w := ⟨grownBy_refl _ _, id⟩
theorem Rb.trans {R : Nat} {d : Int} {bs : List UInt8} {x y z : World} (h : Rb R d bs x y) (k : Rb R d bs y z) : Rb R d bs x z := ⟨grownBy_trans h.1 k.1, fun f => k.2 (h.2 f)⟩
theorem Done_fd (R : Nat) (d : Int) (bs : List UInt8) (w : World) (h : Fd R d bs w) :
    Calls Try.prog 18 #[.pointer (some ⟨R, 0, none⟩)] w fun x w' => x = .returned (.int .i64 d) ∧ Rb R d bs w w' := by
  obtain ⟨e, hr, ⟨he, rfl⟩ | ⟨rfl, rfl, hne⟩⟩ := h
  · refine (Done_err R e 0 he bs w hr).mono ?_
    rintro x w' ⟨rfl, rfl⟩
    exact ⟨rfl, Rb.refl _⟩
  · cases bs with
    | nil => exact absurd rfl hne
    | cons b bs =>
      refine (Done_left R 0 b bs w hr).mono ?_
      rintro x w' ⟨rfl, rfl⟩
      exact ⟨rfl, grownBy_set _ _ _ _, fun _ => ⟨11, hr.fail 11, .inl ⟨rfl, rfl⟩⟩⟩

/-- What each slot comes to. -/
def psiR5b (R : Nat) (d : Int) (bs : List UInt8) : Nat → Value → World → Prop
  | 0, v, _ => v = .pointer (some ⟨R, 0, none⟩)
  | 1, v, _ => v = .int .i64 d
  | 2, v, _ => v = .bool false
  | 3, v, _ => v = .bool false
  | 4, v, _ => v = undef
  | 5, v, _ => v = undef
  | 6, v, _ => v = undef
  | 7, v, _ => v = undef
  | 8, v, _ => v = undef
  | 9, v, _ => v = undef
  | 10, v, _ => v = .bool false
  | _, _, _ => True
theorem psiR5b_grew (R : Nat) (d : Int) (bs : List UInt8) : ∀ i v w w', psiR5b R d bs i v w → (Rb R d bs) w w' → psiR5b R d bs i v w' := by
  intro i v w w' h hg
  rcases i with _ | _ | _ | _ | _ | _ | _ | _ | _ | _ | _ | i
  · exact h
  · exact h
  · exact h
  · exact h
  · exact h
  · exact h
  · exact h
  · exact h
  · exact h
  · exact h
  · exact h
  · trivial
set_option maxRecDepth 100000 in
set_option maxHeartbeats 4000000 in
theorem one_region5b {p : String} (R : Nat) (d : Int) (bs : List UInt8) (hd0 : (d == 0) = false) (a : Act) (w : World) (Q : Exit → Act → World → Prop) (hN : a.tmps.size = 42) (h7 : a.tmps.getD 7 undef = .pointer (some ⟨R, 0, none⟩)) (hFd0 : Fd R d bs w) (hQ : ∀ a' w', a'.tmps.size = 42 → a'.defers = a.defers → a'.tmps.getD 1 undef = a.tmps.getD 1 undef → a'.tmps.getD 2 undef = a.tmps.getD 2 undef → a'.tmps.getD 27 undef = .bool false → w.grownBy w' (some R) → Q .normal a' w')
    : (Code.region 5 (opsR5 p).toArray true).wp Try.prog Q a w := by
  have hFd : Fd R d bs w.drew := hFd0
  refine (wpIn_wide (n := 1)).1 (wpIn_region_vals 42 hN follows (opsR5_back p) (opsR5_slots p) (Rb R d bs) Rb.refl Rb.trans (psiR5b R d bs) (psiR5b_grew R d bs) ?_ ?_)
  · intro i o d ho hd a' w' hF hR hp
    rcases i with _ | _ | _ | _ | _ | _ | _ | _ | _ | _ | _ | i
    · obtain rfl : oR50 p = o := Option.some.inj ho
      obtain rfl : 17 = d := Option.some.inj hd
      exact step_move rfl rfl rfl (hF.at 7 rfl h7) ⟨_, rfl, rfl, Rb.refl _⟩
    · obtain rfl : oR51 p = o := Option.some.inj ho
      obtain rfl : 18 = d := Option.some.inj hd
      have q0 : a'.tmps.getD 17 undef = .pointer (some ⟨R, 0, none⟩) := hp 0 (oR50 p) 17 rfl rfl rfl
      refine step_call rfl rfl rfl trivial (fun h => by cases h) (enters_of Try.func18 (by kernel_rfl) rfl) ?_
      rw [show Array.map a'.eval #[.tmp 17] = #[.pointer (some ⟨R, 0, none⟩)] by simp only [List.map_toArray, List.map_cons, List.map_nil, Act.eval, q0]]
      refine (callsIn_wide.2 (Done_fd R d bs w' (hR.2 hFd))).mono ?_
      rintro e w'' ⟨rfl, hrb⟩
      exact ⟨_, rfl, _, rfl, rfl, hrb⟩
    · obtain rfl : oR52 p = o := Option.some.inj ho
      obtain rfl : 19 = d := Option.some.inj hd
      have q1 : a'.tmps.getD 18 undef = .int .i64 d := hp 1 (oR51 p) 18 rfl rfl rfl
      exact step_bin rfl rfl rfl q1 rfl (guard_int _ _ _ _ _ _ _ _ _) (by have := run_eqe w' d 0; rw [hd0] at this; exact this) ⟨_, rfl, rfl, Rb.refl _⟩
    · obtain rfl : oR53 p = o := Option.some.inj ho
      obtain rfl : 20 = d := Option.some.inj hd
      have q2 : a'.tmps.getD 19 undef = .bool false := hp 2 (oR52 p) 19 rfl rfl rfl
      exact step_move rfl rfl rfl q2 ⟨_, rfl, rfl, Rb.refl _⟩
    · obtain rfl : oR54 p = o := Option.some.inj ho
      obtain rfl : 21 = d := Option.some.inj hd
      have q3 : a'.tmps.getD 20 undef = .bool false := hp 3 (oR53 p) 20 rfl rfl rfl
      exact step_off rfl (wanted_off rfl (show (opsR5 p).toArray[3]? = some (oR53 p) from rfl) rfl q3) ⟨_, rfl, rfl, Rb.refl _⟩
    · obtain rfl : oR55 p = o := Option.some.inj ho
      obtain rfl : 22 = d := Option.some.inj hd
      have q3 : a'.tmps.getD 20 undef = .bool false := hp 3 (oR53 p) 20 rfl rfl rfl
      exact step_off rfl (wanted_off rfl (show (opsR5 p).toArray[3]? = some (oR53 p) from rfl) rfl q3) ⟨_, rfl, rfl, Rb.refl _⟩
    · obtain rfl : oR56 p = o := Option.some.inj ho
      obtain rfl : 23 = d := Option.some.inj hd
      have q3 : a'.tmps.getD 20 undef = .bool false := hp 3 (oR53 p) 20 rfl rfl rfl
      exact step_off rfl (wanted_off rfl (show (opsR5 p).toArray[3]? = some (oR53 p) from rfl) rfl q3) ⟨_, rfl, rfl, Rb.refl _⟩
    · obtain rfl : oR57 p = o := Option.some.inj ho
      obtain rfl : 24 = d := Option.some.inj hd
      have q3 : a'.tmps.getD 20 undef = .bool false := hp 3 (oR53 p) 20 rfl rfl rfl
      exact step_off rfl (wanted_off rfl (show (opsR5 p).toArray[3]? = some (oR53 p) from rfl) rfl q3) ⟨_, rfl, rfl, Rb.refl _⟩
    · obtain rfl : oR58 p = o := Option.some.inj ho
      obtain rfl : 25 = d := Option.some.inj hd
      have q3 : a'.tmps.getD 20 undef = .bool false := hp 3 (oR53 p) 20 rfl rfl rfl
      exact step_off rfl (wanted_off rfl (show (opsR5 p).toArray[3]? = some (oR53 p) from rfl) rfl q3) ⟨_, rfl, rfl, Rb.refl _⟩
    · obtain rfl : oR59 p = o := Option.some.inj ho
      obtain rfl : 26 = d := Option.some.inj hd
      have q3 : a'.tmps.getD 20 undef = .bool false := hp 3 (oR53 p) 20 rfl rfl rfl
      exact step_off rfl (wanted_off rfl (show (opsR5 p).toArray[3]? = some (oR53 p) from rfl) rfl q3) ⟨_, rfl, rfl, Rb.refl _⟩
    · obtain rfl : oR510 p = o := Option.some.inj ho
      obtain rfl : 27 = d := Option.some.inj hd
      have q3 : a'.tmps.getD 20 undef = .bool false := hp 3 (oR53 p) 20 rfl rfl rfl
      exact step_pick rfl rfl rfl q3 rfl ⟨_, rfl, rfl, Rb.refl _⟩
    · exact absurd ((Array.getElem?_eq_some_iff.1 ho).1) (by simp [opsR5])
  · intro a' w' hF hR hp
    exact hQ a' w' (hF.size.trans hN) hF.defers (hF.at 1 rfl rfl) (hF.at 2 rfl rfl) (hp 10 (oR510 p) 27 rfl rfl) ⟨hR.1.os, hR.1.tape, hR.1.output, hR.1.size, hR.1.block⟩
end Go.Proofs.Ytmphgahkeoaplaa
