/- The contract of frame.Take. -/
import Derived.Test.YtbhncffeoolhfaaDoorFrFirst
import Derived.Test.YtbhncffeoolhfaaDoorFrCmp
namespace Go.Proofs.YtbhncffeoolhfaaDoor
open Go.RowKit

section
variable {n : Nat} {ops : Array Oper} {i : Nat} {o : Oper} {a : Act} {w : World} {K : Act → World → Prop} {Q : Exit → Act → World → Prop}
theorem step_field {t : TypeId} {x : Operand} {j : Nat} {vx v : Value} (hi : ops[i]? = some o) (hw : Region.wanted o (yielded ops a.tmps) = true) (ho : o.op = .fieldAddr t x j) (hx : a.eval x = vx) (hr : (Instr.fieldAt t vx j).run Tryd.prog w = .ok v w) (h : K (a.put o.dst v) w) : wpOpIn Fence.wide n Tryd.prog ops Q i K a w :=
  step_run hi hw (by rw [ho]; intro c h; cases h) (by simp [Oper.about, ho]) (by simp [execOp, ho, hx, hr]) h
theorem step_isb {f : FuncId} {xs : Array Operand} {ts : Array TypeId} {vs : Array Value} {X : List UInt8} (hi : ops[i]? = some o) (hw : Region.wanted o (yielded ops a.tmps) = true)
    (ho : o.op = .call { callee := .value (.func f), args := xs, argTypes := ts }) (eg : ∀ args w, (callFunc f args).run Tryd.prog w = .ok (.enter f args) w) (hxs : xs.map a.eval = vs) (hc : Calls Tryd.prog f vs w fun e w' => ∃ v, e = .returned v ∧ IsB w' v X ∧ Below w.heap.size w w')
    (h : ∀ v w', IsB w' v X → Grew w w' → K (a.put o.dst v) w') : wpOpIn Fence.wide n Tryd.prog ops Q i K a w := by
  refine step_call hi hw ho trivial (fun h => by cases h) eg ?_
  rw [hxs]
  refine (callsIn_wide.2 hc).mono ?_
  rintro e w' ⟨v, rfl, hv, hb⟩
  exact ⟨_, rfl, h _ _ hv hb⟩
end
theorem run_part0 (w : World) (D : Nat) : (Instr.fieldAt 46 (.pointer (some ⟨D, 0, none⟩)) 0).run Tryd.prog w = .ok (.pointer (some ⟨D, 0, none⟩)) w := by
  simp [go_sem]
theorem run_part1 (w : World) (D : Nat) : (Instr.fieldAt 46 (.pointer (some ⟨D, 0, none⟩)) 1).run Tryd.prog w = .ok (.pointer (some ⟨D, 1, none⟩)) w := by
  simp [go_sem]
theorem run_ldI (w : World) (p : Addr) (m : Int) (h : w.cell? p = some (.int .i64 m)) : (Instr.loadAt 3 (.pointer (some p))).run Tryd.prog w = .ok (.int .i64 m) w := by
  simp [go_sem, h]
theorem Clone_isb (A : Option Addr) (L c : Nat) (bs : List UInt8) (hL : L = bs.length) (hlen : bs.length ≤ 1000000) (w : World) (hA : HasA w w.heap.size A bs) :
    Calls Tryd.prog 13 #[.slice A L c] w fun e w' => ∃ v, e = .returned v ∧ IsB w' v bs ∧ Below w.heap.size w w' :=
  (Clone_any A L c bs hL hlen w hA).mono fun _ _ ⟨⟨A', c', h, _, hd⟩, hb⟩ => ⟨_, h, ⟨A', L, c', rfl, hL, hd.has⟩, hb⟩
def oTK20 (p : String) : Oper := { dst := some 12, op := Op.fieldAddr 46 (Operand.tmp 5) 0, type := 0, pos := p, after := #[], guard := none }
def oTK21 (p : String) : Oper := { dst := some 13, op := Op.load 22 (Operand.tmp 12), type := 22, pos := p, after := #[{ on := 0, ground := Ground.data }], guard := none }
def oTK22 (p : String) : Oper := { dst := some 14, op := Op.call { callee := Callee.value (Operand.func 13), args := #[Operand.tmp 13], argTypes := #[22] }, type := 22, pos := p, after := #[{ on := 1, ground := Ground.data }], guard := none }
def oTK23 (p : String) : Oper := { dst := some 15, op := Op.fieldAddr 46 (Operand.tmp 5) 1, type := 0, pos := p, after := #[{ on := 6, ground := Ground.gcOnly Departure.lateStores }], guard := none }
def oTK24 (p : String) : Oper := { dst := some 16, op := Op.load 3 (Operand.tmp 15), type := 3, pos := p, after := #[{ on := 3, ground := Ground.data }, { on := 6, ground := Ground.gcOnly Departure.lateStores }], guard := none }
def oTK25 (p : String) : Oper := { dst := some 17, op := Op.move (Operand.tmp 6), type := 24, pos := p, after := #[{ on := 7, ground := Ground.gcOnly Departure.lateStores }], guard := none }
def oTK26 (p : String) : Oper := { dst := some 2, op := Op.assign (Operand.tmp 14), type := 22, pos := p, after := #[{ on := 2, ground := Ground.data }, { on := 2, ground := Ground.chain }, { on := 0, ground := Ground.phase }, { on := 1, ground := Ground.phase }, { on := 2, ground := Ground.phase }, { on := 3, ground := Ground.textOnly Departure.lateStores }, { on := 4, ground := Ground.textOnly Departure.lateStores }, { on := 5, ground := Ground.textOnly Departure.lateStores }], guard := none }
def oTK27 (p : String) : Oper := { dst := some 3, op := Op.assign (Operand.tmp 16), type := 3, pos := p, after := #[{ on := 4, ground := Ground.data }, { on := 6, ground := Ground.chain }, { on := 0, ground := Ground.phase }, { on := 1, ground := Ground.phase }, { on := 2, ground := Ground.phase }, { on := 3, ground := Ground.phase }, { on := 4, ground := Ground.phase }, { on := 5, ground := Ground.textOnly Departure.lateStores }, { on := 6, ground := Ground.phase }], guard := none }
def oTK28 (p : String) : Oper := { dst := some 4, op := Op.assign (Operand.tmp 17), type := 24, pos := p, after := #[{ on := 5, ground := Ground.data }, { on := 7, ground := Ground.chain }, { on := 0, ground := Ground.phase }, { on := 1, ground := Ground.phase }, { on := 2, ground := Ground.phase }, { on := 3, ground := Ground.phase }, { on := 4, ground := Ground.phase }, { on := 5, ground := Ground.phase }, { on := 6, ground := Ground.phase }, { on := 7, ground := Ground.phase }], guard := none }
def opsTK2 (p : String) : List Oper := [oTK20 p, oTK21 p, oTK22 p, oTK23 p, oTK24 p, oTK25 p, oTK26 p, oTK27 p, oTK28 p]
theorem opsTK2_back (p : String) : backwards (opsTK2 p) = true := by kernel_rfl
theorem opsTK2_slots (p : String) : slotsOk 18 (opsTK2 p) = true := by kernel_rfl
/-- What each slot comes to. -/
def psiTK2 (D : Nat) (A2 : Option Addr) (L2 c2 : Nat) (x : List UInt8) (m e : Int) : Nat → Value → World → Prop
  | 0, v, _ => v = .pointer (some ⟨D, 0, none⟩)
  | 1, v, _ => v = .slice A2 L2 c2
  | 2, v, w => IsB w v (x)
  | 3, v, _ => v = .pointer (some ⟨D, 1, none⟩)
  | 4, v, _ => v = .int .i64 m
  | 5, v, _ => v = .int .i64 e
  | 6, v, w => IsB w v (x)
  | 7, v, _ => v = .int .i64 m
  | 8, v, _ => v = .int .i64 e
  | _, _, _ => True
theorem psiTK2_grew (D : Nat) (A2 : Option Addr) (L2 c2 : Nat) (x : List UInt8) (m e : Int) : ∀ i v w w', psiTK2 D A2 L2 c2 x m e i v w → Grew w w' → psiTK2 D A2 L2 c2 x m e i v w' := by
  intro i v w w' h hg
  rcases i with _ | _ | _ | _ | _ | _ | _ | _ | _ | i
  · exact h
  · exact h
  · exact IsB.grew h hg
  · exact h
  · exact h
  · exact h
  · exact IsB.grew h hg
  · exact h
  · exact h
  · trivial
set_option maxRecDepth 100000 in
set_option maxHeartbeats 4000000 in
theorem ftake_region {p : String} (D : Nat) (A2 : Option Addr) (L2 c2 : Nat) (x : List UInt8) (m e : Int) (hxl : L2 = x.length) (hn : L2 ≤ 1000000) (a : Act) (w : World) (Q : Exit → Act → World → Prop) (hN : a.tmps.size = 18) (h5 : a.tmps.getD 5 undef = .pointer (some ⟨D, 0, none⟩)) (h6 : a.tmps.getD 6 undef = .int .i64 e) (hA2 : HasA w w.heap.size A2 x) (hD : D < w.heap.size) (hd0 : w.cell? ⟨D, 0, none⟩ = some (.slice A2 L2 c2)) (hd1 : w.cell? ⟨D, 1, none⟩ = some (.int .i64 m)) (hQ : ∀ (v14 : Value), ∀ (v2 : Value), ∀ (w' : World), IsB w' v14 (x) → IsB w' v2 (x) → Grew w w' → Q .normal (puts [(12, .pointer (some ⟨D, 0, none⟩)), (13, .slice A2 L2 c2), (14, v14), (15, .pointer (some ⟨D, 1, none⟩)), (16, .int .i64 m), (17, .int .i64 e), (2, v2), (3, .int .i64 m), (4, .int .i64 e)] a) w')
    : (Code.region 2 (opsTK2 p).toArray true).wp Tryd.prog Q a w := by
  refine (wpIn_wide (n := 1)).1 (wpIn_region_vals 18 hN follows (opsTK2_back p) (opsTK2_slots p) Grew Grew.refl Grew.trans (psiTK2 D A2 L2 c2 x m e) (psiTK2_grew D A2 L2 c2 x m e) ?_ ?_)
  · intro i o d ho hd a' w' hF hR hp
    rcases i with _ | _ | _ | _ | _ | _ | _ | _ | _ | i
    · obtain rfl : oTK20 p = o := Option.some.inj ho
      obtain rfl : 12 = d := Option.some.inj hd
      exact step_field rfl rfl rfl (hF.at 5 rfl h5) (run_part0 _ _) ⟨_, rfl, rfl, Grew.refl _⟩
    · obtain rfl : oTK21 p = o := Option.some.inj ho
      obtain rfl : 13 = d := Option.some.inj hd
      have q0 : a'.tmps.getD 12 undef = .pointer (some ⟨D, 0, none⟩) := hp 0 (oTK20 p) 12 rfl rfl rfl
      exact step_load rfl rfl rfl q0 (run_ldB _ _ _ _ _ ((Below.cell hR.undraw (p := ⟨D, 0, none⟩) hD).trans hd0)) ⟨_, rfl, rfl, Grew.refl _⟩
    · obtain rfl : oTK22 p = o := Option.some.inj ho
      obtain rfl : 14 = d := Option.some.inj hd
      have q1 : a'.tmps.getD 13 undef = .slice A2 L2 c2 := hp 1 (oTK21 p) 13 rfl rfl rfl
      exact step_isb rfl rfl rfl (enters_of Tryd.func13 (by kernel_rfl) rfl) (show Array.map a'.eval #[.tmp 13] = _ from by simp only [List.map_toArray, List.map_cons, List.map_nil, Act.eval, q1]) (Clone_isb A2 L2 c2 x hxl (by omega) w' (HasA.below' hA2 hR.undraw)) (fun v w'' h hg => ⟨v, rfl, h, hg⟩)
    · obtain rfl : oTK23 p = o := Option.some.inj ho
      obtain rfl : 15 = d := Option.some.inj hd
      exact step_field rfl rfl rfl (hF.at 5 rfl h5) (run_part1 _ _) ⟨_, rfl, rfl, Grew.refl _⟩
    · obtain rfl : oTK24 p = o := Option.some.inj ho
      obtain rfl : 16 = d := Option.some.inj hd
      have q3 : a'.tmps.getD 15 undef = .pointer (some ⟨D, 1, none⟩) := hp 3 (oTK23 p) 15 rfl rfl rfl
      exact step_load rfl rfl rfl q3 (run_ldI _ _ _ ((Below.cell hR.undraw (p := ⟨D, 1, none⟩) hD).trans hd1)) ⟨_, rfl, rfl, Grew.refl _⟩
    · obtain rfl : oTK25 p = o := Option.some.inj ho
      obtain rfl : 17 = d := Option.some.inj hd
      exact step_move rfl rfl rfl (hF.at 6 rfl h6) ⟨_, rfl, rfl, Grew.refl _⟩
    · obtain rfl : oTK26 p = o := Option.some.inj ho
      obtain rfl : 2 = d := Option.some.inj hd
      have q2 : IsB w' (a'.tmps.getD 14 undef) (x) := hp 2 (oTK22 p) 14 rfl rfl rfl
      exact step_assign rfl rfl rfl rfl ⟨_, rfl, q2, Grew.refl _⟩
    · obtain rfl : oTK27 p = o := Option.some.inj ho
      obtain rfl : 3 = d := Option.some.inj hd
      have q4 : a'.tmps.getD 16 undef = .int .i64 m := hp 4 (oTK24 p) 16 rfl rfl rfl
      exact step_assign rfl rfl rfl q4 ⟨_, rfl, rfl, Grew.refl _⟩
    · obtain rfl : oTK28 p = o := Option.some.inj ho
      obtain rfl : 4 = d := Option.some.inj hd
      have q5 : a'.tmps.getD 17 undef = .int .i64 e := hp 5 (oTK25 p) 17 rfl rfl rfl
      exact step_assign rfl rfl rfl q5 ⟨_, rfl, rfl, Grew.refl _⟩
    · exact absurd ((Array.getElem?_eq_some_iff.1 ho).1) (by simp [opsTK2])
  · intro a' w' hF hR hp
    have e0 : psiTK2 D A2 L2 c2 x m e 0 (a'.tmps.getD 12 undef) w' := hp 0 (oTK20 p) 12 rfl rfl
    have e1 : psiTK2 D A2 L2 c2 x m e 1 (a'.tmps.getD 13 undef) w' := hp 1 (oTK21 p) 13 rfl rfl
    have e2 : psiTK2 D A2 L2 c2 x m e 2 (a'.tmps.getD 14 undef) w' := hp 2 (oTK22 p) 14 rfl rfl
    have e3 : psiTK2 D A2 L2 c2 x m e 3 (a'.tmps.getD 15 undef) w' := hp 3 (oTK23 p) 15 rfl rfl
    have e4 : psiTK2 D A2 L2 c2 x m e 4 (a'.tmps.getD 16 undef) w' := hp 4 (oTK24 p) 16 rfl rfl
    have e5 : psiTK2 D A2 L2 c2 x m e 5 (a'.tmps.getD 17 undef) w' := hp 5 (oTK25 p) 17 rfl rfl
    have e6 : psiTK2 D A2 L2 c2 x m e 6 (a'.tmps.getD 2 undef) w' := hp 6 (oTK26 p) 2 rfl rfl
    have e7 : psiTK2 D A2 L2 c2 x m e 7 (a'.tmps.getD 3 undef) w' := hp 7 (oTK27 p) 3 rfl rfl
    have e8 : psiTK2 D A2 L2 c2 x m e 8 (a'.tmps.getD 4 undef) w' := hp 8 (oTK28 p) 4 rfl rfl
    rw [hF.puts [(12, .pointer (some ⟨D, 0, none⟩)), (13, .slice A2 L2 c2), (14, a'.tmps.getD 14 undef), (15, .pointer (some ⟨D, 1, none⟩)), (16, .int .i64 m), (17, .int .i64 e), (2, a'.tmps.getD 2 undef), (3, .int .i64 m), (4, .int .i64 e)] ?_ rfl (by rw [hN]; rfl)]
    · exact hQ _ _ w' e2 e6 hR.undraw
    · intro x hx
      simp only [List.mem_cons, List.not_mem_nil, or_false] at hx
      rcases hx with rfl | rfl | rfl | rfl | rfl | rfl | rfl | rfl | rfl
      · exact e0
      · exact e1
      · exact rfl
      · exact e3
      · exact e4
      · exact e5
      · exact rfl
      · exact e7
      · exact e8

set_option maxHeartbeats 1000000 in
theorem take_any : TakeSpec := by
  intro A L c bs w hL hl hlc hT hA
  have HL := Lib.hid hL
  have HA := Lib.hid hA
  have HT := Lib.hid hT
  clear hL hA hT
  go_enter Tryd.func9, Tryd.ntmps9
  go_wp2_with fail
  refine (first_any A L c bs HL.out (by omega) hlc w w.heap.size (Nat.le_refl _) HT.out HA.out).mono ?_
  rintro e W1 (⟨x, n, v, h1, rfl, h3, h4⟩ | ⟨k, h1, rfl, h4⟩)
  · obtain ⟨A2, L2, c2, rfl, hxl, hA2⟩ := h3
    have H1 := Lib.hid h1
    have B1 := Lib.hid h4
    have HA2 := Lib.hid (hA2.more h4.size)
    have HXL := Lib.hid hxl
    clear h1 h4 hA2 hxl
    go_wp2
    have hx2 : L2 ≤ 1000000 := by
      have h := tk_ok H1.out
      have := h.1.2
      have := HXL.out; omega
    refine ftake_region W1.heap.size A2 L2 c2 x (n : Int) 0 HXL.out hx2 _ _ _ rfl rfl rfl (HA2.out.below' ((Below.refl _ _).alloc (Nat.le_refl _) _)) (by simp) (World.cell?_alloc_mark _ _ _ _ _) (World.cell?_alloc_mark _ _ _ _ _) ?_
    intro v14 v2 W2 hv hv' hg
    have hB : Below w.heap.size w W2 := (B1.out.alloc B1.out.size _).trans (Below.mono hg (by have := B1.out.size; simp; omega))
    have HV := Lib.hid hv'
    obtain ⟨A3, L3, c3, rfl, -⟩ := hv'
    simp only [puts, List.foldl_cons, List.foldl_nil, Act.put, List.setIfInBounds_toArray, List.set_cons_succ, List.set_cons_zero]
    clear hv hg hx2
    go_wp2
    go_ret3
    exact .inl ⟨x, n, _, H1.out, rfl, HV.out, hB⟩
  · have H1 := Lib.hid h1
    have B1 := Lib.hid h4
    clear h1 h4
    go_wp2
    refine ftake_region W1.heap.size none 0 0 [] 0 (k : Int) rfl (by omega) _ _ _ rfl rfl rfl (HasA.nil _ _ _) (by simp) (World.cell?_alloc_mark _ _ _ _ _) (World.cell?_alloc_mark _ _ _ _ _) ?_
    intro v14 v2 W2 hv hv' hg
    have hB : Below w.heap.size w W2 := (B1.out.alloc B1.out.size _).trans (Below.mono hg (by have := B1.out.size; simp; omega))
    have HV := Lib.hid hv'
    obtain ⟨A3, L3, c3, rfl, -⟩ := hv'
    simp only [puts, List.foldl_cons, List.foldl_nil, Act.put, List.setIfInBounds_toArray, List.set_cons_succ, List.set_cons_zero]
    clear hv hg
    go_wp2
    go_ret3
    exact .inr ⟨k, _, H1.out, rfl, HV.out, hB⟩
end Go.Proofs.YtbhncffeoolhfaaDoor
