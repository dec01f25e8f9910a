/- KvApart: the statement that asks both commands' keys, whatever its order of evaluation. -/
import Derived.Test.YtfkdlmokigeemaaDoorMKvP
import Derived.Test.YtfkdlmokigeemaaDoorKvTchD
namespace Go.Proofs.YtfkdlmokigeemaaDoor
open Go.RowKit

theorem TxtS.grew {w w' : World} {v : Value} {l : List ByteArray} (h : TxtS w v l) (hb : Below w.heap.size w w') : TxtS w' v l := by
  obtain ⟨A, L, c, e, h1, h2, h3⟩ := h.ex
  exact ⟨A, L, c, e, h1, h2, h3.below hb⟩
def oAp0 (p : String) : Oper := { dst := some 46, op := Op.load 26 (Operand.tmp 5), type := 26, pos := p, after := #[], guard := none }
def oAp1 (p : String) : Oper := { dst := some 47, op := Op.call { callee := Callee.value (Operand.func 6), args := #[Operand.tmp 46], argTypes := #[26] }, type := 24, pos := p, after := #[{ on := 0, ground := Ground.data }], guard := none }
def oAp2 (p : String) : Oper := { dst := some 48, op := Op.load 26 (Operand.tmp 6), type := 26, pos := p, after := #[], guard := none }
def oAp3 (p : String) : Oper := { dst := some 49, op := Op.call { callee := Callee.value (Operand.func 6), args := #[Operand.tmp 48], argTypes := #[26] }, type := 24, pos := p, after := #[{ on := 2, ground := Ground.data }, { on := 1, ground := Ground.chain }], guard := none }
def oAp4 (p : String) : Oper := { dst := some 9, op := Op.assign (Operand.tmp 47), type := 24, pos := p, after := #[{ on := 1, ground := Ground.data }, { on := 3, ground := Ground.chain }, { on := 0, ground := Ground.phase }, { on := 1, ground := Ground.phase }, { on := 2, ground := Ground.textOnly Departure.lateStores }, { on := 3, ground := Ground.textOnly Departure.lateStoresUnsure }], guard := none }
def oAp5 (p : String) : Oper := { dst := some 10, op := Op.assign (Operand.tmp 49), type := 24, pos := p, after := #[{ on := 3, ground := Ground.data }, { on := 4, ground := Ground.chain }, { on := 0, ground := Ground.phase }, { on := 1, ground := Ground.phase }, { on := 2, ground := Ground.phase }, { on := 3, ground := Ground.phase }, { on := 4, ground := Ground.phase }], guard := none }
def opsAp (p : String) : List Oper := [oAp0 p, oAp1 p, oAp2 p, oAp3 p, oAp4 p, oAp5 p]
theorem opsAp_back (p : String) : backwards (opsAp p) = true := by kernel_rfl
theorem opsAp_slots (p : String) : slotsOk 188 (opsAp p) = true := by kernel_rfl
/-- What each slot comes to. -/
def psiAp (va vb : CmdV) (_pa _pb : Nat) (ka kb : List ByteArray) : Nat → Value → World → Prop
  | 0, v, _ => v = va.val
  | 1, v, w => TxtS w v ka
  | 2, v, _ => v = vb.val
  | 3, v, w => TxtS w v kb
  | 4, v, w => TxtS w v ka
  | 5, v, w => TxtS w v kb
  | _, _, _ => True
theorem psiAp_grew (va vb : CmdV) (pa pb : Nat) (ka kb : List ByteArray) : ∀ i v w w', psiAp va vb pa pb ka kb i v w → Grew w w' → psiAp va vb pa pb ka kb i v w' := by
  intro i v w w' h hg
  rcases i with _ | _ | _ | _ | _ | _ | i
  · exact h
  · exact TxtS.grew h hg
  · exact h
  · exact TxtS.grew h hg
  · exact TxtS.grew h hg
  · exact TxtS.grew h hg
  · trivial
set_option maxRecDepth 100000 in
set_option maxHeartbeats 4000000 in
theorem touch_region {p : String} (va vb : CmdV) (pa pb : Nat) (ka kb : List ByteArray)  (a : Act) (w : World) (Q : Exit → Act → World → Prop) (hN : a.tmps.size = 188) (h5 : a.tmps.getD 5 undef = .pointer (some ⟨pa, 0, none⟩)) (h6 : a.tmps.getD 6 undef = .pointer (some ⟨pb, 0, none⟩)) (hpva : pa < w.heap.size) (hpvb : pb < w.heap.size) (hxva : ∀ i u, va.cells[i]? = some u → w.cell? ⟨pa, i, none⟩ = some u) (hxvb : ∀ i u, vb.cells[i]? = some u → w.cell? ⟨pb, i, none⟩ = some u) (hTva : ∀ w' : World, Below w.heap.size w w' → Calls Tryd.prog 6 #[va.val] w' fun e W' => ∃ x, e = .returned x ∧ TxtS W' x ka ∧ Below w'.heap.size w' W') (hTvb : ∀ w' : World, Below w.heap.size w w' → Calls Tryd.prog 6 #[vb.val] w' fun e W' => ∃ x, e = .returned x ∧ TxtS W' x kb ∧ Below w'.heap.size w' W') (hQ : ∀ (v47 : Value), ∀ (v49 : Value), ∀ (v9 : Value), ∀ (v10 : Value), ∀ (w' : World), (fun v w => TxtS w v ka) v47 w' → (fun v w => TxtS w v kb) v49 w' → (fun v w => TxtS w v ka) v9 w' → (fun v w => TxtS w v kb) v10 w' → Grew w w' → Q .normal (puts [(46, va.val), (47, v47), (48, vb.val), (49, v49), (9, v9), (10, v10)] a) w')
    : (Code.region 3 (opsAp p).toArray true).wp Tryd.prog Q a w := by
  refine (wpIn_wide (n := 1)).1 (wpIn_region_vals 188 hN follows (opsAp_back p) (opsAp_slots p) Grew Grew.refl Grew.trans (psiAp va vb pa pb ka kb) (psiAp_grew va vb pa pb ka kb) ?_ ?_)
  · intro i o d ho hd a' w' hF hR hp
    rcases i with _ | _ | _ | _ | _ | _ | i
    · obtain rfl : oAp0 p = o := Option.some.inj ho
      obtain rfl : 46 = d := Option.some.inj hd
      exact step_load rfl rfl rfl (hF.at 5 rfl h5) (run_ldK w' pa va (fun i u hu => (Below.cell hR.undraw (p := ⟨pa, i, none⟩) hpva).trans (hxva i u hu))) ⟨_, rfl, rfl, Grew.refl _⟩
    · obtain rfl : oAp1 p = o := Option.some.inj ho
      obtain rfl : 47 = d := Option.some.inj hd
      have q0 : a'.tmps.getD 46 undef = va.val := hp 0 (oAp0 p) 46 rfl rfl rfl
      refine step_callD rfl rfl rfl (enters_of Tryd.func6 (by kernel_rfl) rfl) (show Array.map a'.eval #[.tmp 46] = _ from by simp only [List.map_toArray, List.map_cons, List.map_nil, Act.eval, q0]) ((hTva w' hR.undraw).mono ?_)
      rintro e w'' ⟨x, rfl, ho, hb⟩
      exact ⟨_, rfl, _, rfl, ho, hb⟩
    · obtain rfl : oAp2 p = o := Option.some.inj ho
      obtain rfl : 48 = d := Option.some.inj hd
      exact step_load rfl rfl rfl (hF.at 6 rfl h6) (run_ldK w' pb vb (fun i u hu => (Below.cell hR.undraw (p := ⟨pb, i, none⟩) hpvb).trans (hxvb i u hu))) ⟨_, rfl, rfl, Grew.refl _⟩
    · obtain rfl : oAp3 p = o := Option.some.inj ho
      obtain rfl : 49 = d := Option.some.inj hd
      have q2 : a'.tmps.getD 48 undef = vb.val := hp 2 (oAp2 p) 48 rfl rfl rfl
      refine step_callD rfl rfl rfl (enters_of Tryd.func6 (by kernel_rfl) rfl) (show Array.map a'.eval #[.tmp 48] = _ from by simp only [List.map_toArray, List.map_cons, List.map_nil, Act.eval, q2]) ((hTvb w' hR.undraw).mono ?_)
      rintro e w'' ⟨x, rfl, ho, hb⟩
      exact ⟨_, rfl, _, rfl, ho, hb⟩
    · obtain rfl : oAp4 p = o := Option.some.inj ho
      obtain rfl : 9 = d := Option.some.inj hd
      have q1 : (fun v w => TxtS w v ka) (a'.tmps.getD 47 undef) w' := hp 1 (oAp1 p) 47 rfl rfl rfl
      exact step_assign rfl rfl rfl rfl ⟨_, rfl, q1, Grew.refl _⟩
    · obtain rfl : oAp5 p = o := Option.some.inj ho
      obtain rfl : 10 = d := Option.some.inj hd
      have q3 : (fun v w => TxtS w v kb) (a'.tmps.getD 49 undef) w' := hp 3 (oAp3 p) 49 rfl rfl rfl
      exact step_assign rfl rfl rfl rfl ⟨_, rfl, q3, Grew.refl _⟩
    · exact absurd ((Array.getElem?_eq_some_iff.1 ho).1) (by simp [opsAp])
  · intro a' w' hF hR hp
    have e0 : psiAp va vb pa pb ka kb 0 (a'.tmps.getD 46 undef) w' := hp 0 (oAp0 p) 46 rfl rfl
    have e1 : psiAp va vb pa pb ka kb 1 (a'.tmps.getD 47 undef) w' := hp 1 (oAp1 p) 47 rfl rfl
    have e2 : psiAp va vb pa pb ka kb 2 (a'.tmps.getD 48 undef) w' := hp 2 (oAp2 p) 48 rfl rfl
    have e3 : psiAp va vb pa pb ka kb 3 (a'.tmps.getD 49 undef) w' := hp 3 (oAp3 p) 49 rfl rfl
    have e4 : psiAp va vb pa pb ka kb 4 (a'.tmps.getD 9 undef) w' := hp 4 (oAp4 p) 9 rfl rfl
    have e5 : psiAp va vb pa pb ka kb 5 (a'.tmps.getD 10 undef) w' := hp 5 (oAp5 p) 10 rfl rfl
    rw [hF.puts [(46, va.val), (47, a'.tmps.getD 47 undef), (48, vb.val), (49, a'.tmps.getD 49 undef), (9, a'.tmps.getD 9 undef), (10, a'.tmps.getD 10 undef)] ?_ rfl (by rw [hN]; rfl)]
    · exact hQ _ _ _ _ w' e1 e3 e4 e5 hR.undraw
    · intro x hx
      simp only [List.mem_cons, List.not_mem_nil, or_false] at hx
      rcases hx with rfl | rfl | rfl | rfl | rfl | rfl
      · exact e0
      · exact rfl
      · exact e2
      · exact rfl
      · exact rfl
      · exact rfl
end Go.Proofs.YtfkdlmokigeemaaDoor
