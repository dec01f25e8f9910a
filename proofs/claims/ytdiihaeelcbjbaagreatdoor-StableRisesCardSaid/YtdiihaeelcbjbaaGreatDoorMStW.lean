/- A store that is known: the statement that draws its order. A store that is known: wakes returns true. -/
import Derived.Test.YtdiihaeelcbjbaaGreatDoorRg
import Derived.Test.YtdiihaeelcbjbaaGreatDoorStK
import Derived.Laws.StructEq
import Derived.Lib.SlBytesConst
-- StWkR
namespace Go.Proofs.YtdiihaeelcbjbaaGreatDoor
open Go.RowKit

theorem noGuardBa : Tryz.prog.eqGuardType Tryz.prog.depth 25 = false := by kernel_rfl
theorem guardBa (op : BinOp) (w : World) (x y : Operand) (s u : Array Value) : (eqGuard op 25 x y (.agg s) (.agg u)).run Tryz.prog w = .ok () w := by
  cases op <;> first
    | (simp [eqGuard]; done)
    | (simp [eqGuard, noGuardBa]; done)
theorem eqBaW (w : World) (x y : Int) : (binOp .eql 25 (.agg #[.int .u64 x, .int .i64 y]) (.agg #[.int .u64 x, .int .i64 y])).run Tryz.prog w = .ok (.bool true) w := by
  simp [go_sem]
theorem eqS115 (w : World) : (binOp .eql 9 (.string (str [115])) (.string { data := #[115] })).run Tryz.prog w = .ok (.bool true) w := (run_eq w [115] [115]).trans (by simp)
theorem eqS120 (w : World) : (binOp .eql 9 (.string (str [120])) (.string { data := #[120] })).run Tryz.prog w = .ok (.bool true) w := (run_eq w [120] [120]).trans (by simp)
theorem fdVo0 (w : World) (b o : Nat) : (Instr.fieldAt 68 (.pointer (some ⟨b, o, none⟩)) 0).run Tryz.prog w = .ok (.pointer (some ⟨b, o, none⟩)) w := by
  simp [go_sem]
theorem fdVo2 (w : World) (b o : Nat) : (Instr.fieldAt 68 (.pointer (some ⟨b, o, none⟩)) 2).run Tryz.prog w = .ok (.pointer (some ⟨b, o + 3, none⟩)) w := by
  simp [go_sem]
theorem ldW6 (w : World) (p : Addr) (v : Value) (h : w.cell? p = some v) : (Instr.loadAt 23 (.pointer (some p))).run Tryz.prog w = .ok v w := by
  simp [go_sem, h]
theorem ldWb (w : World) (p : Addr) (v : Value) (h : w.cell? p = some v) : (Instr.loadAt 39 (.pointer (some p))).run Tryz.prog w = .ok v w := by
  simp [go_sem, h]
theorem ixVo (w : World) (b o L c q : Nat) (h : q < L) : (Instr.indexAt 65 (.slice (some ⟨b, o, none⟩) L c) (.int .i64 (q : Int))).run Tryz.prog w = .ok (.pointer (some ⟨b, o + q * 4, none⟩)) w := by
  have h1 : (0 : Int) ≤ q := by omega
  have h2 : (q : Int) < L := by omega
  simp [go_sem, h1, h2]
theorem ixVo0 (w : World) (b o c : Nat) : (Instr.indexAt 65 (.slice (some ⟨b, o, none⟩) 1 c) (.int .i64 0)).run Tryz.prog w = .ok (.pointer (some ⟨b, o, none⟩)) w := ixVo w b o 1 c 0 (by decide)
noncomputable def opsSk : List Oper := opsOf Tryz.f8 16
def wsSk (J : World → Prop) (_B _pb _vb _vo _vc : Nat) (_xa : Option Addr) (_xc : Nat) (W0 : World) (L : Nat → Bool) (u : Value) (w : World) : Prop := (L 37 = false → Grew W0 w) ∧ (L 37 = true → J w) ∧ (L 11 = true → L 37 = false → IsB w u [115])
theorem wsSk_same (J : World → Prop) (B pb vb vo vc : Nat) (xa : Option Addr) (xc : Nat) {W0 : World} {L : Nat → Bool} {i : Nat} {u : Value} {w : World} (k11 : ((11 : Nat) == i) = false) (k37 : ((37 : Nat) == i) = false) (h : wsSk J B pb vb vo vc xa xc W0 L u w) : wsSk J B pb vb vo vc xa xc W0 (fun j => L j || j == i) u w := by
  unfold wsSk at h ⊢
  simp only [beq_noF k11, beq_noF k37]
  exact h
set_option maxRecDepth 100000 in
set_option maxHeartbeats 4000000 in
theorem wakes16_r (J : World → Prop) (B pb vb vo vc : Nat) (xa : Option Addr) (xc : Nat) (a : Act) (w : World) (Q : Exit → Act → World → Prop) (hN : a.tmps.size = 113) (h4 : a.tmps.getD 4 undef = .pointer (some ⟨pb, 0, none⟩)) (h9 : a.tmps.getD 9 undef = .pointer (some ⟨B, 0, none⟩)) (h11 : a.tmps.getD 11 undef = .slice (some ⟨vb, vo, none⟩) 1 vc) (hpl : pb < w.heap.size) (hvl : vb < w.heap.size) (p0 : w.cell? ⟨pb, 0, none⟩ = some (.int .u64 2)) (p1 : w.cell? ⟨pb, 1, none⟩ = some (.int .i64 1)) (y0 : w.cell? ⟨vb, vo, none⟩ = some (.int .u64 3)) (y3 : w.cell? ⟨vb, vo + 3, none⟩ = some (.slice xa 1 xc)) (hx : HasA w w.heap.size xa [120]) (hP : ∀ w', Grew w w' → Calls Tryz.prog 25 #[.pointer (some ⟨B, 0, none⟩)] w' fun e W' => e = .returned (.agg #[.int .u64 2, .int .i64 1]) ∧ Grew w' W') (hB : ∀ w', Grew w w' → Calls Tryz.prog 26 #[.pointer (some ⟨B, 0, none⟩)] w' fun e W' => e = .returned (.int .u64 2) ∧ Grew w' W') (hS : ∀ w', Grew w w' → Calls Tryz.prog 30 #[.pointer (some ⟨B, 0, none⟩)] w' fun e W' => ∃ v, e = .returned v ∧ IsB W' v [115] ∧ Grew w' W') (hX : ∀ w', Grew w w' → Calls Tryz.prog 17 #[.pointer (some ⟨B, 0, none⟩), .int .u64 2, .slice none 0 0] w' fun e W' => e = .returned (.int .i64 31) ∧ J W') (hW0 : wsSk J B pb vb vo vc xa xc w.drew (fun _ => false) undef w.drew) (hQ : ∀ (u : Value) w', wsSk J B pb vb vo vc xa xc w.drew (fun _ => true) u w' → Q .normal (puts [(73, .pointer (some ⟨B, 0, none⟩)), (74, .agg #[.int .u64 2, .int .i64 1]), (75, .agg #[.int .u64 2, .int .i64 1]), (76, .bool true), (77, .bool true), (78, .pointer (some ⟨B, 0, none⟩)), (79, .int .u64 2), (80, .bool true), (81, .bool true), (82, .bool true), (83, .pointer (some ⟨B, 0, none⟩)), (84, u), (85, .string (str [115])), (86, .bool true), (87, .bool true), (88, .bool true), (89, .slice (some ⟨vb, vo, none⟩) 1 vc), (90, .int .i64 1), (91, .bool true), (92, .bool true), (93, .bool true), (94, .slice (some ⟨vb, vo, none⟩) 1 vc), (95, .pointer (some ⟨vb, vo, none⟩)), (96, .pointer (some ⟨vb, vo, none⟩)), (97, .int .u64 3), (98, .bool true), (99, .bool true), (100, .bool true), (101, .slice (some ⟨vb, vo, none⟩) 1 vc), (102, .pointer (some ⟨vb, vo, none⟩)), (103, .pointer (some ⟨vb, vo + 3, none⟩)), (104, .slice xa 1 xc), (105, .string (str [120])), (106, .bool true), (107, .bool true), (108, .bool true), (109, .pointer (some ⟨B, 0, none⟩)), (110, .int .i64 31), (111, .bool true), (112, .bool true), (0, .bool true)] a) w')
    : (Code.region 16 opsSk.toArray true).wp Tryz.prog Q a w := by
  refine region_c (U := Value) 113 opsSk [(4, .pointer (some ⟨pb, 0, none⟩)), (9, .pointer (some ⟨B, 0, none⟩)), (11, .slice (some ⟨vb, vo, none⟩) 1 vc)] [1, 6, 11, 12, 37] (fun u => [.pointer (some ⟨B, 0, none⟩), .agg #[.int .u64 2, .int .i64 1], .agg #[.int .u64 2, .int .i64 1], .bool true, .bool true, .pointer (some ⟨B, 0, none⟩), .int .u64 2, .bool true, .bool true, .bool true, .pointer (some ⟨B, 0, none⟩), u, .string (str [115]), .bool true, .bool true, .bool true, .slice (some ⟨vb, vo, none⟩) 1 vc, .int .i64 1, .bool true, .bool true, .bool true, .slice (some ⟨vb, vo, none⟩) 1 vc, .pointer (some ⟨vb, vo, none⟩), .pointer (some ⟨vb, vo, none⟩), .int .u64 3, .bool true, .bool true, .bool true, .slice (some ⟨vb, vo, none⟩) 1 vc, .pointer (some ⟨vb, vo, none⟩), .pointer (some ⟨vb, vo + 3, none⟩), .slice xa 1 xc, .string (str [120]), .bool true, .bool true, .bool true, .pointer (some ⟨B, 0, none⟩), .int .i64 31, .bool true, .bool true, .bool true]) (wsSk J B pb vb vo vc xa xc w.drew) undef follows (by kernel_rfl) hN ⟨h4, h9, h11, trivial⟩ (fun _ => Nat.le_of_ble_eq_true rfl) hW0 (fun _ _ _ _ hi h => wsSk_same _ _ _ _ _ _ _ _ (key_ne hi rfl) (key_ne hi rfl) h) ?_ ?_ ?_
  · intro L u w' hW hcl
    have nL : ∀ i, reachB opsSk 30 37 i = true → L i = false → L 37 = false := fun i h n => not_yetF hcl 30 h n
    exact ⟨fun _ => rfl, trivial, fun n => ob_load (ldBA _ _ _ _ _ (((Grew.undraw (hW.1 (nL 2 (by kernel_rfl) n))).cell (p := ⟨pb, 0, none⟩) hpl).trans p0) (((Grew.undraw (hW.1 (nL 2 (by kernel_rfl) n))).cell (p := ⟨pb, 1, none⟩) hpl).trans p1)), fun _ => ob_bin (guardBa _ _ _ _ _ _) (eqBaW _ _ _), fun _ => rfl, fun _ => rfl, trivial, fun _ => ob_bin (guard_int _ _ _ _ _ _ _ _ _) ((run_eqi _ _ _ _ _).trans (by rfl)), fun _ => ob_pick rfl rfl, fun _ => rfl, fun _ => rfl, trivial, trivial, fun _ => ob_bin (guard_str _ _ _ _ _ _ _) (eqS115 _), fun _ => ob_pick rfl rfl, fun _ => rfl, fun _ => rfl, fun _ => ob_len Tryz.underlying65 rfl, fun _ => ob_bin (guard_int _ _ _ _ _ _ _ _ _) ((run_eqi _ _ _ _ _).trans (by rfl)), fun _ => ob_pick rfl rfl, fun _ => rfl, fun _ => rfl, fun _ => ob_idx (ixVo0 _ _ _ _), fun _ => ob_fld (fdVo0 _ _ _), fun n => ob_load (ldW6 _ _ _ (((Grew.undraw (hW.1 (nL 24 (by kernel_rfl) n))).cell (p := ⟨vb, vo, none⟩) hvl).trans y0)), fun _ => ob_bin (guard_int _ _ _ _ _ _ _ _ _) ((run_eqi _ _ _ _ _).trans (by rfl)), fun _ => ob_pick rfl rfl, fun _ => rfl, fun _ => rfl, fun _ => ob_idx (ixVo0 _ _ _ _), fun _ => ob_fld (fdVo2 _ _ _), fun n => ob_load (ldWb _ _ _ (((Grew.undraw (hW.1 (nL 31 (by kernel_rfl) n))).cell (p := ⟨vb, vo + 3, none⟩) hvl).trans y3)), fun n => ob_cv (run_conv (HasA.below' hx (Grew.undraw (hW.1 (nL 32 (by kernel_rfl) n)))) _ Tryz.underlying39 Tryz.underlying5 Tryz.underlying9 rfl), fun _ => ob_bin (guard_str _ _ _ _ _ _ _) (eqS120 _), fun _ => ob_pick rfl rfl, fun _ => rfl, fun _ => rfl, trivial, fun _ => ob_bin (guard_int _ _ _ _ _ _ _ _ _) ((run_eqi _ _ _ _ _).trans (by rfl)), fun _ => ob_pick rfl rfl, fun _ => rfl, trivial⟩
  · refine ⟨?_, ?_, ?_, ?_, ?_, trivial⟩
    · rintro o ho L u a' w' hLi hpre hcl hR hW fin
      have hio := (nthO_eq _ _).symm.trans ho
      cases ho
      have q0 : a'.tmps.getD 73 undef = .pointer (some ⟨B, 0, none⟩) := hR.val 0 _ 73 rfl rfl (edge_ofF hpre 0 rfl)
      refine step_callD hio rfl rfl (enters_of Tryz.func25 (by kernel_rfl) rfl) (show Array.map a'.eval #[.tmp 73] = _ from by simp only [List.map_toArray, List.map_cons, List.map_nil, Act.eval, q0]) ((hP w' (Grew.undraw (hW.1 (not_yetF hcl 30 (show reachB opsSk 30 37 1 = true by kernel_rfl) hLi)))).mono ?_)
      rintro e w'' ⟨rfl, hb⟩
      have hW2 : wsSk J B pb vb vo vc xa xc w.drew (fun j => L j || j == 1) u w'' := by
        obtain ⟨w1, w2, w3⟩ := hW
        have n37 : L 37 = false := not_yetF hcl 30 (show reachB opsSk 30 37 1 = true by kernel_rfl) hLi
        refine ⟨fun _ => (w1 n37).trans hb, fun h => ?_, fun h1 _ => IsB.grew (w3 (by simpa using h1) n37) hb⟩
        simp [n37] at h
      exact ⟨_, rfl, (fin (u) (.agg #[.int .u64 2, .int .i64 1]) _ (fun _ => rfl) (fun _ _ => rfl) (hW2))⟩
    · rintro o ho L u a' w' hLi hpre hcl hR hW fin
      have hio := (nthO_eq _ _).symm.trans ho
      cases ho
      have q4 : a'.tmps.getD 77 undef = .bool true := hR.val 4 _ 77 rfl rfl (edge_ofF hpre 4 rfl)
      have q5 : a'.tmps.getD 78 undef = .pointer (some ⟨B, 0, none⟩) := hR.val 5 _ 78 rfl rfl (edge_ofF hpre 5 rfl)
      refine step_callD hio (wanted_on rfl (show opsSk.toArray[4]? = some _ from rfl) rfl q4) rfl (enters_of Tryz.func26 (by kernel_rfl) rfl) (show Array.map a'.eval #[.tmp 78] = _ from by simp only [List.map_toArray, List.map_cons, List.map_nil, Act.eval, q5]) ((hB w' (Grew.undraw (hW.1 (not_yetF hcl 30 (show reachB opsSk 30 37 6 = true by kernel_rfl) hLi)))).mono ?_)
      rintro e w'' ⟨rfl, hb⟩
      have hW2 : wsSk J B pb vb vo vc xa xc w.drew (fun j => L j || j == 6) u w'' := by
        obtain ⟨w1, w2, w3⟩ := hW
        have n37 : L 37 = false := not_yetF hcl 30 (show reachB opsSk 30 37 6 = true by kernel_rfl) hLi
        refine ⟨fun _ => (w1 n37).trans hb, fun h => ?_, fun h1 _ => IsB.grew (w3 (by simpa using h1) n37) hb⟩
        simp [n37] at h
      exact ⟨_, rfl, (fin (u) (.int .u64 2) _ (fun _ => rfl) (fun _ _ => rfl) (hW2))⟩
    · rintro o ho L u a' w' hLi hpre hcl hR hW fin
      have hio := (nthO_eq _ _).symm.trans ho
      cases ho
      have q9 : a'.tmps.getD 82 undef = .bool true := hR.val 9 _ 82 rfl rfl (edge_ofF hpre 9 rfl)
      have q10 : a'.tmps.getD 83 undef = .pointer (some ⟨B, 0, none⟩) := hR.val 10 _ 83 rfl rfl (edge_ofF hpre 10 rfl)
      have n37 : L 37 = false := not_yetF hcl 30 (show reachB opsSk 30 37 11 = true by kernel_rfl) hLi
      refine step_callD hio (wanted_on rfl (show opsSk.toArray[9]? = some _ from rfl) rfl q9) rfl (enters_of Tryz.func30 (by kernel_rfl) rfl) (show Array.map a'.eval #[.tmp 83] = _ from by simp only [List.map_toArray, List.map_cons, List.map_nil, Act.eval, q10]) ((hS w' (Grew.undraw (hW.1 n37))).mono ?_)
      rintro e w'' ⟨v, rfl, hv, hb⟩
      have hW2 : wsSk J B pb vb vo vc xa xc w.drew (fun j => L j || j == 11) v w'' := by
        obtain ⟨w1, w2, w3⟩ := hW
        refine ⟨fun _ => (w1 n37).trans hb, fun h => ?_, fun _ _ => hv⟩
        simp [n37] at h
      exact ⟨_, rfl, (fin (v) _ _ (fun _ => rfl) (fun j hj => by
        rcases j with _ | _ | _ | _ | _ | _ | _ | _ | _ | _ | _ | _ | _ | _ | _ | _ | _ | _ | _ | _ | _ | _ | _ | _ | _ | _ | _ | _ | _ | _ | _ | _ | _ | _ | _ | _ | _ | _ | _ | _ | _ | j <;> first | rfl | exact Bool.noConfusion (hj.symm.trans hLi) | exact Bool.noConfusion (hj.symm.trans (not_yetF hcl 30 (by kernel_rfl) hLi))) (hW2))⟩
    · rintro o ho L u a' w' hLi hpre hcl hR hW fin
      have hio := (nthO_eq _ _).symm.trans ho
      cases ho
      have q9 : a'.tmps.getD 82 undef = .bool true := hR.val 9 _ 82 rfl rfl (edge_ofF hpre 9 rfl)
      have q11 : a'.tmps.getD 84 undef = u := hR.val 11 _ 84 rfl rfl (edge_ofF hpre 11 rfl)
      exact step_cv hio (wanted_on rfl (show opsSk.toArray[9]? = some _ from rfl) rfl q9) rfl q11 (IsB.conv (hW.2.2 (edge_ofF hpre 11 rfl) (not_yetF hcl 30 (show reachB opsSk 30 37 12 = true by kernel_rfl) hLi))) (fin (u) (.string (str [115])) _ (fun _ => rfl) (fun _ _ => rfl) (wsSk_same _ _ _ _ _ _ _ _ rfl rfl hW))
    · rintro o ho L u a' w' hLi hpre hcl hR hW fin
      have hio := (nthO_eq _ _).symm.trans ho
      cases ho
      have q35 : a'.tmps.getD 108 undef = .bool true := hR.val 35 _ 108 rfl rfl (edge_ofF hpre 35 rfl)
      have q36 : a'.tmps.getD 109 undef = .pointer (some ⟨B, 0, none⟩) := hR.val 36 _ 109 rfl rfl (edge_ofF hpre 36 rfl)
      refine step_callD hio (wanted_on rfl (show opsSk.toArray[35]? = some _ from rfl) rfl q35) rfl (enters_of Tryz.func17 (by kernel_rfl) rfl) (show Array.map a'.eval #[.tmp 109, .const (Value.int IntKind.u64 2), .const (Value.slice none 0 0)] = _ from by simp only [List.map_toArray, List.map_cons, List.map_nil, Act.eval, q36]) ((hX w' (Grew.undraw (hW.1 hLi))).mono ?_)
      rintro e w'' ⟨rfl, hJ⟩
      have hW2 : wsSk J B pb vb vo vc xa xc w.drew (fun j => L j || j == 37) u w'' := by
        refine ⟨fun h => ?_, fun _ => hJ, fun _ h => ?_⟩
        · simp at h
        · simp at h
      exact ⟨_, rfl, (fin (u) (.int .i64 31) _ (fun _ => rfl) (fun _ _ => rfl) (hW2))⟩
  · intro L u w' hl hW
    refine hQ u w' ?_
    unfold wsSk at hW ⊢
    simp only [hl 11 (Nat.le_of_ble_eq_true rfl), hl 37 (Nat.le_of_ble_eq_true rfl)] at hW ⊢
    exact hW
end Go.Proofs.YtdiihaeelcbjbaaGreatDoor

-- StWk
namespace Go.Proofs.YtdiihaeelcbjbaaGreatDoor
open Go.RowKit

theorem fit_um {u : UM} (hu : u.ok) (hf : u.k = 3 ∨ u.b.fit) : Fit (bytesUM u) := by
  have h := bytesUM_len hu hf
  have h2 := hu.x
  exact ⟨h.1, by omega⟩
/-- A set that may be, on a disk without a fuse. -/
theorem SM.on_put {s : SM} {d : DS} {u : UM} (hm : s.may u = 0) (hu : u.ok) (hd : d.dead = false) (hf : d.f = none) : s.on d u = (({ d with A := d.A ++ frm (bytesUM u) }, s.upd u), 0) := by
  have hF := fit_um hu (may_fit hm)
  have hr : d.recd (bytesUM u) = ({ d with A := d.A ++ frm (bytesUM u) }, 0) := by
    unfold DS.recd DS.app
    rw [hd, hf, if_neg (by decide), if_pos (show 1 ≤ (bytesUM u).length ∧ (bytesUM u).length ≤ 65536 from hF), if_neg (by decide)]
  unfold SM.on
  rw [if_neg (fun h => h hm), hr]
  rfl
theorem SM.on_not {s : SM} {d : DS} {u : UM} (hm : s.may u ≠ 0) : s.on d u = ((d, s), s.may u) := by
  unfold SM.on
  rw [if_pos hm]
def uW1 : UM := ⟨2, 3, ⟨2, 1⟩, [120]⟩
def uW2 : UM := ⟨3, 2, B0, [115]⟩
def sW1 : SM := SM.new.upd uW1
def sW2 : SM := sW1.upd uW2
theorem uW1_ok : uW1.ok := um2 (by decide) ⟨by decide, by decide, by decide⟩ (by decide)
theorem uW2_ok : uW2.ok := um3 (by decide) (by decide)
theorem mW1 : SM.new.may uW1 = 0 := by decide
theorem mW2 : sW1.may uW2 = 0 := by decide
theorem mW0 : sW1.may ⟨1, 0, ⟨2, 0⟩, []⟩ = 1 := by decide
theorem mW3 : sW2.may ⟨3, 2, B0, []⟩ = 31 := by decide
def dW (l : List UM) (y : Nat) : DS := ⟨frms (l.map bytesUM), y, false, none⟩
theorem opened_new : DS.new.opened = dW [] 0 := by
  have h := opn_again [] (fun x hx => by cases hx)
  rw [frms_nil] at h
  unfold DS.opened
  rw [show (opn DS.new.A DS.new.y) = ([], 0, 0) from h]
  rfl
theorem on_dW {s : SM} {l : List UM} {y : Nat} {u : UM} (hm : s.may u = 0) (hu : u.ok) : s.on (dW l y) u = ((dW (l ++ [u]) y, s.upd u), 0) := by
  rw [SM.on_put hm hu rfl rfl]
  show ((_, _), 0) = ((DS.mk _ _ _ _, _), 0)
  rw [List.map_append, frms_append, List.map_cons, List.map_nil, frms_cons, frms_nil, List.append_nil]
  rfl
theorem chainW : Chain [uW1, uW2] SM.new := ⟨uW1_ok, mW1, uW2_ok, mW2, trivial⟩
theorem opn_dW {l : List UM} (hc : Chain l SM.new) : opn (dW l (dW l 0).A.length).A (dW l (dW l 0).A.length).y = (l.map bytesUM, (dW l 0).A.length, 0) := by
  refine opn_again (l.map bytesUM) fun x hx => ?_
  obtain ⟨u, hu, rfl⟩ := List.mem_map.1 hx
  have h : ∀ (l : List UM) (s : SM), Chain l s → ∀ u ∈ l, u.ok ∧ (u.k = 3 ∨ u.b.fit) := by
    intro l
    induction l with
    | nil => intro _ _ u hu; cases hu
    | cons a l ih =>
      intro s h u hu
      rcases List.mem_cons.1 hu with rfl | hu
      · exact ⟨h.1, may_fit h.2.1⟩
      · exact ih _ h.2.2 u hu
  obtain ⟨h1, h2⟩ := h l _ hc u hu
  exact fit_um h1 h2
theorem opened_dW {l : List UM} (hc : Chain l SM.new) : (dW l (dW l 0).A.length).opened = dW l (dW l 0).A.length := by
  unfold DS.opened
  rw [opn_dW hc]
  show DS.mk _ _ _ _ = DS.mk _ _ _ _
  rw [show (dW l (dW l 0).A.length).A.take (dW l 0).A.length = frms (l.map bytesUM) from List.take_length]
  rfl
/-- Opened beside what is protected. -/
theorem LiveT.reopen {P : DiskK} {K : StabK P} {w W : World} {R B : Nat} {d : DS} {s s' : SM} {Q : Nat → Prop} (h : LiveT K w R B d s Q W) (hT : Tab w) (hd : d.dead = false) (ho : (opn d.A d.y).2.2 = 0) (hs : ofS (opn d.A d.y).1 SM.new = some s') (hok : s'.ok) (hl : d.A.length ≤ 100000) : Calls Tryz.prog 13 #[.pointer (some ⟨R, 0, none⟩)] W fun e W' => ∃ B', e = .returned (.tuple #[.pointer (some ⟨B', 0, none⟩), .int .i64 0]) ∧ LiveT K w R B' d.opened s' Q W' ∧ ∃ Z, Only Z W W' ∧ ∀ k, Z k → w.heap.size ≤ k ∧ ¬ Q k := by
  obtain ⟨F, G, h1, h2, h3, h4⟩ := h.ex
  refine (K.opens (hT.grew h.below) h1 hd ho hs hok hl (fun k hk => Nat.lt_of_lt_of_le hT.1 (h4 k (.inl hk)).1)).mono ?_
  rintro e W' ⟨B', F', G', he, k1, k2, k3, k4, k5⟩
  refine ⟨B', he, ⟨⟨F', G', k1, k2, fun k hk => (k5 k hk).2, fun k hk => ?_⟩, h.below.trans (k3.below h.below.size fun k hk => (h4 k (.inl hk)).1), fun k hk => Nat.lt_of_lt_of_le (h.q k hk) k3.size, hok⟩, F, k3, fun k hk => h4 k (.inl hk)⟩
  have hnew : W.heap.size ≤ k → w.heap.size ≤ k ∧ ¬ Q k := fun hk => ⟨Nat.le_trans h.below.size hk, fun hq => by have := h.q k hq; omega⟩
  rcases hk with hk | hk
  · rcases k4 k hk with h' | h'
    · exact h4 k (.inl h')
    · exact hnew h'
  · exact hnew (k5 k hk).1
theorem LiveT.less {P : DiskK} {K : StabK P} {w W : World} {R B : Nat} {d : DS} {s : SM} {Q Q' : Nat → Prop} (h : LiveT K w R B d s Q W) (hq : ∀ k, Q' k → Q k) : LiveT K w R B d s Q' W := by
  obtain ⟨F, G, h1, h2, h3, h4⟩ := h.ex
  exact ⟨⟨F, G, h1, h2, h3, fun k hk => ⟨(h4 k hk).1, fun h' => (h4 k hk).2 (hq k h')⟩⟩, h.below, fun k hk => h.q k (hq k hk), h.ok⟩
theorem hasA_lit (w : World) (bs : List UInt8) (fr : Nat × Nat) : HasA (w.alloc (.cells (bs.map enc).toArray 5 fr)) (w.alloc (.cells (bs.map enc).toArray 5 fr)).heap.size (some ⟨w.heap.size, 0, none⟩) bs := fun _ =>
  ⟨w.heap.size, 0, rfl, by simp, fun i hi => by
    rw [World.cell?_alloc_mark]; simp [hi]⟩
/-- The store of wakes, and its ballot in a block. -/
def WkI {P : DiskK} (K : StabK P) (w : World) (R B pb : Nat) (d : DS) (s : SM) (W : World) : Prop := LiveT K w R B d s (fun k => k = pb) W ∧ W.heap[pb]? = some (.cells #[.int .u64 2, .int .i64 1] 25 (0, 0))
section
variable {P : DiskK} {K : StabK P} {w W W' : World} {R B B' pb : Nat} {d d' : DS} {s s' : SM}
theorem WkI.next (h : WkI K w R B pb d s W) (h2 : LiveT K w R B' d' s' (fun k => k = pb) W') (hz : ∃ Z, Only Z W W' ∧ ∀ k, Z k → w.heap.size ≤ k ∧ ¬ (k = pb)) : WkI K w R B' pb d' s' W' := by
  obtain ⟨Z, o, hZ⟩ := hz
  exact ⟨h2, (o.block pb (h.1.q pb rfl) fun hk => (hZ _ hk).2 rfl).trans h.2⟩
theorem WkI.grew (h : WkI K w R B pb d s W) (hb : Below W.heap.size W W') : WkI K w R B pb d s W' := ⟨h.1.grew hb, (hb.block pb (h.1.q pb rfl)).trans h.2⟩
end
theorem frm_small {u : UM} (hu : u.ok) (hf : u.k = 3 ∨ u.b.fit) : (frm (bytesUM u)).length ≤ u.x.length + 70 := by
  have h := bytesUM_len hu hf
  have h2 := hu.x
  have h3 := vb_len10 (show (bytesUM u).length < 18446744073709551616 by omega)
  rw [frm_length]
  omega
theorem lenW1 : (dW [uW1] 0).A.length ≤ 100 := by
  have h := frm_small uW1_ok (may_fit mW1)
  show (frms [bytesUM uW1]).length ≤ _
  rw [frms_cons, frms_nil, List.append_nil]
  exact Nat.le_trans h (by decide)
theorem lenW2 : (dW [uW1, uW2] 0).A.length ≤ 200 := by
  have h := frm_small uW1_ok (may_fit mW1)
  have h2 := frm_small uW2_ok (may_fit mW2)
  have e1 : uW1.x.length = 1 := rfl
  have e2 : uW2.x.length = 1 := rfl
  show (frms [bytesUM uW1, bytesUM uW2]).length ≤ _
  rw [frms_cons, frms_cons, frms_nil, List.append_nil, List.length_append]
  omega
theorem crash_dW (l : List UM) : (dW l (dW l 0).A.length).crash 0 = (⟨frms (l.map bytesUM), (dW l 0).A.length, true, none⟩, 0) := by
  unfold DS.crash
  rw [if_neg (show ¬ (dW l (dW l 0).A.length).dead = true from fun h => by cases h), if_neg (show ¬ ((0 : Int) ≤ 0 ∧ (0 : Int) < (((dW l (dW l 0).A.length).A.length - (dW l (dW l 0).A.length).y : Nat) : Int)) from fun h => by
    have h2 := h.2
    rw [show (dW l (dW l 0).A.length).A.length - (dW l (dW l 0).A.length).y = 0 from Nat.sub_self _] at h2
    omega)]
  rfl
theorem ofS_W : ofS ([uW1, uW2].map bytesUM) SM.new = some sW2 := ofS_put _ _ chainW
def dW2 : DS := dW [uW1, uW2] (dW [uW1, uW2] 0).A.length
set_option maxRecDepth 100000 in
set_option maxHeartbeats 4000000 in
theorem wakes16_any {P : DiskK} (K : StabK P) (w : World) (hT : Tab w) : Calls Tryz.prog 8 #[] w fun e W' => e = .returned (.bool true) ∧ Below w.heap.size w W' := by
  have HT := Lib.hid hT
  have HN := Lib.hid (LiveD.new P w)
  clear hT
  go_enter Tryz.func8, Tryz.ntmps8
  go_wp2_with fail
  refine HN.out.mono ?_
  rintro e W1 ⟨R, rfl, l1⟩
  have o0 := opn_again [] (fun x hx => by cases hx)
  have kc := fun (w : World) (C : Array Value) (n c : Nat) => Lib.run_convert_bytes_const (P := Tryz.prog) w 39 5 C n c Tryz.underlying39 Tryz.underlying5
  have HO := Lib.hid (LiveT.of_open K l1 HT.out rfl (show (opn DS.new.A DS.new.y).2.2 = 0 from congrArg (fun x => x.2.2) o0) (show ofS (opn DS.new.A DS.new.y).1 SM.new = some SM.new from (congrArg (fun x : List (List UInt8) × Nat × Nat => ofS x.1 SM.new) o0).trans rfl) SM.ok_new (by decide))
  clear l1 o0 HN
  go_wp2_with fail
  refine HO.out.mono ?_
  rintro e W2 ⟨B, rfl, l2⟩
  rw [opened_new] at l2
  have L2 := Lib.hid l2
  clear l2 HO
  go_upto_region 6 with (fail)
  obtain ⟨W3, hW3⟩ : ∃ W3, W3 = W2.alloc (.cells #[.int .u64 2, .int .i64 1] 25) := ⟨_, rfl⟩
  rw [← hW3]
  obtain ⟨b3, k3, s3⟩ := boxBA hW3
  obtain ⟨pb, hpb⟩ : ∃ p, p = W2.heap.size := ⟨_, rfl⟩
  rw [← hpb] at k3 ⊢
  have L3 := Lib.hid (show WkI K w R B pb (dW [] 0) SM.new W3 from ⟨(L2.out.more b3 (Z := fun k => k = pb) (fun k e => by rw [show k = pb from e, hpb]; exact Nat.le_refl _) (fun k e => by rw [show k = pb from e, hpb, s3]; exact Nat.lt_succ_self _)).less fun k hk => .inl hk, k3⟩)
  have L3' := Lib.hid (L3.out.grew (W' := W3.alloc (.cells #[.int .u8 120] 5 (1, 2))) ((Below.refl _ _).alloc (Nat.le_refl _) _))
  have H3 := Lib.hid (show Calls Tryz.prog 29 #[.pointer (some ⟨B, 0, none⟩), .agg #[.int .u64 3, .int .u64 2, .int .i64 1, .slice (some ⟨W3.heap.size, 0, none⟩) 1 1]] (W3.alloc (.cells #[.int .u8 120] 5 (1, 2))) fun e W' => e = .returned (.int .i64 0) ∧ WkI K w R B pb (dW [uW1] 0) sW1 W' from by
    have h := L3'.out.1.setV HT.out 3 ⟨2, 1⟩ (some ⟨W3.heap.size, 0, none⟩) 1 1 [120] (by decide) ⟨by decide, by decide, by decide⟩ rfl (Nat.le_refl _) (by decide) (hasA_lit W3 [120] _) (by decide) (by decide)
    rw [show SM.on SM.new (dW [] 0) ⟨2, 3, ⟨2, 1⟩, [120]⟩ = ((dW [uW1] 0, sW1), 0) from on_dW mW1 uW1_ok] at h
    exact h.mono fun e W' ⟨h1, h2, h3⟩ => ⟨h1, L3'.out.next h2 h3⟩)
  have p0 : W3.cell? ⟨pb, 0, none⟩ = some (.int .u64 2) := by rw [blk_cell k3 0]; rfl
  have p1 : W3.cell? ⟨pb, 1, none⟩ = some (.int .i64 1) := by rw [blk_cell k3 1]; rfl
  clear L2 hW3 b3 k3 s3 hpb L3'
  go_wp2_with fail
  refine H3.out.mono ?_
  rintro e W4 ⟨rfl, l4⟩
  have L4 := Lib.hid l4
  have H4 := Lib.hid (show Calls Tryz.prog 15 #[.pointer (some ⟨B, 0, none⟩), .agg #[.int .u64 2, .int .i64 0]] W4 fun e W' => e = .returned (.int .i64 1) ∧ WkI K w R B pb (dW [uW1] 0) sW1 W' from by
    have h := L4.out.1.setP HT.out ⟨2, 0⟩ ⟨by decide, by decide, by decide⟩ (by decide) (Nat.le_trans lenW1 (by decide))
    rw [show SM.on sW1 (dW [uW1] 0) ⟨1, 0, ⟨2, 0⟩, []⟩ = ((dW [uW1] 0, sW1), 1) from (SM.on_not (by rw [mW0]; decide)).trans (by rw [mW0])] at h
    exact h.mono fun e W' ⟨h1, h2, h3⟩ => ⟨h1, L4.out.next h2 h3⟩)
  clear l4 L3 H3 p0 p1
  go_wp2_with fail
  refine H4.out.mono ?_
  rintro e W5 ⟨rfl, l5⟩
  have L5 := Lib.hid (WkI.grew l5 (W' := W5.alloc (.cells #[.int .u8 115] 5 (1, 2))) ((Below.refl _ _).alloc (Nat.le_refl _) _))
  have H5 := Lib.hid (show Calls Tryz.prog 17 #[.pointer (some ⟨B, 0, none⟩), .int .u64 2, .slice (some ⟨W5.heap.size, 0, none⟩) 1 1] (W5.alloc (.cells #[.int .u8 115] 5 (1, 2))) fun e W' => e = .returned (.int .i64 0) ∧ WkI K w R B pb (dW [uW1, uW2] 0) sW2 W' from by
    have h := L5.out.1.setS HT.out 2 (some ⟨W5.heap.size, 0, none⟩) 1 1 [115] (by decide) rfl (Nat.le_refl _) (by decide) (hasA_lit W5 [115] _) (by decide) (Nat.le_trans lenW1 (by decide))
    rw [show SM.on sW1 (dW [uW1] 0) ⟨3, 2, B0, [115]⟩ = ((dW [uW1, uW2] 0, sW2), 0) from on_dW mW2 uW2_ok] at h
    exact h.mono fun e W' ⟨h1, h2, h3⟩ => ⟨h1, L5.out.next h2 h3⟩)
  clear l5 L4 H4
  go_wp2_with fail
  refine H5.out.mono ?_
  rintro e W6 ⟨rfl, l6⟩
  have L6 := Lib.hid l6
  clear l6 L5 H5 kc
  go_wp2_with fail
  refine L6.out.1.sync.mono ?_
  rintro e W7 ⟨he, h7, hz⟩
  obtain rfl : e = .returned (.int .i64 0) := he
  have L7 := Lib.hid (show WkI K w R B pb dW2 sW2 W7 from L6.out.next h7 hz)
  clear h7 hz L6
  go_wp2_with fail
  refine (L7.out.1.crash 0 ⟨by decide, by decide⟩).mono ?_
  rintro e W8 ⟨he, h8, hz⟩
  rw [show dW2.crash 0 = _ from crash_dW _] at he h8
  obtain rfl : e = .returned (.int .i64 0) := he
  have L8 := Lib.hid (L7.out.next h8 hz)
  clear h8 hz L7
  go_wp2_with fail
  refine L8.out.1.restart.mono ?_
  rintro e W9 ⟨he, h9, hz⟩
  obtain rfl : e = .returned (.int .i64 0) := he
  have L9 := Lib.hid (show WkI K w R B pb dW2 sW2 W9 from L8.out.next h9 hz)
  have H9 := Lib.hid (show Calls Tryz.prog 13 #[.pointer (some ⟨R, 0, none⟩)] W9 fun e W' => ∃ B', e = .returned (.tuple #[.pointer (some ⟨B', 0, none⟩), .int .i64 0]) ∧ WkI K w R B' pb dW2 sW2 W' from by
    have h := L9.out.1.reopen HT.out rfl (s' := sW2) (by rw [show opn dW2.A dW2.y = _ from opn_dW chainW]) (by rw [show opn dW2.A dW2.y = _ from opn_dW chainW]; exact ofS_W) L9.out.1.ok (Nat.le_trans lenW2 (by decide))
    rw [show dW2.opened = dW2 from opened_dW chainW] at h
    exact h.mono fun e W' ⟨B', h1, h2, h3⟩ => ⟨B', h1, L9.out.next h2 h3⟩)
  clear h9 hz L8
  go_wp2_with fail
  refine H9.out.mono ?_
  rintro e W10 ⟨B', rfl, l10⟩
  have L10 := Lib.hid l10
  have H10 := Lib.hid (show Calls Tryz.prog 27 #[.pointer (some ⟨B', 0, none⟩), .int .u64 0] W10 fun e W' => Below W10.heap.size W10 W' ∧ ∃ A c, e = .returned (.slice A 1 c) ∧ HasVM W10.heap.size W' A [⟨3, ⟨2, 1⟩, [120]⟩] from L10.out.1.votes 0 (by decide) (by decide))
  clear l10 L9 H9
  go_wp2_with fail
  refine H10.out.mono ?_
  rintro e W11 ⟨b11, A, c, rfl, hA⟩
  obtain ⟨vb, vo, rfl, -, hvl, hv⟩ := hA (by simp)
  obtain ⟨y, L, c0, -, -, c3, ho⟩ := hv 0 (by decide)
  obtain ⟨xa, xc, rfl⟩ := OwnB.form ho
  have hL := OwnB.len ho
  obtain rfl : L = 1 := hL
  have hx := OwnB.has ho
  have L11 := Lib.hid (L10.out.grew b11)
  clear hA hv L10 H10 b11 ho
  go_upto_region 16 with (fail)
  refine wakes16_r (Below w.heap.size w) B' pb vb vo c xa xc _ W11 _ rfl rfl rfl rfl (L11.out.1.q pb rfl) hvl (by rw [blk_cell L11.out.2 0]; rfl) (by rw [blk_cell L11.out.2 1]; rfl) c0 c3 hx ?_ ?_ ?_ ?_ ⟨fun _ => Grew.refl _, (fun h => by cases h), (fun h => by cases h)⟩ ?_
  · exact fun w' hg => (L11.out.1.grew hg).promise
  · exact fun w' hg => (L11.out.1.grew hg).base
  · exact fun w' hg => (L11.out.1.grew hg).snap.mono fun e W' ⟨y, L, h1, h2, h3⟩ => ⟨y, h1, OwnB.isB h2, h3⟩
  · intro w' hg
    have h := (L11.out.1.grew hg).setS HT.out 2 none 0 0 [] (by decide) rfl (Nat.le_refl _) (by decide) (fun h => absurd rfl h) (by decide) (Nat.le_trans lenW2 (by decide))
    rw [show SM.on sW2 dW2 ⟨3, 2, B0, []⟩ = ((dW2, sW2), 31) from (SM.on_not (by rw [mW3]; decide)).trans (by rw [mW3])] at h
    exact h.mono fun e W' ⟨h1, h2, _⟩ => ⟨h1, h2.below⟩
  intro u W12 hws
  have H12 := Lib.hid (hws.2.1 rfl)
  simp only [puts, List.foldl_cons, List.foldl_nil, Act.put, List.setIfInBounds_toArray, List.set_cons_succ, List.set_cons_zero]
  clear hws hvl c0 c3 hx L11
  go_wp2
  go_ret
  exact ⟨rfl, H12.out⟩
end Go.Proofs.YtdiihaeelcbjbaaGreatDoor
