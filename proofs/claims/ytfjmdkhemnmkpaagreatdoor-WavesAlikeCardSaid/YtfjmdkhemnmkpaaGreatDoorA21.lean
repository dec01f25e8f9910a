/- Parts of the proof: WxAsk, WxCutR, WxCut, WxWave. -/
import Derived.Test.YtfjmdkhemnmkpaaGreatDoorA20
import Derived.Test.YtfjmdkhemnmkpaaGreatDoorA17
import Derived.Recover
import Derived.Test.YtfjmdkhemnmkpaaGreatDoorA18
namespace Go.Proofs.YtfjmdkhemnmkpaaGreatDoor
open Go.RowKit Go.Maps
set_option maxRecDepth 100000 in
theorem first_any (x y z : Int) (w : World) : Calls Tryz.prog 26 #[.int .i64 x, .int .i64 y, .int .i64 z] w fun e W' => e = .returned (.int .i64 0) ∧ W' = w := by
  go_enter Tryz.func26, Tryz.ntmps26
  go_wp2
  go_ret
  exact ⟨rfl, rfl⟩
theorem firstF (F : Nat → Prop) (w0 : World) : PickF F w0 (.func (.func 26) #[] #[]) (picksM []) :=
  ⟨⟨_, _, _, rfl, enters_of Tryz.func26 (by kernel_rfl) rfl, fun wv k n W _ _ _ _ => (first_any wv k n W).mono (by
    rintro e W' ⟨rfl, rfl⟩
    exact ⟨by simp [picksM], Below.refl _ _⟩)⟩, picksM_lim (fun _ h => by simp at h)⟩
set_option maxRecDepth 100000 in
theorem modulo_any (p : Int) (n : Nat) (h0 : 0 < n) (hn : n ≤ 100) (w : World) : Calls Tryz.prog 49 #[.int .i64 p, .int .i64 (n : Int)] w fun e W' => e = .returned (.int .i64 (placeN p n : Int)) ∧ W' = w := by
  have HP := Lib.hid (place_tmod p h0)
  have hni : ¬ (n : Int) = 0 := by omega
  have hq1 : -100 < p.tmod (n : Int) := by have := Int.lt_tmod_of_pos p (show (0 : Int) < n by omega); omega
  have hq2 : p.tmod (n : Int) < 100 := by have := Int.tmod_lt_of_pos p (show (0 : Int) < n by omega); omega
  have hni2 : (n : Int) ≤ 100 := by omega
  by_cases hq0 : p.tmod (n : Int) < 0
  · have hP := HP.out
    rw [if_pos hq0] at hP
    have HP2 := Lib.hid hP
    clear hP
    go_enter Tryz.func49, Tryz.ntmps49
    go_wp2
    rw [HP2.out]
    go_ret
    exact ⟨rfl, rfl⟩
  · have hP := HP.out
    rw [if_neg hq0] at hP
    have HP2 := Lib.hid hP
    clear hP
    go_enter Tryz.func49, Tryz.ntmps49
    go_wp2
    rw [HP2.out]
    go_ret
    exact ⟨rfl, rfl⟩
theorem catch_idle (p5 p6 p7 p8 : Nat) (w : World) :
    CallsD Tryz.prog 79 #[.pointer (some ⟨p5, 0, none⟩), .pointer (some ⟨p6, 0, none⟩), .pointer (some ⟨p7, 0, none⟩), .pointer (some ⟨p8, 0, none⟩)] .returning w fun e u' w' => e = .returned (.tuple #[]) ∧ u' = .returning ∧ w' = w := by
  refine callsD_of_wpS Tryz.func79 rfl fun c₀ cs hu => ?_
  apply wpS_seq
  apply wpS_region
  simp [wpOpsS, go_sem, recoverD, hu, Tryz.ntmps79, Exit.thenS]
  refine wpS_cond (t := false) (by simp [Act.eval, Array.replicate]) ?_
  simp only [Bool.false_eq_true, if_false]
  refine wpS_of_wp (wp_skip ?_)
  cases c₀
  simp_all [bodyPostS, results, Tryz.results79]
set_option maxRecDepth 100000 in
set_option maxHeartbeats 4000000 in
theorem ask_any {F : Nat → Prop} {w W : World} {R b r : Nat} {A : Option Addr} {L c : Nat} {f : Value} {a : AM} {T : Nat → DV} {t : Nat} {pk : Nat → Nat → Nat → Int} (h : RunQ F w R b r A L c f a T t W) (hf : PickF F w f pk) (wv k n : Nat) (hw : wv ≤ 1000) (hk : k ≤ 1000) (hn : n ≤ 1000) :
    Calls Tryz.prog 50 #[.pointer (some ⟨r, 0, none⟩), .int .i64 (wv : Int), .int .i64 (k : Int), .int .i64 (n : Int)] W fun e W' => e = .returned (.int .i64 (pk wv k n)) ∧ Below W.heap.size W W' := by
  obtain ⟨_, _, x2, _, _⟩ := h.at
  have hrl := h.lt
  obtain ⟨fid, fi, ca, rfl, hcf, hcall⟩ := hf.ex
  obtain ⟨p, hp⟩ : ∃ p, p = pk wv k n := ⟨_, rfl⟩
  have HC := Lib.hid (show ∀ V, Below W.heap.size W V → Calls Tryz.prog fid (fi ++ #[.int .i64 (wv : Int), .int .i64 (k : Int), .int .i64 (n : Int)] ++ ca) V fun e W' => e = .returned (.int .i64 p) ∧ Below V.heap.size V W' from fun V hb => by
    rw [hp]
    exact hcall wv k n V (by omega) (by omega) (by omega) (h.go.only.grew hb))
  have HX := Lib.hid (And.intro x2 (And.intro hrl hcf))
  rw [← hp]
  clear h hf hcall hp x2 hrl hcf
  have hmf : ∀ (fn : Fn) (first cap : Array Value) (w : World), (Instr.makeFunc fn first cap).run Tryz.prog w = .ok (.func fn first cap) w := fun _ _ _ _ => rfl
  go_enter_defers Tryz.func50, Tryz.ntmps50
  go_upto_region 1 with (fail)
  obtain ⟨V1, hV1⟩ : ∃ x, x = W.alloc (.cells #[.int .i64 (wv : Int)] 3) := ⟨_, rfl⟩
  rw [← hV1]
  obtain ⟨V2, hV2⟩ : ∃ x, x = V1.alloc (.cells #[.int .i64 (k : Int)] 3) := ⟨_, rfl⟩
  rw [← hV2]
  obtain ⟨V3, hV3⟩ : ∃ x, x = V2.alloc (.cells #[.int .i64 (n : Int)] 3) := ⟨_, rfl⟩
  rw [← hV3]
  obtain ⟨V4, hV4⟩ : ∃ x, x = V3.alloc (.cells #[.int .i64 0] 3) := ⟨_, rfl⟩
  rw [← hV4]
  have s1 : V1.heap.size = W.heap.size + 1 := by rw [hV1]; exact World.size_alloc _ _
  have s2 : V2.heap.size = W.heap.size + 1 + 1 := by rw [hV2, World.size_alloc, s1]
  have s3 : V3.heap.size = W.heap.size + 1 + 1 + 1 := by rw [hV3, World.size_alloc, s2]
  have b1 : Below W.heap.size W V1 := by rw [hV1]; exact (Below.refl _ _).alloc (Nat.le_refl _) _
  have b2 : Below V1.heap.size V1 V2 := by rw [hV2]; exact (Below.refl _ _).alloc (Nat.le_refl _) _
  have b3 : Below V2.heap.size V2 V3 := by rw [hV3]; exact (Below.refl _ _).alloc (Nat.le_refl _) _
  have b4 : Below V3.heap.size V3 V4 := by rw [hV4]; exact (Below.refl _ _).alloc (Nat.le_refl _) _
  have k5 : V4.heap[W.heap.size]? = some (.cells #[.int .i64 (wv : Int)] 3 (0, 0)) := (b4.block _ (by omega)).trans ((b3.block _ (by omega)).trans ((b2.block _ (by omega)).trans (by rw [hV1]; exact World.alloc_heap_new W _)))
  have k6 : V4.heap[W.heap.size + 1]? = some (.cells #[.int .i64 (k : Int)] 3 (0, 0)) := (b4.block _ (by omega)).trans ((b3.block _ (by omega)).trans (by rw [hV2, ← s1]; exact World.alloc_heap_new V1 _))
  have k7 : V4.heap[W.heap.size + 1 + 1]? = some (.cells #[.int .i64 (n : Int)] 3 (0, 0)) := (b4.block _ (by omega)).trans (by rw [hV3, ← s2]; exact World.alloc_heap_new V2 _)
  have k8 : V4.heap[W.heap.size + 1 + 1 + 1]? = some (.cells #[.int .i64 0] 3 (0, 0)) := by rw [hV4, ← s3]; exact World.alloc_heap_new V3 _
  have bb : Below W.heap.size W V4 := ((b1.trans (Below.mono b2 (by omega))).trans (Below.mono b3 (by omega))).trans (Below.mono b4 (by omega))
  obtain ⟨p5, e5⟩ : ∃ x, x = W.heap.size := ⟨_, rfl⟩
  rw [← e5] at k5 k6 k7 k8 ⊢
  obtain ⟨p6, e6⟩ : ∃ x, x = p5 + 1 := ⟨_, rfl⟩
  rw [← e6] at k6 k7 k8 ⊢
  obtain ⟨p7, e7⟩ : ∃ x, x = p6 + 1 := ⟨_, rfl⟩
  rw [← e7] at k7 k8 ⊢
  obtain ⟨p8, e8⟩ : ∃ x, x = p7 + 1 := ⟨_, rfl⟩
  rw [← e8] at k8 ⊢
  have HV := Lib.hid (And.intro k5 (And.intro k6 (And.intro k7 (And.intro k8 (And.intro bb (show W.heap.size ≤ p8 by omega))))))
  clear hV1 hV2 hV3 hV4 s1 s2 s3 b1 b2 b3 b4 k5 k6 k7 k8 bb e5 e6 e7 e8
  go_upto_region 2 with (fail)
  refine wxask r wv k n p5 p6 p7 p8 p fid fi ca _ V4 _ rfl rfl rfl rfl rfl rfl ((HV.out.2.2.2.2.1.cell (p := ⟨r, 2, none⟩) HX.out.2.1).trans HX.out.1) (blk_cell (w := V4) HV.out.1 0) (blk_cell (w := V4) HV.out.2.1 0) (blk_cell (w := V4) HV.out.2.2.1 0) HV.out.2.2.2.1 HX.out.2.2 (HC.out _ HV.out.2.2.2.2.1.drew) ⟨fun _ => rfl, fun h => (by cases h), fun h => (by cases h)⟩ ?_
  intro u V6 hws
  obtain ⟨V5, hb5, rfl⟩ := hws.2.2 rfl
  have h8 := (hb5.block p8 (Array.getElem?_eq_some_iff.1 HV.out.2.2.2.1).1).trans HV.out.2.2.2.1
  have H5 := Lib.hid (And.intro (Below.trans HV.out.2.2.2.2.1.drew (Below.mono hb5 (Nat.le_trans HV.out.2.2.2.2.1.size (Nat.le_refl _)))) h8)
  simp only [puts, List.foldl_cons, List.foldl_nil, Act.put, List.setIfInBounds_toArray, List.set_cons_succ, List.set_cons_zero]
  clear hws hb5 h8 HC HX
  go_wp2
  refine leaves_cons (f := 79) (args := #[.pointer (some ⟨p5, 0, none⟩), .pointer (some ⟨p6, 0, none⟩), .pointer (some ⟨p7, 0, none⟩), .pointer (some ⟨p8, 0, none⟩)]) (by simp) (by simp [go_sem]) ?_
  refine (catch_idle p5 p6 p7 p8 _).mono ?_
  rintro e u' w'' ⟨rfl, rfl, rfl⟩
  have c8 : (V5.setCell ⟨p8, 0, none⟩ (.int .i64 p)).cell? ⟨p8, 0, none⟩ = some (.int .i64 p) := by rw [blk_cell (blk_set H5.out.2 0 _) 0]; rfl
  have hb : Below W.heap.size W (V5.setCell ⟨p8, 0, none⟩ (.int .i64 p)) := ((Only.refl (fun _ => False) W).grew H5.out.1).setCell (p := ⟨p8, 0, none⟩) (.inr HV.out.2.2.2.2.2) _ |>.below (Nat.le_refl _) (fun _ h => h.elim)
  refine ⟨.int .i64 p, ?_, rfl, hb⟩
  simp [results, Tryz.results50, go_sem, c8]
end Go.Proofs.YtfjmdkhemnmkpaaGreatDoor

namespace Go.Proofs.YtfjmdkhemnmkpaaGreatDoor
open Go.RowKit
theorem run_fullI (w : World) (A : Option Addr) (L c N : Nat) (h : N ≤ c) : (Instr.sliceAt 23 (.slice A L c) none (some (.int .i64 (N : Int))) (some (.int .i64 (N : Int)))).run Tryz.prog w = .ok (.slice A N N) w := by
  have h1 : (N : Int) ≤ c := by omega
  cases A <;> simp [go_sem, h1]
theorem run_addOne (w : World) (k : Nat) (h : k ≤ 1000000) : (binOp .add 3 (.int .i64 (k : Int)) (.int .i64 1)).run Tryz.prog w = .ok (.int .i64 ((k + 1 : Nat) : Int)) w := by
  have h1 : IntKind.i64.wrap ((k : Int) + 1) = ((k + 1 : Nat) : Int) := by rw [IntKind.wrap_i64] <;> omega
  simp [go_sem]
  omega
section
variable {n : Nat} {Q : Exit → Act → World → Prop} {ops : Array Oper} {i : Nat} {o : Oper} {a : Act} {w : World} {K : Act → World → Prop}
theorem step_full {t : TypeId} {x y z : Operand} {vx vy vz v : Value} (hi : ops[i]? = some o) (hw : Region.wanted o (yielded ops a.tmps) = true) (ho : o.op = .slice t x none (some y) (some z)) (hx : a.eval x = vx) (hy : a.eval y = vy) (hz : a.eval z = vz) (hr : (Instr.sliceAt t vx none (some vy) (some vz)).run Tryz.prog w = .ok v w) (h : K (a.put o.dst v) w) : wpOpIn Fence.wide n Tryz.prog ops Q i K a w :=
  step_run hi hw (by rw [ho]; intro c h; cases h) (by simp [Oper.about, ho]) (by simp [execOp, ho, hx, hy, hz, hr]) h
theorem step_appI {x y : Operand} {vx vy v : Value} {w' : World} (hi : ops[i]? = some o) (hw : Region.wanted o (yielded ops a.tmps) = true) (ho : o.op = .call { callee := .builtin .append, args := #[x, y], argTypes := #[23, 23] }) (hx : a.eval x = vx) (hy : a.eval y = vy) (hr : (Builtin.append_ #[23, 23] o.type #[vx, vy]).run Tryz.prog w = .ok v w') (h : K (a.put o.dst v) w') : wpOpIn Fence.wide n Tryz.prog ops Q i K a w := by
  refine step_run hi hw ?_ (by simp [Oper.about, ho, resolve, Target.leads, Sem.run_pure]) (v := v) (w' := w') ?_ h
  · rw [ho]
    intro c h
    cases h
  · unfold execOp
    simp only [ho, resolve, invoke, builtin, Sem.run_bind, Sem.run_pure, Result.andThen_ok, List.map_toArray, List.map_cons, List.map_nil, hx, hy, hr]
end
def oWvC0 (p : String) : Oper := { dst := some 9, op := Op.move (Operand.tmp 0), type := 23, pos := p, after := #[], guard := none }
def oWvC1 (p : String) : Oper := { dst := some 10, op := Op.move (Operand.tmp 1), type := 3, pos := p, after := #[], guard := none }
def oWvC2 (p : String) : Oper := { dst := some 11, op := Op.move (Operand.tmp 1), type := 3, pos := p, after := #[], guard := none }
def oWvC3 (p : String) : Oper := { dst := some 12, op := Op.slice 23 (Operand.tmp 9) none (some (Operand.tmp 10)) (some (Operand.tmp 11)), type := 23, pos := p, after := #[{ on := 0, ground := Ground.data }, { on := 1, ground := Ground.data }, { on := 2, ground := Ground.data }], guard := none }
def oWvC4 (p : String) : Oper := { dst := some 13, op := Op.move (Operand.tmp 0), type := 23, pos := p, after := #[], guard := none }
def oWvC5 (p : String) : Oper := { dst := some 14, op := Op.move (Operand.tmp 1), type := 3, pos := p, after := #[], guard := none }
def oWvC6 (p : String) : Oper := { dst := some 15, op := Op.binOp BinOp.add 3 (Operand.tmp 14) (Operand.const (Value.int IntKind.i64 1)) 3, type := 3, pos := p, after := #[{ on := 5, ground := Ground.data }], guard := none }
def oWvC7 (p : String) : Oper := { dst := some 16, op := Op.slice 23 (Operand.tmp 13) (some (Operand.tmp 15)) none none, type := 23, pos := p, after := #[{ on := 4, ground := Ground.data }, { on := 6, ground := Ground.data }], guard := none }
def oWvC8 (p : String) : Oper := { dst := some 17, op := Op.call { callee := Callee.builtin Builtin.append, args := #[Operand.tmp 12, Operand.tmp 16], argTypes := #[23, 23] }, type := 23, pos := p, after := #[{ on := 3, ground := Ground.data }, { on := 7, ground := Ground.data }], guard := none }
def oWvC9 (p : String) : Oper := { dst := some 4, op := Op.assign (Operand.tmp 17), type := 23, pos := p, after := #[{ on := 8, ground := Ground.data }, { on := 8, ground := Ground.chain }, { on := 0, ground := Ground.phase }, { on := 1, ground := Ground.phase }, { on := 2, ground := Ground.phase }, { on := 3, ground := Ground.phase }, { on := 4, ground := Ground.phase }, { on := 5, ground := Ground.phase }, { on := 6, ground := Ground.phase }, { on := 7, ground := Ground.phase }, { on := 8, ground := Ground.phase }], guard := none }
def opsWvC (p : String) : List Oper := [oWvC0 p, oWvC1 p, oWvC2 p, oWvC3 p, oWvC4 p, oWvC5 p, oWvC6 p, oWvC7 p]
theorem opsWvC_back (p : String) : backwards (opsWvC p ++ [oWvC8 p, oWvC9 p]) = true := by kernel_rfl
theorem opsWvC_slots (p : String) : slotsOk 18 (opsWvC p) = true := by kernel_rfl
theorem opsWvC_all (p : String) : ((List.range ((opsWvC p).length + 1)).all (hasEdge (oWvC9 p))) = true := by kernel_rfl
theorem opsWvC_pen (p : String) (L : Nat → Bool) (hcl : ∀ j o' e, (opsWvC p ++ [oWvC8 p, oWvC9 p]).toArray[j]? = some o' → L j = true → e ∈ o'.after → Region.binds .any e = true → L e.on = true) (hp : ∀ e ∈ (oWvC8 p).after, Region.binds .any e = true → L e.on = true) : ∀ j, j < (opsWvC p).length → L j = true := by
  have h3 : L 3 = true := hp { on := 3, ground := Ground.data } (by simp [oWvC8]) rfl
  have h7 : L 7 = true := hp { on := 7, ground := Ground.data } (by simp [oWvC8]) rfl
  have h0 : L 0 = true := hcl 3 (oWvC3 p) { on := 0, ground := Ground.data } rfl h3 (by simp [oWvC3]) rfl
  have h1 : L 1 = true := hcl 3 (oWvC3 p) { on := 1, ground := Ground.data } rfl h3 (by simp [oWvC3]) rfl
  have h2 : L 2 = true := hcl 3 (oWvC3 p) { on := 2, ground := Ground.data } rfl h3 (by simp [oWvC3]) rfl
  have h4 : L 4 = true := hcl 7 (oWvC7 p) { on := 4, ground := Ground.data } rfl h7 (by simp [oWvC7]) rfl
  have h6 : L 6 = true := hcl 7 (oWvC7 p) { on := 6, ground := Ground.data } rfl h7 (by simp [oWvC7]) rfl
  have h5 : L 5 = true := hcl 6 (oWvC6 p) { on := 5, ground := Ground.data } rfl h6 (by simp [oWvC6]) rfl
  intro j hj
  have hj' : j < 8 := hj
  rcases j with _ | _ | _ | _ | _ | _ | _ | _ | j
  · exact h0
  · exact h1
  · exact h2
  · exact h3
  · exact h4
  · exact h5
  · exact h6
  · exact h7
  · omega
def psiWvC (A A2 : Option Addr) (n c kk m c2 : Nat) : Nat → Value → World → Prop
  | 0, v, _ => v = .slice A n c
  | 1, v, _ => v = .int .i64 (kk : Int)
  | 2, v, _ => v = .int .i64 (kk : Int)
  | 3, v, _ => v = .slice A kk kk
  | 4, v, _ => v = .slice A n c
  | 5, v, _ => v = .int .i64 (kk : Int)
  | 6, v, _ => v = .int .i64 ((kk + 1 : Nat) : Int)
  | 7, v, _ => v = .slice A2 m c2
  | _, _, _ => True
theorem psiWvC_same (A A2 : Option Addr) (n c kk m c2 : Nat) : ∀ i v w w', psiWvC A A2 n c kk m c2 i v w → w' = w → psiWvC A A2 n c kk m c2 i v w' := by
  intro i v w w' h hg
  subst hg
  exact h
set_option maxRecDepth 100000 in
set_option maxHeartbeats 4000000 in
theorem wvcut {p : String} (A A2 E : Option Addr) (n c kk m c2 e c3 : Nat) (W1 : World) (a : Act) (w : World) (Q : Exit → Act → World → Prop) (hN : a.tmps.size = 18) (h2 : a.tmps.getD 0 undef = .slice A n c) (h7 : a.tmps.getD 1 undef = .int .i64 (kk : Int)) (hkc : kk ≤ c) (hkm : kk ≤ 1000000)
    (hfr : ∀ w : World, (Instr.sliceAt 23 (.slice A n c) (some (.int .i64 ((kk + 1 : Nat) : Int))) none none).run Tryz.prog w = .ok (.slice A2 m c2) w) (hap : (Builtin.append_ #[23, 23] 23 #[.slice A kk kk, .slice A2 m c2]).run Tryz.prog w.drew = .ok (.slice E e c3) W1)
    (hQ : Q .normal (puts [(9, .slice A n c), (10, .int .i64 (kk : Int)), (11, .int .i64 (kk : Int)), (12, .slice A kk kk), (13, .slice A n c), (14, .int .i64 (kk : Int)), (15, .int .i64 ((kk + 1 : Nat) : Int)), (16, .slice A2 m c2), (17, .slice E e c3), (4, .slice E e c3)] a) W1) :
    (Code.region 3 (opsWvC p ++ [oWvC8 p, oWvC9 p]).toArray true).wp Tryz.prog Q a w := by
  refine (wpIn_wide (n := 1)).1 (wpIn_region_two 18 hN follows (opsWvC_back p) (opsWvC_slots p) (opsWvC_all p) (opsWvC_pen p) (fun w w' => w' = w) (fun _ => rfl) (fun h1 h2 => h2.trans h1) (psiWvC A A2 n c kk m c2) (psiWvC_same A A2 n c kk m c2) ?_ ?_)
  · intro i o d ho hd a' w' hF hR hp
    rcases i with _ | _ | _ | _ | _ | _ | _ | _ | i
    · obtain rfl : oWvC0 p = o := Option.some.inj ho
      obtain rfl : 9 = d := Option.some.inj hd
      exact step_move rfl rfl rfl (hF.at 0 rfl h2) ⟨_, rfl, rfl, rfl⟩
    · obtain rfl : oWvC1 p = o := Option.some.inj ho
      obtain rfl : 10 = d := Option.some.inj hd
      exact step_move rfl rfl rfl (hF.at 1 rfl h7) ⟨_, rfl, rfl, rfl⟩
    · obtain rfl : oWvC2 p = o := Option.some.inj ho
      obtain rfl : 11 = d := Option.some.inj hd
      exact step_move rfl rfl rfl (hF.at 1 rfl h7) ⟨_, rfl, rfl, rfl⟩
    · obtain rfl : oWvC3 p = o := Option.some.inj ho
      obtain rfl : 12 = d := Option.some.inj hd
      have q0 : a'.tmps.getD 9 undef = .slice A n c := hp 0 (oWvC0 p) 9 rfl rfl rfl
      have q1 : a'.tmps.getD 10 undef = .int .i64 (kk : Int) := hp 1 (oWvC1 p) 10 rfl rfl rfl
      have q2 : a'.tmps.getD 11 undef = .int .i64 (kk : Int) := hp 2 (oWvC2 p) 11 rfl rfl rfl
      exact step_full rfl rfl rfl q0 q1 q2 (run_fullI _ _ _ _ _ hkc) ⟨_, rfl, rfl, rfl⟩
    · obtain rfl : oWvC4 p = o := Option.some.inj ho
      obtain rfl : 13 = d := Option.some.inj hd
      exact step_move rfl rfl rfl (hF.at 0 rfl h2) ⟨_, rfl, rfl, rfl⟩
    · obtain rfl : oWvC5 p = o := Option.some.inj ho
      obtain rfl : 14 = d := Option.some.inj hd
      exact step_move rfl rfl rfl (hF.at 1 rfl h7) ⟨_, rfl, rfl, rfl⟩
    · obtain rfl : oWvC6 p = o := Option.some.inj ho
      obtain rfl : 15 = d := Option.some.inj hd
      have q5 : a'.tmps.getD 14 undef = .int .i64 (kk : Int) := hp 5 (oWvC5 p) 14 rfl rfl rfl
      exact step_bin rfl rfl rfl q5 rfl (guard_int _ _ _ _ _ _ _ _ _) (run_addOne _ _ hkm) ⟨_, rfl, rfl, rfl⟩
    · obtain rfl : oWvC7 p = o := Option.some.inj ho
      obtain rfl : 16 = d := Option.some.inj hd
      have q4 : a'.tmps.getD 13 undef = .slice A n c := hp 4 (oWvC4 p) 13 rfl rfl rfl
      have q6 : a'.tmps.getD 15 undef = .int .i64 ((kk + 1 : Nat) : Int) := hp 6 (oWvC6 p) 15 rfl rfl rfl
      exact step_from rfl rfl rfl q4 q6 (hfr _) ⟨_, rfl, rfl, rfl⟩
    · exact absurd ((Array.getElem?_eq_some_iff.1 ho).1) (by simp [opsWvC])
  · intro a' w' hF hR hp
    subst hR
    have e0 : a'.tmps.getD 9 undef = .slice A n c := hp 0 (oWvC0 p) 9 rfl rfl
    have e1 : a'.tmps.getD 10 undef = .int .i64 (kk : Int) := hp 1 (oWvC1 p) 10 rfl rfl
    have e2 : a'.tmps.getD 11 undef = .int .i64 (kk : Int) := hp 2 (oWvC2 p) 11 rfl rfl
    have e3 : a'.tmps.getD 12 undef = .slice A kk kk := hp 3 (oWvC3 p) 12 rfl rfl
    have e4 : a'.tmps.getD 13 undef = .slice A n c := hp 4 (oWvC4 p) 13 rfl rfl
    have e5 : a'.tmps.getD 14 undef = .int .i64 (kk : Int) := hp 5 (oWvC5 p) 14 rfl rfl
    have e6 : a'.tmps.getD 15 undef = .int .i64 ((kk + 1 : Nat) : Int) := hp 6 (oWvC6 p) 15 rfl rfl
    have e7 : a'.tmps.getD 16 undef = .slice A2 m c2 := hp 7 (oWvC7 p) 16 rfl rfl
    refine step_appI (o := oWvC8 p) rfl rfl rfl e3 e7 hap ?_
    have hx : (a'.put (oWvC8 p).dst (.slice E e c3)).eval (.tmp 17) = .slice E e c3 := getD_put_same (by rw [hF.size, hN]; decide)
    refine step_assign (o := oWvC9 p) rfl rfl rfl hx ?_
    have h1 := hF.puts [(9, .slice A n c), (10, .int .i64 (kk : Int)), (11, .int .i64 (kk : Int)), (12, .slice A kk kk), (13, .slice A n c), (14, .int .i64 (kk : Int)), (15, .int .i64 ((kk + 1 : Nat) : Int)), (16, .slice A2 m c2)] (by
      intro x hx
      simp only [List.mem_cons, List.not_mem_nil, or_false] at hx
      rcases hx with rfl | rfl | rfl | rfl | rfl | rfl | rfl | rfl
      · exact e0
      · exact e1
      · exact e2
      · exact e3
      · exact e4
      · exact e5
      · exact e6
      · exact e7) rfl (by rw [hN]; rfl)
    have hput : (a'.put (oWvC8 p).dst (.slice E e c3)).put (oWvC9 p).dst (.slice E e c3) = puts [(9, .slice A n c), (10, .int .i64 (kk : Int)), (11, .int .i64 (kk : Int)), (12, .slice A kk kk), (13, .slice A n c), (14, .int .i64 (kk : Int)), (15, .int .i64 ((kk + 1 : Nat) : Int)), (16, .slice A2 m c2), (17, .slice E e c3), (4, .slice E e c3)] a := by
      conv => lhs; rw [h1]
      rfl
    rw [hput]
    exact hQ
end Go.Proofs.YtfjmdkhemnmkpaaGreatDoor

namespace Go.Proofs.YtfjmdkhemnmkpaaGreatDoor
open Go.RowKit
set_option maxRecDepth 100000 in
set_option maxHeartbeats 4000000 in
theorem without_any (A : Option Addr) (L c : Nat) (l : List Nat) (k : Nat) (w : World) (hL : L = l.length) (hc : L ≤ c) (hk : k < L) (hm : L ≤ 100) (hA : HasI w A l) :
    Calls Tryz.prog 51 #[.slice A L c, .int .i64 (k : Int)] w fun e W' => ∃ E c', e = .returned (.slice E (L - 1) c') ∧ L - 1 ≤ c' ∧ HasI W' E (l.eraseIdx k) ∧ Below w.heap.size w W' ∧ (1 < L → ∀ x o m, E = some ⟨x, o, m⟩ → w.heap.size ≤ x ∨ ∃ o', A = some ⟨x, o', none⟩) := by
  have HL := Lib.hid hL
  have HA := Lib.hid hA
  by_cases hk0 : k = 0
  · subst hk0
    obtain ⟨A2, hfr, hA2⟩ := run_fromI A L c 1 (by omega) hc (by omega)
    obtain ⟨lb, lo, hAe, _, _⟩ := hA (by rintro rfl; simp at hL; omega)
    have h2 : HasI w A2 (l.eraseIdx 0) := by
      have := hA.drop (n := 1) (A' := A2) (fun b o e h => hA2 b o e (by omega))
      rwa [List.eraseIdx_eq_take_drop_succ]
    have HE := Lib.hid (show HasI w A2 (l.eraseIdx 0) ∧ (1 < L → ∀ x o m, A2 = some ⟨x, o, m⟩ → w.heap.size ≤ x ∨ ∃ o', A = some ⟨x, o', none⟩) from ⟨h2, fun h x o m e => by
      have e2 := hA2 lb lo hAe h
      rw [e2] at e
      cases e
      exact .inr ⟨lo, hAe⟩⟩)
    have hfr' : ∀ w : World, (Instr.sliceAt 23 (.slice A L c) (some (.int .i64 1)) none none).run Tryz.prog w = .ok (.slice A2 (L - 1) (c - 1)) w := hfr
    have hc1 : L - 1 ≤ c - 1 := by omega
    have HC1 := Lib.hid hc1
    clear hL hA hfr hA2 hAe h2 hc1 hc hk hm
    go_enter Tryz.func51, Tryz.ntmps51
    go_wp2
    go_ret
    exact ⟨A2, c - 1, rfl, HC1.out, HE.out.1, Below.refl _ _, HE.out.2⟩
  · have hk0i : ¬ (k : Int) = 0 := by omega
    have hAd : HasI w.drew A l := hA.below (Below.refl _ w).drew
    obtain ⟨lb, lo, hAe, _, _⟩ := hA (by rintro rfl; simp at hL; omega)
    obtain ⟨A2, hfr, hA2⟩ := run_fromI A L c (k + 1) (by omega) hc (by omega)
    obtain ⟨E', c', W4, hap, hc', hb4, hI4, hE'⟩ := run_cutI w.drew 23 A A2 k (L - (k + 1)) (c - (k + 1)) l (by omega) (hAd.take k) (hAd.drop (fun b o e h => hA2 b o e (by omega))) (by omega) (by omega)
    rw [← hL] at hap hc'
    have HR := Lib.hid (show L - 1 ≤ c' ∧ HasI W4 E' (l.eraseIdx k) ∧ Below w.heap.size w W4 ∧ (1 < L → ∀ x o m, E' = some ⟨x, o, m⟩ → w.heap.size ≤ x ∨ ∃ o', A = some ⟨x, o', none⟩) from ⟨hc', hI4, (Below.refl _ w).drew.trans hb4, fun _ x o m e => by
      rcases hE' with e' | e'
      · rw [e', hAe] at e
        cases e
        exact .inr ⟨lo, hAe⟩
      · rw [e'] at e
        cases e
        exact .inl (Nat.le_refl _)⟩)
    have hfr2 := Lib.hid hfr
    have hap2 := Lib.hid hap
    have HK := Lib.hid (show k ≤ c ∧ k ≤ 1000000 from ⟨by omega, by omega⟩)
    clear hL hA hAd hfr hA2 hap hc' hb4 hI4 hE' hAe hc hk hm hk0
    go_enter Tryz.func51, Tryz.ntmps51
    go_upto_region 3 with (fail)
    refine wvcut A A2 E' L c k (L - (k + 1)) (c - (k + 1)) (L - 1) c' W4 _ w _ rfl rfl rfl HK.out.1 HK.out.2 hfr2.out hap2.out ?_
    simp only [puts, List.foldl_cons, List.foldl_nil, Act.put, List.setIfInBounds_toArray, List.set_cons_succ, List.set_cons_zero]
    go_wp2
    go_ret
    exact ⟨E', c', rfl, HR.out.1, HR.out.2.1, HR.out.2.2.1, HR.out.2.2.2⟩
end Go.Proofs.YtfjmdkhemnmkpaaGreatDoor

namespace Go.Proofs.YtfjmdkhemnmkpaaGreatDoor
open Go.RowKit Go.Maps
noncomputable def rowW (pk : Nat → Nat → Nat → Int) (ms : List CM) (a : AM) (t : Nat) (j : Nat) : DV := if j ∈ (orderM pk ms).take t then ⟨(toldO (runO (atM ms) ((orderM pk ms).take t) a).2 j).1.1, (toldO (runO (atM ms) ((orderM pk ms).take t) a).2 j).1.2, (toldO (runO (atM ms) ((orderM pk ms).take t) a).2 j).2, waveI ms j, (orderM pk ms).idxOf j⟩ else D0
theorem orderM_nodup (pk : Nat → Nat → Nat → Int) (ms : List CM) : (orderM pk ms).Nodup := (orderM_perm pk ms).nodup_iff.2 List.nodup_range
theorem rowW_zero (pk : Nat → Nat → Nat → Int) (ms : List CM) (a : AM) : rowW pk ms a 0 = fun _ => D0 := by
  funext j
  simp [rowW]
theorem runW_succ {pk : Nat → Nat → Nat → Int} {ms : List CM} {a : AM} {t : Nat} (h : t < (orderM pk ms).length) :
    (runO (atM ms) ((orderM pk ms).take (t + 1)) a).1 = (doA (runO (atM ms) ((orderM pk ms).take t) a).1 (atM ms (orderM pk ms)[t])).1 ∧
    rowW pk ms a (t + 1) = updT (rowW pk ms a t) (orderM pk ms)[t] ⟨(doA (runO (atM ms) ((orderM pk ms).take t) a).1 (atM ms (orderM pk ms)[t])).2.1.1, (doA (runO (atM ms) ((orderM pk ms).take t) a).1 (atM ms (orderM pk ms)[t])).2.1.2, (doA (runO (atM ms) ((orderM pk ms).take t) a).1 (atM ms (orderM pk ms)[t])).2.2, waveI ms (orderM pk ms)[t], t⟩ := by
  have hn := orderM_nodup pk ms
  have hs := runO_snoc (atM ms) (orderM pk ms)[t] ((orderM pk ms).take t) a (nodup_fresh hn h)
  rw [← List.take_succ_eq_append_getElem h] at hs
  refine ⟨hs.1, ?_⟩
  have hi := hn.idxOf_getElem t h
  obtain ⟨q, hq⟩ : ∃ q, q = (orderM pk ms)[t] := ⟨_, rfl⟩
  have hm : ∀ j, j ∈ (orderM pk ms).take (t + 1) ↔ j ∈ (orderM pk ms).take t ∨ j = q := fun j => by
    rw [List.take_succ_eq_append_getElem h, List.mem_append, List.mem_singleton, hq]
  rw [← hq] at hs hi ⊢
  funext j
  unfold updT rowW
  by_cases hj : j = q
  · subst hj
    rw [if_pos ((hm j).2 (.inr rfl)), if_pos rfl, hs.2, hi]
    simp [updT]
  · rw [if_neg hj]
    by_cases hl : j ∈ (orderM pk ms).take t
    · rw [if_pos ((hm j).2 (.inl hl)), if_pos hl, hs.2]
      simp [updT, hj]
    · rw [if_neg (fun h => ((hm j).1 h).elim hl hj), if_neg hl]
abbrev RunT (F : Nat → Prop) (w : World) (R b r : Nat) (A : Option Addr) (L c : Nat) (f : Value) (pk : Nat → Nat → Nat → Int) (ms : List CM) (a : AM) (t : Nat) (W : World) : Prop := RunQ F w R b r A L c f (runO (atM ms) ((orderM pk ms).take t) a).1 (rowW pk ms a t) t W
set_option maxRecDepth 100000 in
set_option maxHeartbeats 4000000 in
theorem wwave_any {F : Nat → Prop} {w W : World} {R b r : Nat} {A : Option Addr} {L c : Nat} {f : Value} {pk : Nat → Nat → Nat → Int} {ms : List CM} {a : AM} {l : List CmdV} {t0 : Nat} (H : RunT F w R b r A L c f pk ms a t0 W) (hT : TabK w) (h0 : AppQ F w R a) (hlim : LimAn 1000 a) (hms : ms = l.map (·.m)) (hL : L = l.length) (hm : L ≤ 100) (hA : CmdQ r b W A l) (hng : ∀ v ∈ l, ¬ v.great) (hf : PickF F w f pk)
    (wv : Nat) (hwv : wv ≤ 1000) (g : List Nat) (gs : List (List Nat)) (gA : Option Addr) (gc : Nat) (hg : HasI W gA g) (hgo : OffB r b gA) (hgc : g.length ≤ gc) (hgl : g.length ≤ 100) (hlw : LeftW pk (orderM pk ms) t0 wv 0 g gs) (hgw : ∀ i ∈ g, waveI ms i = wv) :
    Calls Tryz.prog 29 #[.pointer (some ⟨r, 0, none⟩), .int .i64 (wv : Int), .slice gA g.length gc] W fun e W' => e = .returned (.tuple #[]) ∧ ∃ t1, (orderM pk ms).drop t1 = orderW pk (wv + 1) gs ∧ RunT F w R b r A L c f pk ms a t1 W' ∧ FarW r b W W' := by
  have HS := Lib.hid (And.intro H (And.intro hg (And.intro hgo hlw)))
  have HG := Lib.hid (And.intro hT (And.intro h0 (And.intro hlim (And.intro hms (And.intro hA (And.intro hng (And.intro hf (And.intro hgw hL))))))))
  obtain ⟨G, hG⟩ : ∃ x, x = g.length := ⟨_, rfl⟩
  rw [← hG] at hgc hgl ⊢
  have HGG := Lib.hid hG
  have hGi : (G : Int) ≤ 100 := by omega
  have hrl := H.lt
  have hbl := H.go.lt
  have HRB := Lib.hid (And.intro hrl hbl)
  clear H hT h0 hlim hms hA hng hf hg hgo hlw hgw hL hG hrl hbl
  go_enter Tryz.func29, Tryz.ntmps29
  go_wp2
  go_loopw [6, 13] (fun s i wr => ∃ (t k : Nat) (left : List Nat) (E : Option Addr) (ec : Nat), s = .slice E left.length ec ∧ left.length ≤ ec ∧ i = .int .i64 (k : Int) ∧ k + left.length = G ∧ Hid (RunT F w R b r A L c f pk ms a t wr ∧ LeftW pk (orderM pk ms) t wv k left gs ∧ HasI wr E left ∧ (left ≠ [] → OffB r b E) ∧ (∀ j ∈ left, j ∈ g) ∧ FarW r b W wr)) (fun _ i _ => G - (intOf i).toNat)
  case atStart => exact ⟨t0, 0, g, gA, gc, by rw [HGG.out], by rw [← HGG.out]; exact hgc, rfl, by rw [HGG.out]; omega, Lib.hid ⟨HS.out.1, HS.out.2.2.2, HS.out.2.1, fun _ => HS.out.2.2.1, fun _ h => h, FarW.below (Below.refl _ W)⟩⟩
  case round =>
    obtain ⟨t, k, left, E, ec, rfl, hec, rfl, hkl, HK⟩ := hrel
    obtain ⟨n, hn⟩ : ∃ n, n = left.length := ⟨_, rfl⟩
    rw [← hn] at hec hkl ⊢
    by_cases hlt : k < G
    · have hki : (k : Int) < G := by omega
      have hn0 : 0 < n := by omega
      have hl0 : 0 < left.length := by omega
      obtain ⟨pp, hpp⟩ : ∃ pp, pp = pk wv k n := ⟨_, rfl⟩
      obtain ⟨p, hp⟩ : ∃ p, p = placeN (pk wv k left.length) left.length := ⟨_, rfl⟩
      have hpn : p < left.length := by rw [hp]; exact place_lt _ hl0
      obtain ⟨ht, hot, hls⟩ := HK.out.2.1.step hl0
      have hq0 : (orderM pk ms)[t] = left[p] := by rw [hot]; simp only [hp]
      rw [← hp] at hls
      obtain ⟨q, hq⟩ : ∃ q, q = left[p] := ⟨_, rfl⟩
      have hqg : q ∈ g := HK.out.2.2.2.2.1 q (by rw [hq]; exact List.getElem_mem hpn)
      have hmsl : ms.length = l.length := by rw [HG.out.2.2.2.1, List.length_map]
      have htl : t < l.length := by rw [orderM_len] at ht; omega
      have hql : q < l.length := by
        have h1 : (orderM pk ms)[t] ∈ orderM pk ms := List.getElem_mem ht
        rw [hq0, ← hq] at h1
        have := List.mem_range.1 ((orderM_perm pk ms).mem_iff.1 h1)
        omega
      have hqL : q < L := by have := HG.out.2.2.2.2.2.2.2.2; omega
      have hLl : l.length ≤ 100 := by have := HG.out.2.2.2.2.2.2.2.2; omega
      have HP := Lib.hid (ask_any HK.out.1 HG.out.2.2.2.2.2.2.1 wv k n (by omega) (by omega) (by omega))
      rw [← hpp] at HP
      have hmo : ∀ V, Calls Tryz.prog 49 #[.int .i64 pp, .int .i64 (n : Int)] V fun e W' => e = .returned (.int .i64 (p : Int)) ∧ W' = V := fun V => by
        have := modulo_any pp n hn0 (by omega) V
        rw [hpp] at this ⊢
        rw [hp, ← hn]
        exact this
      have HMO := Lib.hid hmo
      obtain ⟨lb, lo, hE, hlb, hlc⟩ := HK.out.2.2.1 (by rintro rfl; simp at hl0)
      subst hE
      have hcq := hlc p hpn
      rw [← hq] at hcq
      have HLC := Lib.hid (And.intro hlb hcq)
      have hstep := runW_succ (a := a) ht
      rw [hq0, ← hq] at hstep
      have hxm : atM ms q = (l[q]).m := by rw [atM_get (by omega)]; simp [HG.out.2.2.2.1]
      rw [hxm, HG.out.2.2.2.2.2.2.2.1 q hqg] at hstep
      have hlimt : LimA (runO (atM ms) ((orderM pk ms).take t) a).1 := by
        rw [runO_one]
        refine (oneO_lim HG.out.2.2.1 _ (by simp; omega) fun m hm => ?_).lim (by simp; omega)
        obtain ⟨j, hj, rfl⟩ := List.mem_map.1 hm
        have hjl : j < ms.length := List.mem_range.1 ((orderM_perm pk ms).mem_iff.1 (List.mem_of_mem_take hj))
        rw [atM_get hjl]
        have hjl2 : j < l.length := by omega
        have hjm : ms[j] = (l[j]).m := by simp [HG.out.2.2.2.1]
        rw [hjm]
        obtain ⟨_, _, _, _, hf⟩ := HG.out.2.2.2.2.1.has (by rintro rfl; simp at hjl2)
        exact ⟨(hf j hjl2).2.cl, (hf j hjl2).2.sq⟩
      have hgy : (l[q]).ks.length ≤ 100 := by
        have hn := HG.out.2.2.2.2.2.1 l[q] (List.getElem_mem hql)
        have : ¬ 100 < (l[q]).ks.length := fun hh => hn (.inr (.inr (.inl hh)))
        omega
      have HD : Hid (∀ V, Below wr.heap.size wr V → Calls Tryz.prog 39 #[.pointer (some ⟨r, 0, none⟩), .int .i64 (q : Int), .int .i64 (wv : Int)] V fun e W' => e = .returned (.tuple #[]) ∧ RunT F w R b r A L c f pk ms a (t + 1) W' ∧ FarW r b V W') := Lib.hid (fun V hb => by
        have HV := HK.out.1.grew hb
        obtain ⟨cb, co, hAe, hcb, hfc⟩ := (HG.out.2.2.2.2.1.far (HK.out.2.2.2.2.2.trans (FarW.below hb))).has (by rintro rfl; simp at hql)
        subst hAe
        obtain ⟨g1, g2⟩ := hfc q hql
        have := wdo_any HV HG.out.1 HG.out.2.1 hlimt q wv l[q] hqL hcb (fun j u hu => g1 j u hu) g2 hgy (by omega)
        refine this.mono ?_
        rintro e W' ⟨rfl, k1, k2⟩
        refine ⟨rfl, ?_, k2⟩
        unfold RunT
        rw [hstep.1, hstep.2]
        exact k1)
      have HN := Lib.hid (And.intro hn (And.intro hls (And.intro hq hpn)))
      have hpi : (p : Int) < n := by omega
      have hp0 : (0 : Int) ≤ (p : Int) := by omega
      have hki2 : (k : Int) ≤ 100 := by omega
      clear hstep hlimt hgy hlc hxm hls hq0 hot hq hp hqg hcq hlb hpp hmo hn
      go_wp2_with fail
      refine HP.out.mono ?_
      rintro e W2 ⟨rfl, hb2⟩
      have c2 : W2.cell? ⟨lb, lo + p, none⟩ = some (.int .i64 (q : Int)) := (hb2.cell (p := ⟨lb, lo + p, none⟩) HLC.out.1).trans HLC.out.2
      have HD2 := Lib.hid (HD.out W2 hb2)
      have HB2 := Lib.hid hb2
      clear hb2
      go_wp2_with fail
      refine (HMO.out W2).mono ?_
      rintro e W2' ⟨rfl, hWe⟩
      obtain rfl : W2' = W2 := hWe
      go_wp2_with fail
      refine HD2.out.mono ?_
      rintro e W3 ⟨rfl, k1, k2⟩
      have hF3 : FarW r b wr W3 := (FarW.below HB2.out).trans k2
      have hI3 : HasI W3 (some ⟨lb, lo, none⟩) left := HK.out.2.2.1.far hF3 (HK.out.2.2.2.1 (by rintro rfl; have := HN.out.2.2.2; simp at this))
      have HWo := Lib.hid (without_any (some ⟨lb, lo, none⟩) n ec left p W3 HN.out.1 hec (by have := HN.out.1; have := HN.out.2.2.2; omega) (by omega) hI3)
      have HK3 := Lib.hid (And.intro k1 (And.intro hF3 k2))
      clear k1 k2 hF3 hI3 c2 HP HD HD2
      go_wp2_with fail
      refine HWo.out.mono ?_
      rintro e W4 ⟨E', c', rfl, hc', hI4, hb4, hE'⟩
      have hlen : (left.eraseIdx p).length = n - 1 := by rw [List.length_eraseIdx_of_lt HN.out.2.2.2, HN.out.1]
      have H4 := Lib.hid (And.intro (HK3.out.1.grew hb4) (And.intro HN.out.2.1 (And.intro hI4 (And.intro (show left.eraseIdx p ≠ [] → OffB r b E' from fun hne x o m e => by
        have h1 : 1 < n := by
          have := List.length_pos_iff.2 hne
          omega
        rcases hE' h1 x o m e with h2 | ⟨o', h2⟩
        · have h3 := HK3.out.2.1.1
          have h4 := HK3.out.1.lt
          have h5 := HK3.out.1.go.lt
          exact ⟨by omega, by omega⟩
        · exact HK.out.2.2.2.1 (by rintro rfl; have := HN.out.2.2.2; simp at this) x o' none h2) (And.intro (fun (j : Nat) (hj : j ∈ left.eraseIdx p) => HK.out.2.2.2.2.1 j (List.mem_of_mem_eraseIdx hj)) ((HK.out.2.2.2.2.2.trans HK3.out.2.1).trans (FarW.below hb4)))))))
      have HL4 := Lib.hid (And.intro hlen hc')
      clear hc' hI4 hb4 hE' hlen HWo
      go_wp2
      have hnn := HN.out.1
      refine ⟨⟨t + 1, k + 1, left.eraseIdx p, E', c', by rw [HL4.out.1], by rw [HL4.out.1]; exact HL4.out.2, by congr 1, by rw [HL4.out.1]; omega, Lib.hid H4.out⟩, ?_⟩
      simp only [intOf]
      omega
    · have hki : ¬ (k : Int) < G := by omega
      obtain rfl : left = [] := List.length_eq_zero_iff.1 (by omega)
      have HE := Lib.hid HK.out
      clear HK
      go_wp2
      go_end0
      exact ⟨rfl, t, HE.out.2.1.fin, HE.out.1, HE.out.2.2.2.2.2⟩
end Go.Proofs.YtfjmdkhemnmkpaaGreatDoor
