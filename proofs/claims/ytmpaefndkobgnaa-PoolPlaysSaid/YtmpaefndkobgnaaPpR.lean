/- The statements of the law on acts that hold the program's pool against the document's, whatever their order of evaluation. -/
import Derived.Test.YtmpaefndkobgnaaPpSpec
import Derived.Test.YtmpaefndkobgnaaPaR16
namespace Go.Proofs.Ytmpaefndkobgnaa
open Go.RowKit

section
variable {n : Nat} {ops : Array Oper} {i : Nat} {o : Oper} {a : Act} {w : World} {K : Act → World → Prop} {Q : Exit → Act → World → Prop}
theorem step_field {t : TypeId} {x : Operand} {j : Nat} {vx v : Value} (hi : ops[i]? = some o) (hw : Region.wanted o (yielded ops a.tmps) = true) (ho : o.op = .fieldAddr t x j) (hx : a.eval x = vx) (hr : (Instr.fieldAt t vx j).run Try.prog w = .ok v w) (h : K (a.put o.dst v) w) : wpOpIn Fence.wide n Try.prog ops Q i K a w :=
  step_run hi hw (by rw [ho]; intro c h; cases h) (by simp [Oper.about, ho]) (by simp [execOp, ho, hx, hr]) h
theorem step_nilCheck {x : Operand} {p : Addr} (hi : ops[i]? = some o) (hw : Region.wanted o (yielded ops a.tmps) = true) (ho : o.op = .nilCheck x) (hx : a.eval x = .pointer (some p)) (_ : True) (h : K (a.put o.dst (.pointer (some p))) w) : wpOpIn Fence.wide n Try.prog ops Q i K a w :=
  step_run hi hw (by rw [ho]; intro c h; cases h) (by simp [Oper.about, ho]) (by simp [execOp, ho, hx]) h
end
theorem run_h0 (w : World) (b : Nat) : (Instr.fieldAt 29 (.pointer (some ⟨b, 0, none⟩)) 0).run Try.prog w = .ok (.pointer (some ⟨b, 0, none⟩)) w := by simp [go_sem]
theorem run_h1 (w : World) (b : Nat) : (Instr.fieldAt 29 (.pointer (some ⟨b, 0, none⟩)) 1).run Try.prog w = .ok (.pointer (some ⟨b, 1, none⟩)) w := by simp [go_sem]
theorem run_q4 (w : World) (b : Nat) : (Instr.fieldAt 49 (.pointer (some ⟨b, 0, none⟩)) 4).run Try.prog w = .ok (.pointer (some ⟨b, 4, none⟩)) w := by simp [go_sem]
theorem run_ldI2 (w : World) (b : Nat) (i g : Int) (h : w.heap[b]? = some (.cells #[.int .i64 i, .int .u32 g] 29 (0, 0))) : (Instr.loadAt 3 (.pointer (some ⟨b, 0, none⟩))).run Try.prog w = .ok (.int .i64 i) w := by
  have h0 := blk_cell h 0
  simp at h0
  simp [go_sem, h0]
theorem run_ldU2 (w : World) (b : Nat) (i g : Int) (h : w.heap[b]? = some (.cells #[.int .i64 i, .int .u32 g] 29 (0, 0))) : (Instr.loadAt 27 (.pointer (some ⟨b, 1, none⟩))).run Try.prog w = .ok (.int .u32 g) w := by
  have h0 := blk_cell h 1
  simp at h0
  simp [go_sem, h0]
theorem run_ldN (w : World) (p : Addr) (A : Option Addr) (L c : Nat) (h : w.cell? p = some (.slice A L c)) : (Instr.loadAt 47 (.pointer (some p))).run Try.prog w = .ok (.slice A L c) w := by
  simp [go_sem, h]
theorem run_ldB4 (w : World) (p : Addr) (A : Option Addr) (L c : Nat) (h : w.cell? p = some (.slice A L c)) : (Instr.loadAt 32 (.pointer (some p))).run Try.prog w = .ok (.slice A L c) w := by
  simp [go_sem, h]
theorem run_ixA (w : World) (b o L c q : Nat) (h : q < L) : (Instr.indexAt 22 (.slice (some ⟨b, o, none⟩) L c) (.int .i64 (q : Int))).run Try.prog w = .ok (.pointer (some ⟨b, o + q * 5, none⟩)) w := by
  have h1 : (0 : Int) ≤ q := by omega
  have h2 : (q : Int) < L := by omega
  simp [go_sem, h1, h2, h]
theorem run_actB (w : World) (b o : Nat) : (Instr.fieldAt 43 (.pointer (some ⟨b, o, none⟩)) 3).run Try.prog w = .ok (.pointer (some ⟨b, o + 4, none⟩)) w := by
  simp [go_sem]
theorem hasA_kp {X : Nat → Prop} {W W' : World} {A : Option Addr} {x : List UInt8} (h : HasA W W.heap.size A x) (hk : Kp X W W') (hX : ∀ b o, A = some ⟨b, o, none⟩ → X b) : HasA W' W'.heap.size A x := fun hn => by
  obtain ⟨b, o, e, hb, hc⟩ := h hn
  exact ⟨b, o, e, Nat.lt_of_lt_of_le hb hk.size, fun i hi => (World.cell?_of_block (hk.same b (hX b o e))).trans (hc i hi)⟩
def oPP280 (p : String) : Oper := { dst := some 194, op := Op.move (Operand.tmp 7), type := 23, pos := p, after := #[], guard := none }
def oPP281 (p : String) : Oper := { dst := some 195, op := Op.load 29 (Operand.tmp 16), type := 29, pos := p, after := #[], guard := none }
def oPP282 (p : String) : Oper := { dst := some 196, op := Op.call { callee := Callee.value (Operand.func 8), args := #[Operand.tmp 194, Operand.tmp 195], argTypes := #[23, 29] }, type := 24, pos := p, after := #[{ on := 0, ground := Ground.data }, { on := 1, ground := Ground.data }], guard := none }
def oPP283 (p : String) : Oper := { dst := some 197, op := Op.move (Operand.tmp 13), type := 39, pos := p, after := #[], guard := none }
def oPP284 (p : String) : Oper := { dst := some 198, op := Op.fieldAddr 29 (Operand.tmp 16) 0, type := 0, pos := p, after := #[], guard := none }
def oPP285 (p : String) : Oper := { dst := some 199, op := Op.load 3 (Operand.tmp 198), type := 3, pos := p, after := #[{ on := 4, ground := Ground.data }], guard := none }
def oPP286 (p : String) : Oper := { dst := some 200, op := Op.fieldAddr 29 (Operand.tmp 16) 1, type := 0, pos := p, after := #[], guard := none }
def oPP287 (p : String) : Oper := { dst := some 201, op := Op.load 27 (Operand.tmp 200), type := 27, pos := p, after := #[{ on := 6, ground := Ground.data }], guard := none }
def oPP288 (p : String) : Oper := { dst := some 202, op := Op.call { callee := Callee.value (Operand.func 14), args := #[Operand.tmp 197, Operand.tmp 199, Operand.tmp 201], argTypes := #[39, 3, 27] }, type := 24, pos := p, after := #[{ on := 3, ground := Ground.data }, { on := 5, ground := Ground.data }, { on := 7, ground := Ground.data }, { on := 2, ground := Ground.chain }], guard := none }
def oPP289 (p : String) : Oper := { dst := some 203, op := Op.binOp BinOp.eql 24 (Operand.tmp 196) (Operand.tmp 202) 24, type := 4, pos := p, after := #[{ on := 2, ground := Ground.data }, { on := 8, ground := Ground.data }], guard := none }
def oPP2810 (p : String) : Oper := { dst := some 17, op := Op.assign (Operand.tmp 203), type := 4, pos := p, after := #[{ on := 9, ground := Ground.data }, { on := 8, ground := Ground.chain }, { on := 0, ground := Ground.phase }, { on := 1, ground := Ground.phase }, { on := 2, ground := Ground.phase }, { on := 3, ground := Ground.phase }, { on := 4, ground := Ground.phase }, { on := 5, ground := Ground.phase }, { on := 6, ground := Ground.phase }, { on := 7, ground := Ground.phase }, { on := 8, ground := Ground.phase }, { on := 9, ground := Ground.phase }], guard := none }
def opsPP28 (p : String) : List Oper := [oPP280 p, oPP281 p, oPP282 p, oPP283 p, oPP284 p, oPP285 p, oPP286 p, oPP287 p, oPP288 p, oPP289 p, oPP2810 p]
theorem opsPP28_back (p : String) : backwards (opsPP28 p) = true := by kernel_rfl
theorem opsPP28_slots (p : String) : slotsOk 302 (opsPP28 p) = true := by kernel_rfl
/-- What each slot comes to. -/
def psiPP28 (P : PoolK) (w0 : World) (R Rq : Nat) (s : QS) (v : Value) (hs : List (Int × Nat)) (X : Nat → Prop) (gB cB gG cG gL cL : Nat) (vN : Value) (b : Nat) (ih : Int) (gh : Nat) (L : Nat → Bool) : Nat → Value → World → Prop
  | 0, v, _ => v = .pointer (some ⟨R, 0, none⟩)
  | 1, v, _ => v = hV ih gh
  | 2, v, _ => v = .int .i64 (s.backR ih gh : Int)
  | 3, v, _ => v = .pointer (some ⟨Rq, 0, none⟩)
  | 4, v, _ => v = .pointer (some ⟨b, 0, none⟩)
  | 5, v, _ => v = .int .i64 ih
  | 6, v, _ => v = .pointer (some ⟨b, 1, none⟩)
  | 7, v, _ => v = .int .u32 (gh : Int)
  | 8, v, _ => v = .int .i64 (s.backR ih gh : Int)
  | 9, v, _ => v = .bool true
  | 10, v, _ => v = .bool true
  | _, _, _ => True
def wsPP28 (P : PoolK) (w0 : World) (R Rq : Nat) (s : QS) (v : Value) (hs : List (Int × Nat)) (X : Nat → Prop) (gB cB gG cG gL cL : Nat) (vN : Value) (b : Nat) (ih : Int) (gh : Nat) (W0 : World) (L : Nat → Bool) (w : World) : Prop := ∃ vN', PS P w0 R Rq (if L 2 = true then s.backS ih gh else s) (if L 8 = true then s.backS ih gh else s) v hs X gB cB gG cG gL cL vN' w ∧ Kp X W0 w ∧ True
theorem psiPP28_same (P : PoolK) (w0 : World) (R Rq : Nat) (s : QS) (v : Value) (hs : List (Int × Nat)) (X : Nat → Prop) (gB cB gG cG gL cL : Nat) (vN : Value) (b : Nat) (ih : Int) (gh : Nat) : ∀ (L : Nat → Bool) (i j : Nat) (u : Value) (w : World), psiPP28 P w0 R Rq s v hs X gB cB gG cG gL cL vN b ih gh L j u w → psiPP28 P w0 R Rq s v hs X gB cB gG cG gL cL vN b ih gh (andI L i) j u w := by
  intro L i j u w h
  rcases j with _ | _ | _ | _ | _ | _ | _ | _ | _ | _ | _ | j
  · exact h
  · exact h
  · exact h
  · exact h
  · exact h
  · exact h
  · exact h
  · exact h
  · exact h
  · exact h
  · exact h
  · trivial
theorem wsPP28_same (P : PoolK) (w0 : World) (R Rq : Nat) (s : QS) (v : Value) (hs : List (Int × Nat)) (X : Nat → Prop) (gB cB gG cG gL cL : Nat) (vN : Value) (b : Nat) (ih : Int) (gh : Nat) : ∀ (W0 : World) (L : Nat → Bool) (i : Nat) (w : World), i ≠ 2 → i ≠ 8 → wsPP28 P w0 R Rq s v hs X gB cB gG cG gL cL vN b ih gh W0 L w → wsPP28 P w0 R Rq s v hs X gB cB gG cG gL cL vN b ih gh W0 (andI L i) w := by
  intro W0 L i w n2 n8 h
  have e : ∀ k, k ≠ i → andI L i k = L k := fun k hk => by simp [andI, hk]
  unfold wsPP28 at h ⊢
  rw [e 2 (Ne.symm n2), e 8 (Ne.symm n8)]
  exact h
theorem psiPP28_any (P : PoolK) (w0 : World) (R Rq : Nat) (s : QS) (v : Value) (hs : List (Int × Nat)) (X : Nat → Prop) (gB cB gG cG gL cL : Nat) (vN : Value) (b : Nat) (ih : Int) (gh : Nat) {L L' : Nat → Bool} {j : Nat} {u : Value} {w w' : World} (h : psiPP28 P w0 R Rq s v hs X gB cB gG cG gL cL vN b ih gh L j u w) : psiPP28 P w0 R Rq s v hs X gB cB gG cG gL cL vN b ih gh L' j u w' := by
  rcases j with _ | _ | _ | _ | _ | _ | _ | _ | _ | _ | _ | j
  all_goals first | exact h | trivial
section
variable {P : PoolK} {w0 : World} {R Rq : Nat} {s : QS} {v : Value} {hs : List (Int × Nat)} {X : Nat → Prop} {gB cB gG cG gL cL : Nat} {vN : Value} {b : Nat} {ih : Int} {gh : Nat}  {W0 w : World} {L : Nat → Bool}
theorem wsPP28_kp (h : wsPP28 P w0 R Rq s v hs X gB cB gG cG gL cL vN b ih gh W0 L w) : Kp X W0 w := h.elim fun _ h => h.2.1
theorem wsPP28_a (h : wsPP28 P w0 R Rq s v hs X gB cB gG cG gL cL vN b ih gh W0 L w) (ha : L 2 = false) : ∃ vN', PS P w0 R Rq s (if L 8 = true then s.backS ih gh else s) v hs X gB cB gG cG gL cL vN' w ∧ Kp X W0 w ∧ True := by
  obtain ⟨vN', h1, h2⟩ := h
  rw [ha] at h1
  exact ⟨vN', h1, h2⟩
theorem wsPP28_c (h : wsPP28 P w0 R Rq s v hs X gB cB gG cG gL cL vN b ih gh W0 L w) (hc : L 8 = false) : ∃ vN', PS P w0 R Rq (if L 2 = true then s.backS ih gh else s) s v hs X gB cB gG cG gL cL vN' w ∧ Kp X W0 w ∧ True := by
  obtain ⟨vN', h1, h2⟩ := h
  rw [hc] at h1
  exact ⟨vN', h1, h2⟩
theorem wsPP28_a' {vN' : Value} (h : PS P w0 R Rq (s.backS ih gh) (if L 8 = true then s.backS ih gh else s) v hs X gB cB gG cG gL cL vN' w) (hk : Kp X W0 w) : wsPP28 P w0 R Rq s v hs X gB cB gG cG gL cL vN b ih gh W0 (andI L 2) w := by
  refine ⟨vN', ?_, hk, trivial⟩
  rw [andI_self, if_pos rfl, show andI L 2 8 = L 8 by simp [andI]]
  exact h
theorem wsPP28_c' {vN' : Value} (h : PS P w0 R Rq (if L 2 = true then s.backS ih gh else s) (s.backS ih gh) v hs X gB cB gG cG gL cL vN' w) (hk : Kp X W0 w) : wsPP28 P w0 R Rq s v hs X gB cB gG cG gL cL vN b ih gh W0 (andI L 8) w := by
  refine ⟨vN', ?_, hk, trivial⟩
  rw [andI_self, if_pos rfl, show andI L 8 2 = L 2 by simp [andI]]
  exact h
theorem wsPP28_end (h : wsPP28 P w0 R Rq s v hs X gB cB gG cG gL cL vN b ih gh W0 L w) (ha : L 2 = true) (hc : L 8 = true) : ∃ vN', PS P w0 R Rq (s.backS ih gh) (s.backS ih gh) v hs X gB cB gG cG gL cL vN' w ∧ Kp X W0 w := by
  obtain ⟨vN', h1, h2, _⟩ := h
  rw [ha, hc] at h1
  exact ⟨vN', h1, h2⟩
theorem wsPP28_low (h : wsPP28 P w0 R Rq s v hs X gB cB gG cG gL cL vN b ih gh W0 L w) : Below w0.heap.size w0 w := h.elim fun _ h => h.1.live.below
end
set_option maxRecDepth 100000 in
set_option maxHeartbeats 4000000 in
theorem plays_back {p : String} (P : PoolK) (w0 : World) (R Rq : Nat) (s : QS) (v : Value) (hs : List (Int × Nat)) (X : Nat → Prop) (gB cB gG cG gL cL : Nat) (vN : Value) (b : Nat) (ih : Int) (gh : Nat) (hi : InI ih) (hg : gh < 4294967296) (hroom : s.good ih gh = true → s.N.length < s.n) (hXb : X b) (a : Act) (w : World) (Q : Exit → Act → World → Prop) (hN : a.tmps.size = 302) (h7 : a.tmps.getD 7 undef = .pointer (some ⟨R, 0, none⟩)) (h13 : a.tmps.getD 13 undef = .pointer (some ⟨Rq, 0, none⟩)) (h16 : a.tmps.getD 16 undef = .pointer (some ⟨b, 0, none⟩)) (hps : PS P w0 R Rq s s v hs X gB cB gG cG gL cL vN w) (hb16 : w.heap[b]? = some (.cells #[.int .i64 ih, .int .u32 (gh : Int)] 29 (0, 0))) (hQ : ∀ (w' : World), (∃ vN', PS P w0 R Rq (s.backS ih gh) (s.backS ih gh) v hs X gB cB gG cG gL cL vN' w' ∧ Kp X w w') → Q .normal (puts [(194, .pointer (some ⟨R, 0, none⟩)), (195, hV ih gh), (196, .int .i64 (s.backR ih gh : Int)), (197, .pointer (some ⟨Rq, 0, none⟩)), (198, .pointer (some ⟨b, 0, none⟩)), (199, .int .i64 ih), (200, .pointer (some ⟨b, 1, none⟩)), (201, .int .u32 (gh : Int)), (202, .int .i64 (s.backR ih gh : Int)), (203, .bool true), (17, .bool true)] a) w')
    : (Code.region 28 (opsPP28 p).toArray true).wp Try.prog Q a w := by
  refine (wpIn_wide (n := 1)).1 (wpIn_region_st 302 hN follows (opsPP28_back p) (opsPP28_slots p) (wsPP28 P w0 R Rq s v hs X gB cB gG cG gL cL vN b ih gh w) (psiPP28 P w0 R Rq s v hs X gB cB gG cG gL cL vN b ih gh) (⟨vN, hps.drew, ⟨Nat.le_refl _, fun _ _ => rfl⟩, trivial⟩) ?_ ?_)
  · intro L i o d a' w' ho hd hLi hdep hcl hF hW hp
    rcases i with _ | _ | _ | _ | _ | _ | _ | _ | _ | _ | _ | i
    · obtain rfl : oPP280 p = o := Option.some.inj ho
      obtain rfl : 194 = d := Option.some.inj hd
      exact step_move rfl rfl rfl (hF.at 7 rfl h7) ⟨_, rfl, rfl, wsPP28_same _ _ _ _ _ _ _ _ _ _ _ _ _ _ _ _ _ _  _ _ _ _ (by decide) (by decide) hW, fun j u _ h => psiPP28_same _ _ _ _ _ _ _ _ _ _ _ _ _ _ _ _ _ _  _ _ _ _ _ h⟩
    · obtain rfl : oPP281 p = o := Option.some.inj ho
      obtain rfl : 195 = d := Option.some.inj hd
      exact step_load rfl rfl rfl (hF.at 16 rfl h16) (run_ldH _ _ _ _ ((wsPP28_kp hW).blk hb16 hXb)) ⟨_, rfl, rfl, wsPP28_same _ _ _ _ _ _ _ _ _ _ _ _ _ _ _ _ _ _  _ _ _ _ (by decide) (by decide) hW, fun j u _ h => psiPP28_same _ _ _ _ _ _ _ _ _ _ _ _ _ _ _ _ _ _  _ _ _ _ _ h⟩
    · obtain rfl : oPP282 p = o := Option.some.inj ho
      obtain rfl : 196 = d := Option.some.inj hd
      have q0 : a'.tmps.getD 194 undef = .pointer (some ⟨R, 0, none⟩) := hp 0 (oPP280 p) 194 (hdep 0 rfl) rfl rfl
      have q1 : a'.tmps.getD 195 undef = hV ih gh := hp 1 (oPP281 p) 195 (hdep 1 rfl) rfl rfl
      obtain ⟨vN', hps, hkp, -⟩ := wsPP28_a hW hLi
      refine step_callP rfl rfl rfl (enters_of Try.func8 (by kernel_rfl) rfl) (show Array.map a'.eval #[.tmp 194, .tmp 195] = _ from by simp only [List.map_toArray, List.map_cons, List.map_nil, Act.eval, q0, q1]) ((Live.back ih gh hps.live hi hg hroom).mono ?_)
      rintro e w'' ⟨rfl, hl, hm⟩
      obtain ⟨h1, h2⟩ := hps.pool hl hm
      exact ⟨_, rfl, _, rfl, rfl, wsPP28_a' h1 (hkp.trans h2), fun j u _ h => psiPP28_any _ _ _ _ _ _ _ _ _ _ _ _ _ _ _ _ _ _  h⟩
    · obtain rfl : oPP283 p = o := Option.some.inj ho
      obtain rfl : 197 = d := Option.some.inj hd
      exact step_move rfl rfl rfl (hF.at 13 rfl h13) ⟨_, rfl, rfl, wsPP28_same _ _ _ _ _ _ _ _ _ _ _ _ _ _ _ _ _ _  _ _ _ _ (by decide) (by decide) hW, fun j u _ h => psiPP28_same _ _ _ _ _ _ _ _ _ _ _ _ _ _ _ _ _ _  _ _ _ _ _ h⟩
    · obtain rfl : oPP284 p = o := Option.some.inj ho
      obtain rfl : 198 = d := Option.some.inj hd
      exact step_field rfl rfl rfl (hF.at 16 rfl h16) (run_h0 _ _) ⟨_, rfl, rfl, wsPP28_same _ _ _ _ _ _ _ _ _ _ _ _ _ _ _ _ _ _  _ _ _ _ (by decide) (by decide) hW, fun j u _ h => psiPP28_same _ _ _ _ _ _ _ _ _ _ _ _ _ _ _ _ _ _  _ _ _ _ _ h⟩
    · obtain rfl : oPP285 p = o := Option.some.inj ho
      obtain rfl : 199 = d := Option.some.inj hd
      have q4 : a'.tmps.getD 198 undef = .pointer (some ⟨b, 0, none⟩) := hp 4 (oPP284 p) 198 (hdep 4 rfl) rfl rfl
      exact step_load rfl rfl rfl q4 (run_ldI2 _ _ _ _ ((wsPP28_kp hW).blk hb16 hXb)) ⟨_, rfl, rfl, wsPP28_same _ _ _ _ _ _ _ _ _ _ _ _ _ _ _ _ _ _  _ _ _ _ (by decide) (by decide) hW, fun j u _ h => psiPP28_same _ _ _ _ _ _ _ _ _ _ _ _ _ _ _ _ _ _  _ _ _ _ _ h⟩
    · obtain rfl : oPP286 p = o := Option.some.inj ho
      obtain rfl : 200 = d := Option.some.inj hd
      exact step_field rfl rfl rfl (hF.at 16 rfl h16) (run_h1 _ _) ⟨_, rfl, rfl, wsPP28_same _ _ _ _ _ _ _ _ _ _ _ _ _ _ _ _ _ _  _ _ _ _ (by decide) (by decide) hW, fun j u _ h => psiPP28_same _ _ _ _ _ _ _ _ _ _ _ _ _ _ _ _ _ _  _ _ _ _ _ h⟩
    · obtain rfl : oPP287 p = o := Option.some.inj ho
      obtain rfl : 201 = d := Option.some.inj hd
      have q6 : a'.tmps.getD 200 undef = .pointer (some ⟨b, 1, none⟩) := hp 6 (oPP286 p) 200 (hdep 6 rfl) rfl rfl
      exact step_load rfl rfl rfl q6 (run_ldU2 _ _ _ _ ((wsPP28_kp hW).blk hb16 hXb)) ⟨_, rfl, rfl, wsPP28_same _ _ _ _ _ _ _ _ _ _ _ _ _ _ _ _ _ _  _ _ _ _ (by decide) (by decide) hW, fun j u _ h => psiPP28_same _ _ _ _ _ _ _ _ _ _ _ _ _ _ _ _ _ _  _ _ _ _ _ h⟩
    · obtain rfl : oPP288 p = o := Option.some.inj ho
      obtain rfl : 202 = d := Option.some.inj hd
      have q3 : a'.tmps.getD 197 undef = .pointer (some ⟨Rq, 0, none⟩) := hp 3 (oPP283 p) 197 (hdep 3 rfl) rfl rfl
      have q5 : a'.tmps.getD 199 undef = .int .i64 ih := hp 5 (oPP285 p) 199 (hdep 5 rfl) rfl rfl
      have q7 : a'.tmps.getD 201 undef = .int .u32 (gh : Int) := hp 7 (oPP287 p) 201 (hdep 7 rfl) rfl rfl
      obtain ⟨vN', hps, hkp, -⟩ := wsPP28_c hW hLi
      refine step_callP rfl rfl rfl (enters_of Try.func14 (by kernel_rfl) rfl) (show Array.map a'.eval #[.tmp 197, .tmp 199, .tmp 201] = _ from by simp only [List.map_toArray, List.map_cons, List.map_nil, Act.eval, q3, q5, q7]) ((q_Back w' w0.heap.size Rq gB cB gG cG gL cL vN' s hps.rq ih gh hroom hi.1 hi.2 hg hps.live.below.size).mono ?_)
      rintro e w'' ⟨rfl, vN2, hq, ho, hv⟩
      obtain ⟨h1, h2⟩ := hps.ref hq ho hv
      exact ⟨_, rfl, _, rfl, rfl, wsPP28_c' h1 (hkp.trans h2), fun j u _ h => psiPP28_any _ _ _ _ _ _ _ _ _ _ _ _ _ _ _ _ _ _  h⟩
    · obtain rfl : oPP289 p = o := Option.some.inj ho
      obtain rfl : 203 = d := Option.some.inj hd
      have q2 : a'.tmps.getD 196 undef = .int .i64 (s.backR ih gh : Int) := hp 2 (oPP282 p) 196 (hdep 2 rfl) rfl rfl
      have q8 : a'.tmps.getD 202 undef = .int .i64 (s.backR ih gh : Int) := hp 8 (oPP288 p) 202 (hdep 8 rfl) rfl rfl
      exact step_bin rfl rfl rfl q2 q8 (guard_int _ _ _ _ _ _ _ _ _) (by rw [run_eqi]; simp) ⟨_, rfl, rfl, wsPP28_same _ _ _ _ _ _ _ _ _ _ _ _ _ _ _ _ _ _  _ _ _ _ (by decide) (by decide) hW, fun j u _ h => psiPP28_same _ _ _ _ _ _ _ _ _ _ _ _ _ _ _ _ _ _  _ _ _ _ _ h⟩
    · obtain rfl : oPP2810 p = o := Option.some.inj ho
      obtain rfl : 17 = d := Option.some.inj hd
      have q9 : a'.tmps.getD 203 undef = .bool true := hp 9 (oPP289 p) 203 (hdep 9 rfl) rfl rfl
      exact step_assign rfl rfl rfl q9 ⟨_, rfl, rfl, wsPP28_same _ _ _ _ _ _ _ _ _ _ _ _ _ _ _ _ _ _  _ _ _ _ (by decide) (by decide) hW, fun j u _ h => psiPP28_same _ _ _ _ _ _ _ _ _ _ _ _ _ _ _ _ _ _  _ _ _ _ _ h⟩
    · exact absurd ((Array.getElem?_eq_some_iff.1 ho).1) (by simp [opsPP28])
  · intro L a' w' hLall hF hW hp
    have e0 : psiPP28 P w0 R Rq s v hs X gB cB gG cG gL cL vN b ih gh L 0 (a'.tmps.getD 194 undef) w' := hp 0 (oPP280 p) 194 rfl rfl
    have e1 : psiPP28 P w0 R Rq s v hs X gB cB gG cG gL cL vN b ih gh L 1 (a'.tmps.getD 195 undef) w' := hp 1 (oPP281 p) 195 rfl rfl
    have e2 : psiPP28 P w0 R Rq s v hs X gB cB gG cG gL cL vN b ih gh L 2 (a'.tmps.getD 196 undef) w' := hp 2 (oPP282 p) 196 rfl rfl
    have e3 : psiPP28 P w0 R Rq s v hs X gB cB gG cG gL cL vN b ih gh L 3 (a'.tmps.getD 197 undef) w' := hp 3 (oPP283 p) 197 rfl rfl
    have e4 : psiPP28 P w0 R Rq s v hs X gB cB gG cG gL cL vN b ih gh L 4 (a'.tmps.getD 198 undef) w' := hp 4 (oPP284 p) 198 rfl rfl
    have e5 : psiPP28 P w0 R Rq s v hs X gB cB gG cG gL cL vN b ih gh L 5 (a'.tmps.getD 199 undef) w' := hp 5 (oPP285 p) 199 rfl rfl
    have e6 : psiPP28 P w0 R Rq s v hs X gB cB gG cG gL cL vN b ih gh L 6 (a'.tmps.getD 200 undef) w' := hp 6 (oPP286 p) 200 rfl rfl
    have e7 : psiPP28 P w0 R Rq s v hs X gB cB gG cG gL cL vN b ih gh L 7 (a'.tmps.getD 201 undef) w' := hp 7 (oPP287 p) 201 rfl rfl
    have e8 : psiPP28 P w0 R Rq s v hs X gB cB gG cG gL cL vN b ih gh L 8 (a'.tmps.getD 202 undef) w' := hp 8 (oPP288 p) 202 rfl rfl
    have e9 : psiPP28 P w0 R Rq s v hs X gB cB gG cG gL cL vN b ih gh L 9 (a'.tmps.getD 203 undef) w' := hp 9 (oPP289 p) 203 rfl rfl
    have e10 : psiPP28 P w0 R Rq s v hs X gB cB gG cG gL cL vN b ih gh L 10 (a'.tmps.getD 17 undef) w' := hp 10 (oPP2810 p) 17 rfl rfl
    rw [hF.puts [(194, .pointer (some ⟨R, 0, none⟩)), (195, hV ih gh), (196, .int .i64 (s.backR ih gh : Int)), (197, .pointer (some ⟨Rq, 0, none⟩)), (198, .pointer (some ⟨b, 0, none⟩)), (199, .int .i64 ih), (200, .pointer (some ⟨b, 1, none⟩)), (201, .int .u32 (gh : Int)), (202, .int .i64 (s.backR ih gh : Int)), (203, .bool true), (17, .bool true)] ?_ rfl (by rw [hN]; rfl)]
    · exact hQ  w'  (wsPP28_end hW (hLall 2 (by simp [opsPP28])) (hLall 8 (by simp [opsPP28])))
    · intro x hx
      simp only [List.mem_cons, List.not_mem_nil, or_false] at hx
      rcases hx with rfl | rfl | rfl | rfl | rfl | rfl | rfl | rfl | rfl | rfl | rfl
      · exact e0
      · exact e1
      · exact e2
      · exact e3
      · exact e4
      · exact e5
      · exact e6
      · exact e7
      · exact e8
      · exact e9
      · exact e10
def oPP310 (p : String) : Oper := { dst := some 212, op := Op.move (Operand.tmp 7), type := 23, pos := p, after := #[], guard := none }
def oPP311 (p : String) : Oper := { dst := some 213, op := Op.load 29 (Operand.tmp 16), type := 29, pos := p, after := #[], guard := none }
def oPP312 (p : String) : Oper := { dst := some 214, op := Op.move (Operand.tmp 21), type := 32, pos := p, after := #[], guard := none }
def oPP313 (p : String) : Oper := { dst := some 215, op := Op.call { callee := Callee.value (Operand.func 9), args := #[Operand.tmp 212, Operand.tmp 213, Operand.tmp 214], argTypes := #[23, 29, 32] }, type := 24, pos := p, after := #[{ on := 0, ground := Ground.data }, { on := 1, ground := Ground.data }, { on := 2, ground := Ground.data }], guard := none }
def oPP314 (p : String) : Oper := { dst := some 216, op := Op.move (Operand.tmp 13), type := 39, pos := p, after := #[], guard := none }
def oPP315 (p : String) : Oper := { dst := some 217, op := Op.fieldAddr 29 (Operand.tmp 16) 0, type := 0, pos := p, after := #[], guard := none }
def oPP316 (p : String) : Oper := { dst := some 218, op := Op.load 3 (Operand.tmp 217), type := 3, pos := p, after := #[{ on := 5, ground := Ground.data }], guard := none }
def oPP317 (p : String) : Oper := { dst := some 219, op := Op.fieldAddr 29 (Operand.tmp 16) 1, type := 0, pos := p, after := #[], guard := none }
def oPP318 (p : String) : Oper := { dst := some 220, op := Op.load 27 (Operand.tmp 219), type := 27, pos := p, after := #[{ on := 7, ground := Ground.data }], guard := none }
def oPP319 (p : String) : Oper := { dst := some 221, op := Op.move (Operand.tmp 2), type := 22, pos := p, after := #[], guard := none }
def oPP3110 (p : String) : Oper := { dst := some 222, op := Op.move (Operand.tmp 15), type := 3, pos := p, after := #[], guard := none }
def oPP3111 (p : String) : Oper := { dst := some 223, op := Op.indexAddr 22 (Operand.tmp 221) (Operand.tmp 222), type := 0, pos := p, after := #[{ on := 9, ground := Ground.data }, { on := 10, ground := Ground.data }], guard := none }
def oPP3112 (p : String) : Oper := { dst := some 224, op := Op.fieldAddr 43 (Operand.tmp 223) 3, type := 0, pos := p, after := #[{ on := 11, ground := Ground.data }], guard := none }
def oPP3113 (p : String) : Oper := { dst := some 225, op := Op.load 32 (Operand.tmp 224), type := 32, pos := p, after := #[{ on := 12, ground := Ground.data }], guard := none }
def oPP3114 (p : String) : Oper := { dst := some 226, op := Op.convert 32 9 (Operand.tmp 225), type := 9, pos := p, after := #[{ on := 13, ground := Ground.data }], guard := none }
def oPP3115 (p : String) : Oper := { dst := some 227, op := Op.call { callee := Callee.value (Operand.func 15), args := #[Operand.tmp 216, Operand.tmp 218, Operand.tmp 220, Operand.tmp 226], argTypes := #[39, 3, 27, 9] }, type := 24, pos := p, after := #[{ on := 4, ground := Ground.data }, { on := 6, ground := Ground.data }, { on := 8, ground := Ground.data }, { on := 14, ground := Ground.data }, { on := 3, ground := Ground.chain }], guard := none }
def oPP3116 (p : String) : Oper := { dst := some 228, op := Op.binOp BinOp.eql 24 (Operand.tmp 215) (Operand.tmp 227) 24, type := 4, pos := p, after := #[{ on := 3, ground := Ground.data }, { on := 15, ground := Ground.data }], guard := none }
def oPP3117 (p : String) : Oper := { dst := some 17, op := Op.assign (Operand.tmp 228), type := 4, pos := p, after := #[{ on := 16, ground := Ground.data }, { on := 15, ground := Ground.chain }, { on := 0, ground := Ground.phase }, { on := 1, ground := Ground.phase }, { on := 2, ground := Ground.phase }, { on := 3, ground := Ground.phase }, { on := 4, ground := Ground.phase }, { on := 5, ground := Ground.phase }, { on := 6, ground := Ground.phase }, { on := 7, ground := Ground.phase }, { on := 8, ground := Ground.phase }, { on := 9, ground := Ground.phase }, { on := 10, ground := Ground.phase }, { on := 11, ground := Ground.phase }, { on := 12, ground := Ground.phase }, { on := 13, ground := Ground.phase }, { on := 14, ground := Ground.phase }, { on := 15, ground := Ground.phase }, { on := 16, ground := Ground.phase }], guard := none }
def opsPP31 (p : String) : List Oper := [oPP310 p, oPP311 p, oPP312 p, oPP313 p, oPP314 p, oPP315 p, oPP316 p, oPP317 p, oPP318 p, oPP319 p, oPP3110 p, oPP3111 p, oPP3112 p, oPP3113 p, oPP3114 p, oPP3115 p, oPP3116 p, oPP3117 p]
theorem opsPP31_back (p : String) : backwards (opsPP31 p) = true := by kernel_rfl
theorem opsPP31_slots (p : String) : slotsOk 302 (opsPP31 p) = true := by kernel_rfl
/-- What each slot comes to. -/
def psiPP31 (P : PoolK) (w0 : World) (R Rq : Nat) (s : QS) (v : Value) (hs : List (Int × Nat)) (X : Nat → Prop) (gB cB gG cG gL cL : Nat) (vN : Value) (b : Nat) (ih : Int) (gh : Nat) (A21 : Option Addr) (L21 c21 : Nat) (x : List UInt8) (lb lo Ln lc k : Nat) (AB : Option Addr) (LB cB2 : Nat) (L : Nat → Bool) : Nat → Value → World → Prop
  | 0, v, _ => v = .pointer (some ⟨R, 0, none⟩)
  | 1, v, _ => v = hV ih gh
  | 2, v, _ => v = .slice A21 L21 c21
  | 3, v, _ => v = .int .i64 (s.setR ih gh x : Int)
  | 4, v, _ => v = .pointer (some ⟨Rq, 0, none⟩)
  | 5, v, _ => v = .pointer (some ⟨b, 0, none⟩)
  | 6, v, _ => v = .int .i64 ih
  | 7, v, _ => v = .pointer (some ⟨b, 1, none⟩)
  | 8, v, _ => v = .int .u32 (gh : Int)
  | 9, v, _ => v = .slice (some ⟨lb, lo, none⟩) Ln lc
  | 10, v, _ => v = .int .i64 (k : Int)
  | 11, v, _ => v = .pointer (some ⟨lb, lo + k * 5, none⟩)
  | 12, v, _ => v = .pointer (some ⟨lb, lo + k * 5 + 4, none⟩)
  | 13, v, _ => v = .slice AB LB cB2
  | 14, v, _ => v = .string (str x)
  | 15, v, _ => v = .int .i64 (s.setR ih gh x : Int)
  | 16, v, _ => v = .bool true
  | 17, v, _ => v = .bool true
  | _, _, _ => True
def wsPP31 (P : PoolK) (w0 : World) (R Rq : Nat) (s : QS) (v : Value) (hs : List (Int × Nat)) (X : Nat → Prop) (gB cB gG cG gL cL : Nat) (vN : Value) (b : Nat) (ih : Int) (gh : Nat) (A21 : Option Addr) (L21 c21 : Nat) (x : List UInt8) (lb lo Ln lc k : Nat) (AB : Option Addr) (LB cB2 : Nat) (W0 : World) (L : Nat → Bool) (w : World) : Prop := ∃ vN', PS P w0 R Rq (if L 3 = true then s.setS ih gh x else s) (if L 15 = true then s.setS ih gh x else s) v hs X gB cB gG cG gL cL vN' w ∧ Kp X W0 w ∧ True
theorem psiPP31_same (P : PoolK) (w0 : World) (R Rq : Nat) (s : QS) (v : Value) (hs : List (Int × Nat)) (X : Nat → Prop) (gB cB gG cG gL cL : Nat) (vN : Value) (b : Nat) (ih : Int) (gh : Nat) (A21 : Option Addr) (L21 c21 : Nat) (x : List UInt8) (lb lo Ln lc k : Nat) (AB : Option Addr) (LB cB2 : Nat) : ∀ (L : Nat → Bool) (i j : Nat) (u : Value) (w : World), psiPP31 P w0 R Rq s v hs X gB cB gG cG gL cL vN b ih gh A21 L21 c21 x lb lo Ln lc k AB LB cB2 L j u w → psiPP31 P w0 R Rq s v hs X gB cB gG cG gL cL vN b ih gh A21 L21 c21 x lb lo Ln lc k AB LB cB2 (andI L i) j u w := by
  intro L i j u w h
  rcases j with _ | _ | _ | _ | _ | _ | _ | _ | _ | _ | _ | _ | _ | _ | _ | _ | _ | _ | j
  · exact h
  · exact h
  · exact h
  · exact h
  · exact h
  · exact h
  · exact h
  · exact h
  · exact h
  · exact h
  · exact h
  · exact h
  · exact h
  · exact h
  · exact h
  · exact h
  · exact h
  · exact h
  · trivial
theorem wsPP31_same (P : PoolK) (w0 : World) (R Rq : Nat) (s : QS) (v : Value) (hs : List (Int × Nat)) (X : Nat → Prop) (gB cB gG cG gL cL : Nat) (vN : Value) (b : Nat) (ih : Int) (gh : Nat) (A21 : Option Addr) (L21 c21 : Nat) (x : List UInt8) (lb lo Ln lc k : Nat) (AB : Option Addr) (LB cB2 : Nat) : ∀ (W0 : World) (L : Nat → Bool) (i : Nat) (w : World), i ≠ 3 → i ≠ 15 → wsPP31 P w0 R Rq s v hs X gB cB gG cG gL cL vN b ih gh A21 L21 c21 x lb lo Ln lc k AB LB cB2 W0 L w → wsPP31 P w0 R Rq s v hs X gB cB gG cG gL cL vN b ih gh A21 L21 c21 x lb lo Ln lc k AB LB cB2 W0 (andI L i) w := by
  intro W0 L i w n3 n15 h
  have e : ∀ k, k ≠ i → andI L i k = L k := fun k hk => by simp [andI, hk]
  unfold wsPP31 at h ⊢
  rw [e 3 (Ne.symm n3), e 15 (Ne.symm n15)]
  exact h
theorem psiPP31_any (P : PoolK) (w0 : World) (R Rq : Nat) (s : QS) (v : Value) (hs : List (Int × Nat)) (X : Nat → Prop) (gB cB gG cG gL cL : Nat) (vN : Value) (b : Nat) (ih : Int) (gh : Nat) (A21 : Option Addr) (L21 c21 : Nat) (x : List UInt8) (lb lo Ln lc k : Nat) (AB : Option Addr) (LB cB2 : Nat) {L L' : Nat → Bool} {j : Nat} {u : Value} {w w' : World} (h : psiPP31 P w0 R Rq s v hs X gB cB gG cG gL cL vN b ih gh A21 L21 c21 x lb lo Ln lc k AB LB cB2 L j u w) : psiPP31 P w0 R Rq s v hs X gB cB gG cG gL cL vN b ih gh A21 L21 c21 x lb lo Ln lc k AB LB cB2 L' j u w' := by
  rcases j with _ | _ | _ | _ | _ | _ | _ | _ | _ | _ | _ | _ | _ | _ | _ | _ | _ | _ | j
  all_goals first | exact h | trivial
section
variable {P : PoolK} {w0 : World} {R Rq : Nat} {s : QS} {v : Value} {hs : List (Int × Nat)} {X : Nat → Prop} {gB cB gG cG gL cL : Nat} {vN : Value} {b : Nat} {ih : Int} {gh : Nat} {A21 : Option Addr} {L21 c21 : Nat} {x : List UInt8} {lb lo Ln lc k : Nat} {AB : Option Addr} {LB cB2 : Nat} {W0 w : World} {L : Nat → Bool}
theorem wsPP31_kp (h : wsPP31 P w0 R Rq s v hs X gB cB gG cG gL cL vN b ih gh A21 L21 c21 x lb lo Ln lc k AB LB cB2 W0 L w) : Kp X W0 w := h.elim fun _ h => h.2.1
theorem wsPP31_a (h : wsPP31 P w0 R Rq s v hs X gB cB gG cG gL cL vN b ih gh A21 L21 c21 x lb lo Ln lc k AB LB cB2 W0 L w) (ha : L 3 = false) : ∃ vN', PS P w0 R Rq s (if L 15 = true then s.setS ih gh x else s) v hs X gB cB gG cG gL cL vN' w ∧ Kp X W0 w ∧ True := by
  obtain ⟨vN', h1, h2⟩ := h
  rw [ha] at h1
  exact ⟨vN', h1, h2⟩
theorem wsPP31_c (h : wsPP31 P w0 R Rq s v hs X gB cB gG cG gL cL vN b ih gh A21 L21 c21 x lb lo Ln lc k AB LB cB2 W0 L w) (hc : L 15 = false) : ∃ vN', PS P w0 R Rq (if L 3 = true then s.setS ih gh x else s) s v hs X gB cB gG cG gL cL vN' w ∧ Kp X W0 w ∧ True := by
  obtain ⟨vN', h1, h2⟩ := h
  rw [hc] at h1
  exact ⟨vN', h1, h2⟩
theorem wsPP31_a' {vN' : Value} (h : PS P w0 R Rq (s.setS ih gh x) (if L 15 = true then s.setS ih gh x else s) v hs X gB cB gG cG gL cL vN' w) (hk : Kp X W0 w) : wsPP31 P w0 R Rq s v hs X gB cB gG cG gL cL vN b ih gh A21 L21 c21 x lb lo Ln lc k AB LB cB2 W0 (andI L 3) w := by
  refine ⟨vN', ?_, hk, trivial⟩
  rw [andI_self, if_pos rfl, show andI L 3 15 = L 15 by simp [andI]]
  exact h
theorem wsPP31_c' {vN' : Value} (h : PS P w0 R Rq (if L 3 = true then s.setS ih gh x else s) (s.setS ih gh x) v hs X gB cB gG cG gL cL vN' w) (hk : Kp X W0 w) : wsPP31 P w0 R Rq s v hs X gB cB gG cG gL cL vN b ih gh A21 L21 c21 x lb lo Ln lc k AB LB cB2 W0 (andI L 15) w := by
  refine ⟨vN', ?_, hk, trivial⟩
  rw [andI_self, if_pos rfl, show andI L 15 3 = L 3 by simp [andI]]
  exact h
theorem wsPP31_end (h : wsPP31 P w0 R Rq s v hs X gB cB gG cG gL cL vN b ih gh A21 L21 c21 x lb lo Ln lc k AB LB cB2 W0 L w) (ha : L 3 = true) (hc : L 15 = true) : ∃ vN', PS P w0 R Rq (s.setS ih gh x) (s.setS ih gh x) v hs X gB cB gG cG gL cL vN' w ∧ Kp X W0 w := by
  obtain ⟨vN', h1, h2, _⟩ := h
  rw [ha, hc] at h1
  exact ⟨vN', h1, h2⟩
theorem wsPP31_low (h : wsPP31 P w0 R Rq s v hs X gB cB gG cG gL cL vN b ih gh A21 L21 c21 x lb lo Ln lc k AB LB cB2 W0 L w) : Below w0.heap.size w0 w := h.elim fun _ h => h.1.live.below
end
set_option maxRecDepth 100000 in
set_option maxHeartbeats 4000000 in
theorem plays_set {p : String} (P : PoolK) (w0 : World) (R Rq : Nat) (s : QS) (v : Value) (hs : List (Int × Nat)) (X : Nat → Prop) (gB cB gG cG gL cL : Nat) (vN : Value) (b : Nat) (ih : Int) (gh : Nat) (A21 : Option Addr) (L21 c21 : Nat) (x : List UInt8) (lb lo Ln lc k : Nat) (AB : Option Addr) (LB cB2 : Nat) (hi : InI ih) (hg : gh < 4294967296) (hXb : X b) (hL21 : L21 = x.length) (hl21 : L21 ≤ 140737488355328) (hc21 : L21 ≤ c21) (hXA : ∀ b o, A21 = some ⟨b, o, none⟩ → X b) (hk : k < Ln) (hLn : Ln ≤ 200) (hLB : LB = x.length) (hlb : lb < w0.heap.size) (hBc : w0.cell? ⟨lb, lo + k * 5 + 4, none⟩ = some (.slice AB LB cB2)) (hAB : HasA w0 w0.heap.size AB x) (a : Act) (w : World) (Q : Exit → Act → World → Prop) (hN : a.tmps.size = 302) (h2 : a.tmps.getD 2 undef = .slice (some ⟨lb, lo, none⟩) Ln lc) (h7 : a.tmps.getD 7 undef = .pointer (some ⟨R, 0, none⟩)) (h13 : a.tmps.getD 13 undef = .pointer (some ⟨Rq, 0, none⟩)) (h15 : a.tmps.getD 15 undef = .int .i64 (k : Int)) (h16 : a.tmps.getD 16 undef = .pointer (some ⟨b, 0, none⟩)) (h21 : a.tmps.getD 21 undef = .slice A21 L21 c21) (hps : PS P w0 R Rq s s v hs X gB cB gG cG gL cL vN w) (hb16 : w.heap[b]? = some (.cells #[.int .i64 ih, .int .u32 (gh : Int)] 29 (0, 0))) (hA21 : HasA w w.heap.size A21 x) (hQ : ∀ (w' : World), (∃ vN', PS P w0 R Rq (s.setS ih gh x) (s.setS ih gh x) v hs X gB cB gG cG gL cL vN' w' ∧ Kp X w w') → Q .normal (puts [(212, .pointer (some ⟨R, 0, none⟩)), (213, hV ih gh), (214, .slice A21 L21 c21), (215, .int .i64 (s.setR ih gh x : Int)), (216, .pointer (some ⟨Rq, 0, none⟩)), (217, .pointer (some ⟨b, 0, none⟩)), (218, .int .i64 ih), (219, .pointer (some ⟨b, 1, none⟩)), (220, .int .u32 (gh : Int)), (221, .slice (some ⟨lb, lo, none⟩) Ln lc), (222, .int .i64 (k : Int)), (223, .pointer (some ⟨lb, lo + k * 5, none⟩)), (224, .pointer (some ⟨lb, lo + k * 5 + 4, none⟩)), (225, .slice AB LB cB2), (226, .string (str x)), (227, .int .i64 (s.setR ih gh x : Int)), (228, .bool true), (17, .bool true)] a) w')
    : (Code.region 31 (opsPP31 p).toArray true).wp Try.prog Q a w := by
  refine (wpIn_wide (n := 1)).1 (wpIn_region_st 302 hN follows (opsPP31_back p) (opsPP31_slots p) (wsPP31 P w0 R Rq s v hs X gB cB gG cG gL cL vN b ih gh A21 L21 c21 x lb lo Ln lc k AB LB cB2 w) (psiPP31 P w0 R Rq s v hs X gB cB gG cG gL cL vN b ih gh A21 L21 c21 x lb lo Ln lc k AB LB cB2) (⟨vN, hps.drew, ⟨Nat.le_refl _, fun _ _ => rfl⟩, trivial⟩) ?_ ?_)
  · intro L i o d a' w' ho hd hLi hdep hcl hF hW hp
    rcases i with _ | _ | _ | _ | _ | _ | _ | _ | _ | _ | _ | _ | _ | _ | _ | _ | _ | _ | i
    · obtain rfl : oPP310 p = o := Option.some.inj ho
      obtain rfl : 212 = d := Option.some.inj hd
      exact step_move rfl rfl rfl (hF.at 7 rfl h7) ⟨_, rfl, rfl, wsPP31_same _ _ _ _ _ _ _ _ _ _ _ _ _ _ _ _ _ _ _ _ _ _ _ _ _ _ _ _ _ _  _ _ _ _ (by decide) (by decide) hW, fun j u _ h => psiPP31_same _ _ _ _ _ _ _ _ _ _ _ _ _ _ _ _ _ _ _ _ _ _ _ _ _ _ _ _ _ _  _ _ _ _ _ h⟩
    · obtain rfl : oPP311 p = o := Option.some.inj ho
      obtain rfl : 213 = d := Option.some.inj hd
      exact step_load rfl rfl rfl (hF.at 16 rfl h16) (run_ldH _ _ _ _ ((wsPP31_kp hW).blk hb16 hXb)) ⟨_, rfl, rfl, wsPP31_same _ _ _ _ _ _ _ _ _ _ _ _ _ _ _ _ _ _ _ _ _ _ _ _ _ _ _ _ _ _  _ _ _ _ (by decide) (by decide) hW, fun j u _ h => psiPP31_same _ _ _ _ _ _ _ _ _ _ _ _ _ _ _ _ _ _ _ _ _ _ _ _ _ _ _ _ _ _  _ _ _ _ _ h⟩
    · obtain rfl : oPP312 p = o := Option.some.inj ho
      obtain rfl : 214 = d := Option.some.inj hd
      exact step_move rfl rfl rfl (hF.at 21 rfl h21) ⟨_, rfl, rfl, wsPP31_same _ _ _ _ _ _ _ _ _ _ _ _ _ _ _ _ _ _ _ _ _ _ _ _ _ _ _ _ _ _  _ _ _ _ (by decide) (by decide) hW, fun j u _ h => psiPP31_same _ _ _ _ _ _ _ _ _ _ _ _ _ _ _ _ _ _ _ _ _ _ _ _ _ _ _ _ _ _  _ _ _ _ _ h⟩
    · obtain rfl : oPP313 p = o := Option.some.inj ho
      obtain rfl : 215 = d := Option.some.inj hd
      have q0 : a'.tmps.getD 212 undef = .pointer (some ⟨R, 0, none⟩) := hp 0 (oPP310 p) 212 (hdep 0 rfl) rfl rfl
      have q1 : a'.tmps.getD 213 undef = hV ih gh := hp 1 (oPP311 p) 213 (hdep 1 rfl) rfl rfl
      have q2 : a'.tmps.getD 214 undef = .slice A21 L21 c21 := hp 2 (oPP312 p) 214 (hdep 2 rfl) rfl rfl
      obtain ⟨vN', hps, hkp, -⟩ := wsPP31_a hW hLi
      refine step_callP rfl rfl rfl (enters_of Try.func9 (by kernel_rfl) rfl) (show Array.map a'.eval #[.tmp 212, .tmp 213, .tmp 214] = _ from by simp only [List.map_toArray, List.map_cons, List.map_nil, Act.eval, q0, q1, q2]) ((Live.set ih gh A21 L21 c21 x hps.live hi hg hL21 hl21 hc21 (hasA_kp hA21 hkp hXA) (fun b o e => .inr (.inr (hXA b o e)))).mono ?_)
      rintro e w'' ⟨rfl, hl, hm⟩
      obtain ⟨h1, h2⟩ := hps.pool hl hm
      exact ⟨_, rfl, _, rfl, rfl, wsPP31_a' h1 (hkp.trans h2), fun j u _ h => psiPP31_any _ _ _ _ _ _ _ _ _ _ _ _ _ _ _ _ _ _ _ _ _ _ _ _ _ _ _ _ _ _  h⟩
    · obtain rfl : oPP314 p = o := Option.some.inj ho
      obtain rfl : 216 = d := Option.some.inj hd
      exact step_move rfl rfl rfl (hF.at 13 rfl h13) ⟨_, rfl, rfl, wsPP31_same _ _ _ _ _ _ _ _ _ _ _ _ _ _ _ _ _ _ _ _ _ _ _ _ _ _ _ _ _ _  _ _ _ _ (by decide) (by decide) hW, fun j u _ h => psiPP31_same _ _ _ _ _ _ _ _ _ _ _ _ _ _ _ _ _ _ _ _ _ _ _ _ _ _ _ _ _ _  _ _ _ _ _ h⟩
    · obtain rfl : oPP315 p = o := Option.some.inj ho
      obtain rfl : 217 = d := Option.some.inj hd
      exact step_field rfl rfl rfl (hF.at 16 rfl h16) (run_h0 _ _) ⟨_, rfl, rfl, wsPP31_same _ _ _ _ _ _ _ _ _ _ _ _ _ _ _ _ _ _ _ _ _ _ _ _ _ _ _ _ _ _  _ _ _ _ (by decide) (by decide) hW, fun j u _ h => psiPP31_same _ _ _ _ _ _ _ _ _ _ _ _ _ _ _ _ _ _ _ _ _ _ _ _ _ _ _ _ _ _  _ _ _ _ _ h⟩
    · obtain rfl : oPP316 p = o := Option.some.inj ho
      obtain rfl : 218 = d := Option.some.inj hd
      have q5 : a'.tmps.getD 217 undef = .pointer (some ⟨b, 0, none⟩) := hp 5 (oPP315 p) 217 (hdep 5 rfl) rfl rfl
      exact step_load rfl rfl rfl q5 (run_ldI2 _ _ _ _ ((wsPP31_kp hW).blk hb16 hXb)) ⟨_, rfl, rfl, wsPP31_same _ _ _ _ _ _ _ _ _ _ _ _ _ _ _ _ _ _ _ _ _ _ _ _ _ _ _ _ _ _  _ _ _ _ (by decide) (by decide) hW, fun j u _ h => psiPP31_same _ _ _ _ _ _ _ _ _ _ _ _ _ _ _ _ _ _ _ _ _ _ _ _ _ _ _ _ _ _  _ _ _ _ _ h⟩
    · obtain rfl : oPP317 p = o := Option.some.inj ho
      obtain rfl : 219 = d := Option.some.inj hd
      exact step_field rfl rfl rfl (hF.at 16 rfl h16) (run_h1 _ _) ⟨_, rfl, rfl, wsPP31_same _ _ _ _ _ _ _ _ _ _ _ _ _ _ _ _ _ _ _ _ _ _ _ _ _ _ _ _ _ _  _ _ _ _ (by decide) (by decide) hW, fun j u _ h => psiPP31_same _ _ _ _ _ _ _ _ _ _ _ _ _ _ _ _ _ _ _ _ _ _ _ _ _ _ _ _ _ _  _ _ _ _ _ h⟩
    · obtain rfl : oPP318 p = o := Option.some.inj ho
      obtain rfl : 220 = d := Option.some.inj hd
      have q7 : a'.tmps.getD 219 undef = .pointer (some ⟨b, 1, none⟩) := hp 7 (oPP317 p) 219 (hdep 7 rfl) rfl rfl
      exact step_load rfl rfl rfl q7 (run_ldU2 _ _ _ _ ((wsPP31_kp hW).blk hb16 hXb)) ⟨_, rfl, rfl, wsPP31_same _ _ _ _ _ _ _ _ _ _ _ _ _ _ _ _ _ _ _ _ _ _ _ _ _ _ _ _ _ _  _ _ _ _ (by decide) (by decide) hW, fun j u _ h => psiPP31_same _ _ _ _ _ _ _ _ _ _ _ _ _ _ _ _ _ _ _ _ _ _ _ _ _ _ _ _ _ _  _ _ _ _ _ h⟩
    · obtain rfl : oPP319 p = o := Option.some.inj ho
      obtain rfl : 221 = d := Option.some.inj hd
      exact step_move rfl rfl rfl (hF.at 2 rfl h2) ⟨_, rfl, rfl, wsPP31_same _ _ _ _ _ _ _ _ _ _ _ _ _ _ _ _ _ _ _ _ _ _ _ _ _ _ _ _ _ _  _ _ _ _ (by decide) (by decide) hW, fun j u _ h => psiPP31_same _ _ _ _ _ _ _ _ _ _ _ _ _ _ _ _ _ _ _ _ _ _ _ _ _ _ _ _ _ _  _ _ _ _ _ h⟩
    · obtain rfl : oPP3110 p = o := Option.some.inj ho
      obtain rfl : 222 = d := Option.some.inj hd
      exact step_move rfl rfl rfl (hF.at 15 rfl h15) ⟨_, rfl, rfl, wsPP31_same _ _ _ _ _ _ _ _ _ _ _ _ _ _ _ _ _ _ _ _ _ _ _ _ _ _ _ _ _ _  _ _ _ _ (by decide) (by decide) hW, fun j u _ h => psiPP31_same _ _ _ _ _ _ _ _ _ _ _ _ _ _ _ _ _ _ _ _ _ _ _ _ _ _ _ _ _ _  _ _ _ _ _ h⟩
    · obtain rfl : oPP3111 p = o := Option.some.inj ho
      obtain rfl : 223 = d := Option.some.inj hd
      have q9 : a'.tmps.getD 221 undef = .slice (some ⟨lb, lo, none⟩) Ln lc := hp 9 (oPP319 p) 221 (hdep 9 rfl) rfl rfl
      have q10 : a'.tmps.getD 222 undef = .int .i64 (k : Int) := hp 10 (oPP3110 p) 222 (hdep 10 rfl) rfl rfl
      exact step_index rfl rfl rfl q9 q10 (run_ixA _ _ _ _ _ _ hk) ⟨_, rfl, rfl, wsPP31_same _ _ _ _ _ _ _ _ _ _ _ _ _ _ _ _ _ _ _ _ _ _ _ _ _ _ _ _ _ _  _ _ _ _ (by decide) (by decide) hW, fun j u _ h => psiPP31_same _ _ _ _ _ _ _ _ _ _ _ _ _ _ _ _ _ _ _ _ _ _ _ _ _ _ _ _ _ _  _ _ _ _ _ h⟩
    · obtain rfl : oPP3112 p = o := Option.some.inj ho
      obtain rfl : 224 = d := Option.some.inj hd
      have q11 : a'.tmps.getD 223 undef = .pointer (some ⟨lb, lo + k * 5, none⟩) := hp 11 (oPP3111 p) 223 (hdep 11 rfl) rfl rfl
      exact step_field rfl rfl rfl q11 (run_actB _ _ _) ⟨_, rfl, rfl, wsPP31_same _ _ _ _ _ _ _ _ _ _ _ _ _ _ _ _ _ _ _ _ _ _ _ _ _ _ _ _ _ _  _ _ _ _ (by decide) (by decide) hW, fun j u _ h => psiPP31_same _ _ _ _ _ _ _ _ _ _ _ _ _ _ _ _ _ _ _ _ _ _ _ _ _ _ _ _ _ _  _ _ _ _ _ h⟩
    · obtain rfl : oPP3113 p = o := Option.some.inj ho
      obtain rfl : 225 = d := Option.some.inj hd
      have q12 : a'.tmps.getD 224 undef = .pointer (some ⟨lb, lo + k * 5 + 4, none⟩) := hp 12 (oPP3112 p) 224 (hdep 12 rfl) rfl rfl
      exact step_load rfl rfl rfl q12 (run_ldB4 _ _ _ _ _ ((Below.cell (wsPP31_low hW) (p := ⟨lb, lo + k * 5 + 4, none⟩) hlb).trans hBc)) ⟨_, rfl, rfl, wsPP31_same _ _ _ _ _ _ _ _ _ _ _ _ _ _ _ _ _ _ _ _ _ _ _ _ _ _ _ _ _ _  _ _ _ _ (by decide) (by decide) hW, fun j u _ h => psiPP31_same _ _ _ _ _ _ _ _ _ _ _ _ _ _ _ _ _ _ _ _ _ _ _ _ _ _ _ _ _ _  _ _ _ _ _ h⟩
    · obtain rfl : oPP3114 p = o := Option.some.inj ho
      obtain rfl : 226 = d := Option.some.inj hd
      have q13 : a'.tmps.getD 225 undef = .slice AB LB cB2 := hp 13 (oPP3113 p) 225 (hdep 13 rfl) rfl rfl
      exact step_cv rfl rfl rfl q13 (run_conv (HasA.below hAB (wsPP31_low hW)) _ Try.underlying32 Try.underlying5 Try.underlying9 hLB) ⟨_, rfl, rfl, wsPP31_same _ _ _ _ _ _ _ _ _ _ _ _ _ _ _ _ _ _ _ _ _ _ _ _ _ _ _ _ _ _  _ _ _ _ (by decide) (by decide) hW, fun j u _ h => psiPP31_same _ _ _ _ _ _ _ _ _ _ _ _ _ _ _ _ _ _ _ _ _ _ _ _ _ _ _ _ _ _  _ _ _ _ _ h⟩
    · obtain rfl : oPP3115 p = o := Option.some.inj ho
      obtain rfl : 227 = d := Option.some.inj hd
      have q4 : a'.tmps.getD 216 undef = .pointer (some ⟨Rq, 0, none⟩) := hp 4 (oPP314 p) 216 (hdep 4 rfl) rfl rfl
      have q6 : a'.tmps.getD 218 undef = .int .i64 ih := hp 6 (oPP316 p) 218 (hdep 6 rfl) rfl rfl
      have q8 : a'.tmps.getD 220 undef = .int .u32 (gh : Int) := hp 8 (oPP318 p) 220 (hdep 8 rfl) rfl rfl
      have q14 : a'.tmps.getD 226 undef = .string (str x) := hp 14 (oPP3114 p) 226 (hdep 14 rfl) rfl rfl
      obtain ⟨vN', hps, hkp, -⟩ := wsPP31_c hW hLi
      refine step_callP rfl rfl rfl (enters_of Try.func15 (by kernel_rfl) rfl) (show Array.map a'.eval #[.tmp 216, .tmp 218, .tmp 220, .tmp 226] = _ from by simp only [List.map_toArray, List.map_cons, List.map_nil, Act.eval, q4, q6, q8, q14]) ((q_Set w' w0.heap.size Rq gB cB gG cG gL cL vN' s hps.rq ih gh x hi.1 hi.2 hg (by omega)).mono ?_)
      rintro e w'' ⟨rfl, hq, ho⟩
      obtain ⟨h1, h2⟩ := hps.ref hq ho (fun k h => .inl h)
      exact ⟨_, rfl, _, rfl, rfl, wsPP31_c' h1 (hkp.trans h2), fun j u _ h => psiPP31_any _ _ _ _ _ _ _ _ _ _ _ _ _ _ _ _ _ _ _ _ _ _ _ _ _ _ _ _ _ _  h⟩
    · obtain rfl : oPP3116 p = o := Option.some.inj ho
      obtain rfl : 228 = d := Option.some.inj hd
      have q3 : a'.tmps.getD 215 undef = .int .i64 (s.setR ih gh x : Int) := hp 3 (oPP313 p) 215 (hdep 3 rfl) rfl rfl
      have q15 : a'.tmps.getD 227 undef = .int .i64 (s.setR ih gh x : Int) := hp 15 (oPP3115 p) 227 (hdep 15 rfl) rfl rfl
      exact step_bin rfl rfl rfl q3 q15 (guard_int _ _ _ _ _ _ _ _ _) (by rw [run_eqi]; simp) ⟨_, rfl, rfl, wsPP31_same _ _ _ _ _ _ _ _ _ _ _ _ _ _ _ _ _ _ _ _ _ _ _ _ _ _ _ _ _ _  _ _ _ _ (by decide) (by decide) hW, fun j u _ h => psiPP31_same _ _ _ _ _ _ _ _ _ _ _ _ _ _ _ _ _ _ _ _ _ _ _ _ _ _ _ _ _ _  _ _ _ _ _ h⟩
    · obtain rfl : oPP3117 p = o := Option.some.inj ho
      obtain rfl : 17 = d := Option.some.inj hd
      have q16 : a'.tmps.getD 228 undef = .bool true := hp 16 (oPP3116 p) 228 (hdep 16 rfl) rfl rfl
      exact step_assign rfl rfl rfl q16 ⟨_, rfl, rfl, wsPP31_same _ _ _ _ _ _ _ _ _ _ _ _ _ _ _ _ _ _ _ _ _ _ _ _ _ _ _ _ _ _  _ _ _ _ (by decide) (by decide) hW, fun j u _ h => psiPP31_same _ _ _ _ _ _ _ _ _ _ _ _ _ _ _ _ _ _ _ _ _ _ _ _ _ _ _ _ _ _  _ _ _ _ _ h⟩
    · exact absurd ((Array.getElem?_eq_some_iff.1 ho).1) (by simp [opsPP31])
  · intro L a' w' hLall hF hW hp
    have e0 : psiPP31 P w0 R Rq s v hs X gB cB gG cG gL cL vN b ih gh A21 L21 c21 x lb lo Ln lc k AB LB cB2 L 0 (a'.tmps.getD 212 undef) w' := hp 0 (oPP310 p) 212 rfl rfl
    have e1 : psiPP31 P w0 R Rq s v hs X gB cB gG cG gL cL vN b ih gh A21 L21 c21 x lb lo Ln lc k AB LB cB2 L 1 (a'.tmps.getD 213 undef) w' := hp 1 (oPP311 p) 213 rfl rfl
    have e2 : psiPP31 P w0 R Rq s v hs X gB cB gG cG gL cL vN b ih gh A21 L21 c21 x lb lo Ln lc k AB LB cB2 L 2 (a'.tmps.getD 214 undef) w' := hp 2 (oPP312 p) 214 rfl rfl
    have e3 : psiPP31 P w0 R Rq s v hs X gB cB gG cG gL cL vN b ih gh A21 L21 c21 x lb lo Ln lc k AB LB cB2 L 3 (a'.tmps.getD 215 undef) w' := hp 3 (oPP313 p) 215 rfl rfl
    have e4 : psiPP31 P w0 R Rq s v hs X gB cB gG cG gL cL vN b ih gh A21 L21 c21 x lb lo Ln lc k AB LB cB2 L 4 (a'.tmps.getD 216 undef) w' := hp 4 (oPP314 p) 216 rfl rfl
    have e5 : psiPP31 P w0 R Rq s v hs X gB cB gG cG gL cL vN b ih gh A21 L21 c21 x lb lo Ln lc k AB LB cB2 L 5 (a'.tmps.getD 217 undef) w' := hp 5 (oPP315 p) 217 rfl rfl
    have e6 : psiPP31 P w0 R Rq s v hs X gB cB gG cG gL cL vN b ih gh A21 L21 c21 x lb lo Ln lc k AB LB cB2 L 6 (a'.tmps.getD 218 undef) w' := hp 6 (oPP316 p) 218 rfl rfl
    have e7 : psiPP31 P w0 R Rq s v hs X gB cB gG cG gL cL vN b ih gh A21 L21 c21 x lb lo Ln lc k AB LB cB2 L 7 (a'.tmps.getD 219 undef) w' := hp 7 (oPP317 p) 219 rfl rfl
    have e8 : psiPP31 P w0 R Rq s v hs X gB cB gG cG gL cL vN b ih gh A21 L21 c21 x lb lo Ln lc k AB LB cB2 L 8 (a'.tmps.getD 220 undef) w' := hp 8 (oPP318 p) 220 rfl rfl
    have e9 : psiPP31 P w0 R Rq s v hs X gB cB gG cG gL cL vN b ih gh A21 L21 c21 x lb lo Ln lc k AB LB cB2 L 9 (a'.tmps.getD 221 undef) w' := hp 9 (oPP319 p) 221 rfl rfl
    have e10 : psiPP31 P w0 R Rq s v hs X gB cB gG cG gL cL vN b ih gh A21 L21 c21 x lb lo Ln lc k AB LB cB2 L 10 (a'.tmps.getD 222 undef) w' := hp 10 (oPP3110 p) 222 rfl rfl
    have e11 : psiPP31 P w0 R Rq s v hs X gB cB gG cG gL cL vN b ih gh A21 L21 c21 x lb lo Ln lc k AB LB cB2 L 11 (a'.tmps.getD 223 undef) w' := hp 11 (oPP3111 p) 223 rfl rfl
    have e12 : psiPP31 P w0 R Rq s v hs X gB cB gG cG gL cL vN b ih gh A21 L21 c21 x lb lo Ln lc k AB LB cB2 L 12 (a'.tmps.getD 224 undef) w' := hp 12 (oPP3112 p) 224 rfl rfl
    have e13 : psiPP31 P w0 R Rq s v hs X gB cB gG cG gL cL vN b ih gh A21 L21 c21 x lb lo Ln lc k AB LB cB2 L 13 (a'.tmps.getD 225 undef) w' := hp 13 (oPP3113 p) 225 rfl rfl
    have e14 : psiPP31 P w0 R Rq s v hs X gB cB gG cG gL cL vN b ih gh A21 L21 c21 x lb lo Ln lc k AB LB cB2 L 14 (a'.tmps.getD 226 undef) w' := hp 14 (oPP3114 p) 226 rfl rfl
    have e15 : psiPP31 P w0 R Rq s v hs X gB cB gG cG gL cL vN b ih gh A21 L21 c21 x lb lo Ln lc k AB LB cB2 L 15 (a'.tmps.getD 227 undef) w' := hp 15 (oPP3115 p) 227 rfl rfl
    have e16 : psiPP31 P w0 R Rq s v hs X gB cB gG cG gL cL vN b ih gh A21 L21 c21 x lb lo Ln lc k AB LB cB2 L 16 (a'.tmps.getD 228 undef) w' := hp 16 (oPP3116 p) 228 rfl rfl
    have e17 : psiPP31 P w0 R Rq s v hs X gB cB gG cG gL cL vN b ih gh A21 L21 c21 x lb lo Ln lc k AB LB cB2 L 17 (a'.tmps.getD 17 undef) w' := hp 17 (oPP3117 p) 17 rfl rfl
    rw [hF.puts [(212, .pointer (some ⟨R, 0, none⟩)), (213, hV ih gh), (214, .slice A21 L21 c21), (215, .int .i64 (s.setR ih gh x : Int)), (216, .pointer (some ⟨Rq, 0, none⟩)), (217, .pointer (some ⟨b, 0, none⟩)), (218, .int .i64 ih), (219, .pointer (some ⟨b, 1, none⟩)), (220, .int .u32 (gh : Int)), (221, .slice (some ⟨lb, lo, none⟩) Ln lc), (222, .int .i64 (k : Int)), (223, .pointer (some ⟨lb, lo + k * 5, none⟩)), (224, .pointer (some ⟨lb, lo + k * 5 + 4, none⟩)), (225, .slice AB LB cB2), (226, .string (str x)), (227, .int .i64 (s.setR ih gh x : Int)), (228, .bool true), (17, .bool true)] ?_ rfl (by rw [hN]; rfl)]
    · exact hQ  w'  (wsPP31_end hW (hLall 3 (by simp [opsPP31])) (hLall 15 (by simp [opsPP31])))
    · intro x hx
      simp only [List.mem_cons, List.not_mem_nil, or_false] at hx
      rcases hx with rfl | rfl | rfl | rfl | rfl | rfl | rfl | rfl | rfl | rfl | rfl | rfl | rfl | rfl | rfl | rfl | rfl | rfl
      · exact e0
      · exact e1
      · exact e2
      · exact e3
      · exact e4
      · exact e5
      · exact e6
      · exact e7
      · exact e8
      · exact e9
      · exact e10
      · exact e11
      · exact e12
      · exact e13
      · exact e14
      · exact e15
      · exact e16
      · exact e17
def oPP450 (p : String) : Oper := { dst := some 289, op := Op.move (Operand.tmp 17), type := 4, pos := p, after := #[], guard := none }
def oPP451 (p : String) : Oper := { dst := some 290, op := Op.unOp UnOp.not 4 (Operand.tmp 289), type := 4, pos := p, after := #[{ on := 0, ground := Ground.data }], guard := none }
def oPP452 (p : String) : Oper := { dst := some 291, op := Op.move (Operand.tmp 290), type := 4, pos := p, after := #[{ on := 1, ground := Ground.data }], guard := none }
def oPP453 (p : String) : Oper := { dst := some 292, op := Op.move (Operand.tmp 7), type := 23, pos := p, after := #[{ on := 2, ground := Ground.guard }], guard := some (2, false) }
def oPP454 (p : String) : Oper := { dst := some 293, op := Op.call { callee := Callee.value (Operand.func 10), args := #[Operand.tmp 292], argTypes := #[23] }, type := 3, pos := p, after := #[{ on := 3, ground := Ground.data }, { on := 2, ground := Ground.chain }, { on := 2, ground := Ground.guard }], guard := some (2, false) }
def oPP455 (p : String) : Oper := { dst := some 294, op := Op.move (Operand.tmp 13), type := 39, pos := p, after := #[{ on := 2, ground := Ground.guard }], guard := some (2, false) }
def oPP456 (p : String) : Oper := { dst := some 295, op := Op.nilCheck (Operand.tmp 294), type := 0, pos := p, after := #[{ on := 5, ground := Ground.data }, { on := 2, ground := Ground.guard }], guard := some (2, false) }
def oPP457 (p : String) : Oper := { dst := some 296, op := Op.fieldAddr 49 (Operand.tmp 295) 4, type := 0, pos := p, after := #[{ on := 6, ground := Ground.data }, { on := 2, ground := Ground.guard }], guard := some (2, false) }
def oPP458 (p : String) : Oper := { dst := some 297, op := Op.load 47 (Operand.tmp 296), type := 47, pos := p, after := #[{ on := 7, ground := Ground.data }, { on := 2, ground := Ground.guard }], guard := some (2, false) }
def oPP459 (p : String) : Oper := { dst := some 298, op := Op.call { callee := Callee.builtin Builtin.len, args := #[Operand.tmp 297], argTypes := #[47] }, type := 3, pos := p, after := #[{ on := 8, ground := Ground.data }, { on := 2, ground := Ground.guard }], guard := some (2, false) }
def oPP4510 (p : String) : Oper := { dst := some 299, op := Op.binOp BinOp.neq 3 (Operand.tmp 293) (Operand.tmp 298) 3, type := 4, pos := p, after := #[{ on := 4, ground := Ground.data }, { on := 9, ground := Ground.data }, { on := 2, ground := Ground.guard }], guard := some (2, false) }
def oPP4511 (p : String) : Oper := { dst := some 300, op := Op.pick (Operand.tmp 291) (Operand.const (Value.bool true)) (Operand.tmp 299), type := 4, pos := p, after := #[{ on := 2, ground := Ground.data }, { on := 10, ground := Ground.data }], guard := none }
def opsPP45 (p : String) : List Oper := [oPP450 p, oPP451 p, oPP452 p, oPP453 p, oPP454 p, oPP455 p, oPP456 p, oPP457 p, oPP458 p, oPP459 p, oPP4510 p, oPP4511 p]
theorem opsPP45_back (p : String) : backwards (opsPP45 p) = true := by kernel_rfl
theorem opsPP45_slots (p : String) : slotsOk 302 (opsPP45 p) = true := by kernel_rfl
/-- What each slot comes to. -/
def psiPP45 (P : PoolK) (w0 : World) (R Rq : Nat) (s : QS) (v : Value) (hs : List (Int × Nat)) (X : Nat → Prop) (gB cB gG cG gL cL : Nat) (AN : Option Addr) (cN : Nat) (L : Nat → Bool) : Nat → Value → World → Prop
  | 0, v, _ => v = .bool true
  | 1, v, _ => v = .bool false
  | 2, v, _ => v = .bool false
  | 3, v, _ => v = .pointer (some ⟨R, 0, none⟩)
  | 4, v, _ => v = .int .i64 (s.N.length : Int)
  | 5, v, _ => v = .pointer (some ⟨Rq, 0, none⟩)
  | 6, v, _ => v = .pointer (some ⟨Rq, 0, none⟩)
  | 7, v, _ => v = .pointer (some ⟨Rq, 4, none⟩)
  | 8, v, _ => v = .slice AN s.N.length cN
  | 9, v, _ => v = .int .i64 (s.N.length : Int)
  | 10, v, _ => v = .bool false
  | 11, v, _ => v = .bool false
  | _, _, _ => True
def wsPP45 (P : PoolK) (w0 : World) (R Rq : Nat) (s : QS) (v : Value) (hs : List (Int × Nat)) (X : Nat → Prop) (gB cB gG cG gL cL : Nat) (AN : Option Addr) (cN : Nat) (W0 : World) (L : Nat → Bool) (w : World) : Prop := PS P w0 R Rq s s v hs X gB cB gG cG gL cL (.slice AN s.N.length cN) w
theorem psiPP45_same (P : PoolK) (w0 : World) (R Rq : Nat) (s : QS) (v : Value) (hs : List (Int × Nat)) (X : Nat → Prop) (gB cB gG cG gL cL : Nat) (AN : Option Addr) (cN : Nat) : ∀ (L : Nat → Bool) (i j : Nat) (u : Value) (w : World), psiPP45 P w0 R Rq s v hs X gB cB gG cG gL cL AN cN L j u w → psiPP45 P w0 R Rq s v hs X gB cB gG cG gL cL AN cN (andI L i) j u w := by
  intro L i j u w h
  rcases j with _ | _ | _ | _ | _ | _ | _ | _ | _ | _ | _ | _ | j
  · exact h
  · exact h
  · exact h
  · exact h
  · exact h
  · exact h
  · exact h
  · exact h
  · exact h
  · exact h
  · exact h
  · exact h
  · trivial
theorem wsPP45_same (P : PoolK) (w0 : World) (R Rq : Nat) (s : QS) (v : Value) (hs : List (Int × Nat)) (X : Nat → Prop) (gB cB gG cG gL cL : Nat) (AN : Option Addr) (cN : Nat) : ∀ (W0 : World) (L : Nat → Bool) (i : Nat) (w : World), wsPP45 P w0 R Rq s v hs X gB cB gG cG gL cL AN cN W0 L w → wsPP45 P w0 R Rq s v hs X gB cB gG cG gL cL AN cN W0 (andI L i) w := by
  intro W0 L i w h
  have e : ∀ k, k ≠ i → andI L i k = L k := fun k hk => by simp [andI, hk]
  unfold wsPP45 at h ⊢
  exact h
theorem psiPP45_any (P : PoolK) (w0 : World) (R Rq : Nat) (s : QS) (v : Value) (hs : List (Int × Nat)) (X : Nat → Prop) (gB cB gG cG gL cL : Nat) (AN : Option Addr) (cN : Nat) {L L' : Nat → Bool} {j : Nat} {u : Value} {w w' : World} (h : psiPP45 P w0 R Rq s v hs X gB cB gG cG gL cL AN cN L j u w) : psiPP45 P w0 R Rq s v hs X gB cB gG cG gL cL AN cN L' j u w' := by
  rcases j with _ | _ | _ | _ | _ | _ | _ | _ | _ | _ | _ | _ | j
  all_goals first | exact h | trivial
set_option maxRecDepth 100000 in
set_option maxHeartbeats 4000000 in
theorem plays_free {p : String} (P : PoolK) (w0 : World) (R Rq : Nat) (s : QS) (v : Value) (hs : List (Int × Nat)) (X : Nat → Prop) (gB cB gG cG gL cL : Nat) (AN : Option Addr) (cN : Nat)  (a : Act) (w : World) (Q : Exit → Act → World → Prop) (hN : a.tmps.size = 302) (h7 : a.tmps.getD 7 undef = .pointer (some ⟨R, 0, none⟩)) (h13 : a.tmps.getD 13 undef = .pointer (some ⟨Rq, 0, none⟩)) (h17 : a.tmps.getD 17 undef = .bool true) (hps : PS P w0 R Rq s s v hs X gB cB gG cG gL cL (.slice AN s.N.length cN) w) (hQ : ∀ (w' : World), PS P w0 R Rq s s v hs X gB cB gG cG gL cL (.slice AN s.N.length cN) w' → Q .normal (puts [(289, .bool true), (290, .bool false), (291, .bool false), (292, .pointer (some ⟨R, 0, none⟩)), (293, .int .i64 (s.N.length : Int)), (294, .pointer (some ⟨Rq, 0, none⟩)), (295, .pointer (some ⟨Rq, 0, none⟩)), (296, .pointer (some ⟨Rq, 4, none⟩)), (297, .slice AN s.N.length cN), (298, .int .i64 (s.N.length : Int)), (299, .bool false), (300, .bool false)] a) w')
    : (Code.region 45 (opsPP45 p).toArray true).wp Try.prog Q a w := by
  refine (wpIn_wide (n := 1)).1 (wpIn_region_st 302 hN follows (opsPP45_back p) (opsPP45_slots p) (wsPP45 P w0 R Rq s v hs X gB cB gG cG gL cL AN cN w) (psiPP45 P w0 R Rq s v hs X gB cB gG cG gL cL AN cN) (hps.drew) ?_ ?_)
  · intro L i o d a' w' ho hd hLi hdep hcl hF hW hp
    rcases i with _ | _ | _ | _ | _ | _ | _ | _ | _ | _ | _ | _ | i
    · obtain rfl : oPP450 p = o := Option.some.inj ho
      obtain rfl : 289 = d := Option.some.inj hd
      exact step_move rfl rfl rfl (hF.at 17 rfl h17) ⟨_, rfl, rfl, wsPP45_same _ _ _ _ _ _ _ _ _ _ _ _ _ _ _ _  _ _ _ _ hW, fun j u _ h => psiPP45_same _ _ _ _ _ _ _ _ _ _ _ _ _ _ _ _  _ _ _ _ _ h⟩
    · obtain rfl : oPP451 p = o := Option.some.inj ho
      obtain rfl : 290 = d := Option.some.inj hd
      have q0 : a'.tmps.getD 289 undef = .bool true := hp 0 (oPP450 p) 289 (hdep 0 rfl) rfl rfl
      exact step_un rfl rfl rfl q0 (run_not _ _) ⟨_, rfl, rfl, wsPP45_same _ _ _ _ _ _ _ _ _ _ _ _ _ _ _ _  _ _ _ _ hW, fun j u _ h => psiPP45_same _ _ _ _ _ _ _ _ _ _ _ _ _ _ _ _  _ _ _ _ _ h⟩
    · obtain rfl : oPP452 p = o := Option.some.inj ho
      obtain rfl : 291 = d := Option.some.inj hd
      have q1 : a'.tmps.getD 290 undef = .bool false := hp 1 (oPP451 p) 290 (hdep 1 rfl) rfl rfl
      exact step_move rfl rfl rfl q1 ⟨_, rfl, rfl, wsPP45_same _ _ _ _ _ _ _ _ _ _ _ _ _ _ _ _  _ _ _ _ hW, fun j u _ h => psiPP45_same _ _ _ _ _ _ _ _ _ _ _ _ _ _ _ _  _ _ _ _ _ h⟩
    · obtain rfl : oPP453 p = o := Option.some.inj ho
      obtain rfl : 292 = d := Option.some.inj hd
      have q2 : a'.tmps.getD 291 undef = .bool false := hp 2 (oPP452 p) 291 (hdep 2 rfl) rfl rfl
      exact step_move rfl (wanted_on rfl (show (opsPP45 p).toArray[2]? = some (oPP452 p) from rfl) rfl q2) rfl (hF.at 7 rfl h7) ⟨_, rfl, rfl, wsPP45_same _ _ _ _ _ _ _ _ _ _ _ _ _ _ _ _  _ _ _ _ hW, fun j u _ h => psiPP45_same _ _ _ _ _ _ _ _ _ _ _ _ _ _ _ _  _ _ _ _ _ h⟩
    · obtain rfl : oPP454 p = o := Option.some.inj ho
      obtain rfl : 293 = d := Option.some.inj hd
      have q2 : a'.tmps.getD 291 undef = .bool false := hp 2 (oPP452 p) 291 (hdep 2 rfl) rfl rfl
      have q3 : a'.tmps.getD 292 undef = .pointer (some ⟨R, 0, none⟩) := hp 3 (oPP453 p) 292 (hdep 3 rfl) rfl rfl
      refine step_callP rfl (wanted_on rfl (show (opsPP45 p).toArray[2]? = some (oPP452 p) from rfl) rfl q2) rfl (enters_of Try.func10 (by kernel_rfl) rfl) (show Array.map a'.eval #[.tmp 292] = _ from by simp only [List.map_toArray, List.map_cons, List.map_nil, Act.eval, q3]) ((Live.free hW.live).mono ?_)
      rintro e w'' ⟨rfl, hl, hm⟩
      exact ⟨_, rfl, _, rfl, rfl, (PS.pool hW hl hm).1, fun j u _ h => psiPP45_any _ _ _ _ _ _ _ _ _ _ _ _ _ _ _ _  h⟩
    · obtain rfl : oPP455 p = o := Option.some.inj ho
      obtain rfl : 294 = d := Option.some.inj hd
      have q2 : a'.tmps.getD 291 undef = .bool false := hp 2 (oPP452 p) 291 (hdep 2 rfl) rfl rfl
      exact step_move rfl (wanted_on rfl (show (opsPP45 p).toArray[2]? = some (oPP452 p) from rfl) rfl q2) rfl (hF.at 13 rfl h13) ⟨_, rfl, rfl, wsPP45_same _ _ _ _ _ _ _ _ _ _ _ _ _ _ _ _  _ _ _ _ hW, fun j u _ h => psiPP45_same _ _ _ _ _ _ _ _ _ _ _ _ _ _ _ _  _ _ _ _ _ h⟩
    · obtain rfl : oPP456 p = o := Option.some.inj ho
      obtain rfl : 295 = d := Option.some.inj hd
      have q2 : a'.tmps.getD 291 undef = .bool false := hp 2 (oPP452 p) 291 (hdep 2 rfl) rfl rfl
      have q5 : a'.tmps.getD 294 undef = .pointer (some ⟨Rq, 0, none⟩) := hp 5 (oPP455 p) 294 (hdep 5 rfl) rfl rfl
      exact step_nilCheck rfl (wanted_on rfl (show (opsPP45 p).toArray[2]? = some (oPP452 p) from rfl) rfl q2) rfl q5 (trivial) ⟨_, rfl, rfl, wsPP45_same _ _ _ _ _ _ _ _ _ _ _ _ _ _ _ _  _ _ _ _ hW, fun j u _ h => psiPP45_same _ _ _ _ _ _ _ _ _ _ _ _ _ _ _ _  _ _ _ _ _ h⟩
    · obtain rfl : oPP457 p = o := Option.some.inj ho
      obtain rfl : 296 = d := Option.some.inj hd
      have q2 : a'.tmps.getD 291 undef = .bool false := hp 2 (oPP452 p) 291 (hdep 2 rfl) rfl rfl
      have q6 : a'.tmps.getD 295 undef = .pointer (some ⟨Rq, 0, none⟩) := hp 6 (oPP456 p) 295 (hdep 6 rfl) rfl rfl
      exact step_field rfl (wanted_on rfl (show (opsPP45 p).toArray[2]? = some (oPP452 p) from rfl) rfl q2) rfl q6 (run_q4 _ _) ⟨_, rfl, rfl, wsPP45_same _ _ _ _ _ _ _ _ _ _ _ _ _ _ _ _  _ _ _ _ hW, fun j u _ h => psiPP45_same _ _ _ _ _ _ _ _ _ _ _ _ _ _ _ _  _ _ _ _ _ h⟩
    · obtain rfl : oPP458 p = o := Option.some.inj ho
      obtain rfl : 297 = d := Option.some.inj hd
      have q2 : a'.tmps.getD 291 undef = .bool false := hp 2 (oPP452 p) 291 (hdep 2 rfl) rfl rfl
      have q7 : a'.tmps.getD 296 undef = .pointer (some ⟨Rq, 4, none⟩) := hp 7 (oPP457 p) 296 (hdep 7 rfl) rfl rfl
      exact step_load rfl (wanted_on rfl (show (opsPP45 p).toArray[2]? = some (oPP452 p) from rfl) rfl q2) rfl q7 (run_ldN _ _ _ _ _ (by have := blk_cell (PS.rq hW).blk 4; simpa using this)) ⟨_, rfl, rfl, wsPP45_same _ _ _ _ _ _ _ _ _ _ _ _ _ _ _ _  _ _ _ _ hW, fun j u _ h => psiPP45_same _ _ _ _ _ _ _ _ _ _ _ _ _ _ _ _  _ _ _ _ _ h⟩
    · obtain rfl : oPP459 p = o := Option.some.inj ho
      obtain rfl : 298 = d := Option.some.inj hd
      have q2 : a'.tmps.getD 291 undef = .bool false := hp 2 (oPP452 p) 291 (hdep 2 rfl) rfl rfl
      have q8 : a'.tmps.getD 297 undef = .slice AN s.N.length cN := hp 8 (oPP458 p) 297 (hdep 8 rfl) rfl rfl
      exact step_len Try.underlying47 rfl (wanted_on rfl (show (opsPP45 p).toArray[2]? = some (oPP452 p) from rfl) rfl q2) rfl q8 ⟨_, rfl, rfl, wsPP45_same _ _ _ _ _ _ _ _ _ _ _ _ _ _ _ _  _ _ _ _ hW, fun j u _ h => psiPP45_same _ _ _ _ _ _ _ _ _ _ _ _ _ _ _ _  _ _ _ _ _ h⟩
    · obtain rfl : oPP4510 p = o := Option.some.inj ho
      obtain rfl : 299 = d := Option.some.inj hd
      have q2 : a'.tmps.getD 291 undef = .bool false := hp 2 (oPP452 p) 291 (hdep 2 rfl) rfl rfl
      have q4 : a'.tmps.getD 293 undef = .int .i64 (s.N.length : Int) := hp 4 (oPP454 p) 293 (hdep 4 rfl) rfl rfl
      have q9 : a'.tmps.getD 298 undef = .int .i64 (s.N.length : Int) := hp 9 (oPP459 p) 298 (hdep 9 rfl) rfl rfl
      exact step_bin rfl (wanted_on rfl (show (opsPP45 p).toArray[2]? = some (oPP452 p) from rfl) rfl q2) rfl q4 q9 (guard_int _ _ _ _ _ _ _ _ _) (by rw [run_nei]; simp) ⟨_, rfl, rfl, wsPP45_same _ _ _ _ _ _ _ _ _ _ _ _ _ _ _ _  _ _ _ _ hW, fun j u _ h => psiPP45_same _ _ _ _ _ _ _ _ _ _ _ _ _ _ _ _  _ _ _ _ _ h⟩
    · obtain rfl : oPP4511 p = o := Option.some.inj ho
      obtain rfl : 300 = d := Option.some.inj hd
      have q2 : a'.tmps.getD 291 undef = .bool false := hp 2 (oPP452 p) 291 (hdep 2 rfl) rfl rfl
      have q10 : a'.tmps.getD 299 undef = .bool false := hp 10 (oPP4510 p) 299 (hdep 10 rfl) rfl rfl
      exact step_pick rfl rfl rfl q2 (show (if false = true then _ else a'.tmps.getD 299 undef) = _ from q10) ⟨_, rfl, rfl, wsPP45_same _ _ _ _ _ _ _ _ _ _ _ _ _ _ _ _  _ _ _ _ hW, fun j u _ h => psiPP45_same _ _ _ _ _ _ _ _ _ _ _ _ _ _ _ _  _ _ _ _ _ h⟩
    · exact absurd ((Array.getElem?_eq_some_iff.1 ho).1) (by simp [opsPP45])
  · intro L a' w' hLall hF hW hp
    have e0 : psiPP45 P w0 R Rq s v hs X gB cB gG cG gL cL AN cN L 0 (a'.tmps.getD 289 undef) w' := hp 0 (oPP450 p) 289 rfl rfl
    have e1 : psiPP45 P w0 R Rq s v hs X gB cB gG cG gL cL AN cN L 1 (a'.tmps.getD 290 undef) w' := hp 1 (oPP451 p) 290 rfl rfl
    have e2 : psiPP45 P w0 R Rq s v hs X gB cB gG cG gL cL AN cN L 2 (a'.tmps.getD 291 undef) w' := hp 2 (oPP452 p) 291 rfl rfl
    have e3 : psiPP45 P w0 R Rq s v hs X gB cB gG cG gL cL AN cN L 3 (a'.tmps.getD 292 undef) w' := hp 3 (oPP453 p) 292 rfl rfl
    have e4 : psiPP45 P w0 R Rq s v hs X gB cB gG cG gL cL AN cN L 4 (a'.tmps.getD 293 undef) w' := hp 4 (oPP454 p) 293 rfl rfl
    have e5 : psiPP45 P w0 R Rq s v hs X gB cB gG cG gL cL AN cN L 5 (a'.tmps.getD 294 undef) w' := hp 5 (oPP455 p) 294 rfl rfl
    have e6 : psiPP45 P w0 R Rq s v hs X gB cB gG cG gL cL AN cN L 6 (a'.tmps.getD 295 undef) w' := hp 6 (oPP456 p) 295 rfl rfl
    have e7 : psiPP45 P w0 R Rq s v hs X gB cB gG cG gL cL AN cN L 7 (a'.tmps.getD 296 undef) w' := hp 7 (oPP457 p) 296 rfl rfl
    have e8 : psiPP45 P w0 R Rq s v hs X gB cB gG cG gL cL AN cN L 8 (a'.tmps.getD 297 undef) w' := hp 8 (oPP458 p) 297 rfl rfl
    have e9 : psiPP45 P w0 R Rq s v hs X gB cB gG cG gL cL AN cN L 9 (a'.tmps.getD 298 undef) w' := hp 9 (oPP459 p) 298 rfl rfl
    have e10 : psiPP45 P w0 R Rq s v hs X gB cB gG cG gL cL AN cN L 10 (a'.tmps.getD 299 undef) w' := hp 10 (oPP4510 p) 299 rfl rfl
    have e11 : psiPP45 P w0 R Rq s v hs X gB cB gG cG gL cL AN cN L 11 (a'.tmps.getD 300 undef) w' := hp 11 (oPP4511 p) 300 rfl rfl
    rw [hF.puts [(289, .bool true), (290, .bool false), (291, .bool false), (292, .pointer (some ⟨R, 0, none⟩)), (293, .int .i64 (s.N.length : Int)), (294, .pointer (some ⟨Rq, 0, none⟩)), (295, .pointer (some ⟨Rq, 0, none⟩)), (296, .pointer (some ⟨Rq, 4, none⟩)), (297, .slice AN s.N.length cN), (298, .int .i64 (s.N.length : Int)), (299, .bool false), (300, .bool false)] ?_ rfl (by rw [hN]; rfl)]
    · exact hQ  w'  (hW)
    · intro x hx
      simp only [List.mem_cons, List.not_mem_nil, or_false] at hx
      rcases hx with rfl | rfl | rfl | rfl | rfl | rfl | rfl | rfl | rfl | rfl | rfl | rfl
      · exact e0
      · exact e1
      · exact e2
      · exact e3
      · exact e4
      · exact e5
      · exact e6
      · exact e7
      · exact e8
      · exact e9
      · exact e10
      · exact e11
end Go.Proofs.Ytmpaefndkobgnaa
