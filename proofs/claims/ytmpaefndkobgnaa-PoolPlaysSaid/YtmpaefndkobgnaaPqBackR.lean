/- The statement of pool.Back's closure that puts a buffer back, whatever its order of evaluation. -/
import Derived.Test.YtmpaefndkobgnaaPqSet
import Derived.Test.YtmpaefndkobgnaaRegion4
import Derived.Deep.AppendLies
namespace Go.Proofs.Ytmpaefndkobgnaa
open Go.RowKit

def oBk0 (p : String) : Oper := { dst := some 8, op := Op.load 23 (Operand.tmp 1), type := 23, pos := p, after := #[], guard := none }
def oBk1 (p : String) : Oper := { dst := some 9, op := Op.load 23 (Operand.tmp 1), type := 23, pos := p, after := #[], guard := none }
def oBk2 (p : String) : Oper := { dst := some 10, op := Op.nilCheck (Operand.tmp 9), type := 0, pos := p, after := #[{ on := 1, ground := Ground.data }], guard := none }
def oBk3 (p : String) : Oper := { dst := some 11, op := Op.fieldAddr 57 (Operand.tmp 10) 1, type := 0, pos := p, after := #[{ on := 2, ground := Ground.data }], guard := none }
def oBk4 (p : String) : Oper := { dst := some 12, op := Op.load 47 (Operand.tmp 11), type := 47, pos := p, after := #[{ on := 3, ground := Ground.data }], guard := none }
def oBk5 (p : String) : Oper := { dst := some 13, op := Op.fieldAddr 29 (Operand.tmp 2) 0, type := 0, pos := p, after := #[], guard := none }
def oBk6 (p : String) : Oper := { dst := some 14, op := Op.load 3 (Operand.tmp 13), type := 3, pos := p, after := #[{ on := 5, ground := Ground.data }], guard := none }
def oBk7 (p : String) : Oper := { dst := some 15, op := Op.buildSlice 47 1 #[(0, Operand.tmp 14)], type := 47, pos := p, after := #[{ on := 6, ground := Ground.data }], guard := none }
def oBk8 (p : String) : Oper := { dst := some 16, op := Op.call { callee := Callee.builtin Builtin.append, args := #[Operand.tmp 12, Operand.tmp 15], argTypes := #[47, 47] }, type := 47, pos := p, after := #[{ on := 4, ground := Ground.data }, { on := 7, ground := Ground.data }], guard := none }
def oBk9 (p : String) : Oper := { dst := some 17, op := Op.nilCheck (Operand.tmp 8), type := 0, pos := p, after := #[{ on := 0, ground := Ground.data }, { on := 0, ground := Ground.phase }, { on := 1, ground := Ground.phase }, { on := 2, ground := Ground.phase }, { on := 3, ground := Ground.phase }, { on := 4, ground := Ground.phase }, { on := 5, ground := Ground.phase }, { on := 6, ground := Ground.phase }, { on := 7, ground := Ground.phase }, { on := 8, ground := Ground.phase }], guard := none }
def oBk10 (p : String) : Oper := { dst := some 18, op := Op.fieldAddr 57 (Operand.tmp 17) 1, type := 0, pos := p, after := #[{ on := 9, ground := Ground.data }, { on := 0, ground := Ground.phase }, { on := 1, ground := Ground.phase }, { on := 2, ground := Ground.phase }, { on := 3, ground := Ground.phase }, { on := 4, ground := Ground.phase }, { on := 5, ground := Ground.phase }, { on := 6, ground := Ground.phase }, { on := 7, ground := Ground.phase }, { on := 8, ground := Ground.phase }], guard := none }
def oBk11 (p : String) : Oper := { dst := none, op := Op.store 47 (Operand.tmp 18) (Operand.tmp 16), type := 0, pos := p, after := #[{ on := 10, ground := Ground.data }, { on := 8, ground := Ground.data }, { on := 8, ground := Ground.chain }, { on := 0, ground := Ground.phase }, { on := 1, ground := Ground.phase }, { on := 2, ground := Ground.phase }, { on := 3, ground := Ground.phase }, { on := 4, ground := Ground.phase }, { on := 5, ground := Ground.phase }, { on := 6, ground := Ground.phase }, { on := 7, ground := Ground.phase }, { on := 8, ground := Ground.phase }], guard := none }

def opsBk (p : String) : List Oper := [oBk0 p, oBk1 p, oBk2 p, oBk3 p, oBk4 p, oBk5 p, oBk6 p, oBk7 p, oBk8 p, oBk9 p, oBk10 p]
theorem opsBk_back (p : String) : backwards (opsBk p ++ [oBk11 p]) = true := by kernel_rfl
theorem opsBk_slots (p : String) : slotsOk 19 (opsBk p) = true := by kernel_rfl
theorem opsBk_all (p : String) : behindAll (opsBk p) (oBk11 p) = true := by kernel_rfl
/-- What each slot comes to. -/
def psiBk (W1 : World) (R H k gF m cF : Nat) (xs : List Value) (L : Nat → Bool) : Nat → Value → World → Prop
  | 0, v, _ => v = .pointer (some ⟨R, 0, none⟩)
  | 1, v, _ => v = .pointer (some ⟨R, 0, none⟩)
  | 2, v, _ => v = .pointer (some ⟨R, 0, none⟩)
  | 3, v, _ => v = .pointer (some ⟨R, 1, none⟩)
  | 4, v, _ => v = .slice (some ⟨gF, 0, none⟩) m cF
  | 5, v, _ => v = .pointer (some ⟨H, 0, none⟩)
  | 6, v, _ => v = .int .i64 (k : Int)
  | 7, v, w => ∃ q, v = .slice (some ⟨q, 0, none⟩) 1 1 ∧ (L 8 = false → w.heap[q]? = some (.cells #[.int .i64 (k : Int)] 3 (0, 0)))
  | 8, v, w => ∃ g c, v = .slice (some ⟨g, 0, none⟩) (m + 1) c ∧ w.ownsRow 0 3 1 v (m + 1) (xs ++ [.int .i64 (k : Int)]) ∧ (g = gF ∨ W1.heap.size ≤ g)
  | 9, v, _ => v = .pointer (some ⟨R, 0, none⟩)
  | 10, v, _ => v = .pointer (some ⟨R, 1, none⟩)
  | _, _, _ => True
/-- The world: the row of the free ones alone has changed, and not before the append. -/
def wsBk (W1 : World) (R H k gF m cF : Nat) (xs : List Value) (L : Nat → Bool) (w : World) : Prop := Only (fun j => j = gF) W1 w ∧ (L 8 = false → w.ownsRow 0 3 1 (.slice (some ⟨gF, 0, none⟩) m cF) m xs)
theorem andI_ne {L : Nat → Bool} {i j : Nat} (h : j ≠ i) : andI L i j = L j := by simp [andI, h]
theorem psiBk_same {W1 : World} {R H k gF m cF : Nat} {xs : List Value} {L : Nat → Bool} {i j : Nat} {u : Value} {w : World} (hi : i ≠ 8) (h : psiBk W1 R H k gF m cF xs L j u w) : psiBk W1 R H k gF m cF xs (andI L i) j u w := by
  rcases j with _ | _ | _ | _ | _ | _ | _ | _ | _ | _ | _ | j
  all_goals first
    | exact h
    | (obtain ⟨q, h1, h2⟩ := h
       exact ⟨q, h1, fun h8 => h2 (by rwa [andI_ne (Ne.symm hi)] at h8)⟩)
theorem wsBk_same {W1 : World} {R H k gF m cF : Nat} {xs : List Value} {L : Nat → Bool} {i : Nat} {w : World} (hi : i ≠ 8) (h : wsBk W1 R H k gF m cF xs L w) : wsBk W1 R H k gF m cF xs (andI L i) w :=
  ⟨h.1, fun h8 => h.2 (by rwa [andI_ne (Ne.symm hi)] at h8)⟩
theorem run_bsI (w : World) (k : Int) : (Instr.buildSlice 47 1 #[(0, .int .i64 k)]).run Try.prog w = .ok (.slice (some ⟨w.heap.size, 0, none⟩) 1 1) (w.alloc (.cells #[.int .i64 k] 3)) := by
  simp [go_sem]
theorem run_ldP (w : World) (p : Addr) (v : Value) (h : w.cell? p = some v) : (Instr.loadAt 23 (.pointer (some p))).run Try.prog w = .ok v w := by
  simp [go_sem, h]
theorem run_ldSI (w : World) (p : Addr) (v : Value) (h : w.cell? p = some v) : (Instr.loadAt 47 (.pointer (some p))).run Try.prog w = .ok v w := by
  simp [go_sem, h]
theorem run_ldI (w : World) (p : Addr) (v : Value) (h : w.cell? p = some v) : (Instr.loadAt 3 (.pointer (some p))).run Try.prog w = .ok v w := by
  simp [go_sem, h]
theorem run_p1 (w : World) (b : Nat) : (Instr.fieldAt 57 (.pointer (some ⟨b, 0, none⟩)) 1).run Try.prog w = .ok (.pointer (some ⟨b, 1, none⟩)) w := by
  simp [go_sem]
theorem run_hd0 (w : World) (b : Nat) : (Instr.fieldAt 29 (.pointer (some ⟨b, 0, none⟩)) 0).run Try.prog w = .ok (.pointer (some ⟨b, 0, none⟩)) w := by
  simp [go_sem]
theorem run_stSI (w : World) (b : Nat) (A' : Option Addr) (n c : Nat) (u : Value) (h : w.cell? ⟨b, 1, none⟩ = some u) (hf : w.frozen? ⟨b, 1, none⟩ = false) : (Instr.storeAt 47 (.pointer (some ⟨b, 1, none⟩)) (.slice A' n c)).run Try.prog w = .ok () (w.setCell ⟨b, 1, none⟩ (.slice A' n c)) := by
  simp [go_sem, h, hf]

set_option maxRecDepth 100000 in
set_option maxHeartbeats 4000000 in
theorem back_region {p : String} (W1 : World) (R H k gF m cF : Nat) (xs : List Value) (P : Nat) (hm : m ≤ 5000) (a : Act) (Q : Exit → Act → World → Prop) (hN : a.tmps.size = 19)
    (h1 : a.tmps.getD 1 undef = .pointer (some ⟨P, 0, none⟩)) (h2 : a.tmps.getD 2 undef = .pointer (some ⟨H, 0, none⟩))
    (cP : W1.cell? ⟨P, 0, none⟩ = some (.pointer (some ⟨R, 0, none⟩))) (cH : W1.cell? ⟨H, 0, none⟩ = some (.int .i64 (k : Int))) (cR : W1.cell? ⟨R, 1, none⟩ = some (.slice (some ⟨gF, 0, none⟩) m cF)) (zR : W1.frozen? ⟨R, 1, none⟩ = false)
    (nP : P ≠ gF) (nH : H ≠ gF) (nR : R ≠ gF) (hown : W1.ownsRow 0 3 1 (.slice (some ⟨gF, 0, none⟩) m cF) m xs)
    (hQ : ∀ (q g c : Nat) (W2 : World), Only (fun j => j = gF) W1 W2 → W2.ownsRow 0 3 1 (.slice (some ⟨g, 0, none⟩) (m + 1) c) (m + 1) (xs ++ [.int .i64 (k : Int)]) → (g = gF ∨ W1.heap.size ≤ g) → Q .normal (puts [(8, .pointer (some ⟨R, 0, none⟩)), (9, .pointer (some ⟨R, 0, none⟩)), (10, .pointer (some ⟨R, 0, none⟩)), (11, .pointer (some ⟨R, 1, none⟩)), (12, .slice (some ⟨gF, 0, none⟩) m cF), (13, .pointer (some ⟨H, 0, none⟩)), (14, .int .i64 (k : Int)), (15, .slice (some ⟨q, 0, none⟩) 1 1), (16, .slice (some ⟨g, 0, none⟩) (m + 1) c), (17, .pointer (some ⟨R, 0, none⟩)), (18, .pointer (some ⟨R, 1, none⟩))] a) (W2.setCell ⟨R, 1, none⟩ (.slice (some ⟨g, 0, none⟩) (m + 1) c))) :
    (Code.region 2 (opsBk p ++ [oBk11 p]).toArray true).wp Try.prog Q a W1 := by
  obtain ⟨iI, hiI, hz0, hz1, hz2⟩ := infoInt_parts
  have lP := World.block_lt_of_cell? W1 _ cP
  have lH := World.block_lt_of_cell? W1 _ cH
  have lR := World.block_lt_of_cell? W1 _ cR
  have cell : ∀ {w : World} {b j : Nat} {v : Value}, Only (fun j => j = gF) W1 w → W1.cell? ⟨b, j, none⟩ = some v → b ≠ gF → w.cell? ⟨b, j, none⟩ = some v := fun ho hc hn => (World.cell?_of_block (ho.block _ (World.block_lt_of_cell? W1 _ hc) hn)).trans hc
  refine (wpIn_wide (n := 1)).1 (wpIn_region_ste 19 hN follows (opsBk_back p) (opsBk_slots p) (opsBk_all p) (wsBk W1 R H k gF m cF xs) (psiBk W1 R H k gF m cF xs) (⟨(Only.refl _ W1).drew, fun _ => hown⟩) ?_ ?_)
  · intro L i o d a' w' ho hd hLi hdep hcl hF hW hp
    rcases i with _ | _ | _ | _ | _ | _ | _ | _ | _ | _ | _ | i
    · obtain rfl : oBk0 p = o := Option.some.inj ho
      obtain rfl : 8 = d := Option.some.inj hd
      have hx : a'.eval (.tmp 1) = .pointer (some ⟨P, 0, none⟩) := hF.at 1 rfl h1
      exact step_run (o := oBk0 p) (v := .pointer (some ⟨R, 0, none⟩)) (w' := w') rfl rfl (by intro c h; cases h) (by simp [Oper.about, oBk0]) (by simp [execOp, oBk0, hx, run_ldP w' _ _ (cell hW.1 cP nP)]) ⟨_, rfl, rfl, wsBk_same (by decide) hW, fun j u _ h => psiBk_same (by decide) h⟩
    · obtain rfl : oBk1 p = o := Option.some.inj ho
      obtain rfl : 9 = d := Option.some.inj hd
      have hx : a'.eval (.tmp 1) = .pointer (some ⟨P, 0, none⟩) := hF.at 1 rfl h1
      exact step_run (o := oBk1 p) (v := .pointer (some ⟨R, 0, none⟩)) (w' := w') rfl rfl (by intro c h; cases h) (by simp [Oper.about, oBk1]) (by simp [execOp, oBk1, hx, run_ldP w' _ _ (cell hW.1 cP nP)]) ⟨_, rfl, rfl, wsBk_same (by decide) hW, fun j u _ h => psiBk_same (by decide) h⟩
    · obtain rfl : oBk2 p = o := Option.some.inj ho
      obtain rfl : 10 = d := Option.some.inj hd
      have q1 : a'.tmps.getD 9 undef = .pointer (some ⟨R, 0, none⟩) := hp 1 (oBk1 p) 9 (hdep 1 rfl) rfl rfl
      have hx : a'.eval (.tmp 9) = .pointer (some ⟨R, 0, none⟩) := q1
      exact step_run (o := oBk2 p) (v := .pointer (some ⟨R, 0, none⟩)) (w' := w') rfl rfl (by intro c h; cases h) (by simp [Oper.about, oBk2]) (by simp [execOp, oBk2, hx]) ⟨_, rfl, rfl, wsBk_same (by decide) hW, fun j u _ h => psiBk_same (by decide) h⟩
    · obtain rfl : oBk3 p = o := Option.some.inj ho
      obtain rfl : 11 = d := Option.some.inj hd
      have q2 : a'.tmps.getD 10 undef = .pointer (some ⟨R, 0, none⟩) := hp 2 (oBk2 p) 10 (hdep 2 rfl) rfl rfl
      have hx : a'.eval (.tmp 10) = .pointer (some ⟨R, 0, none⟩) := q2
      exact step_run (o := oBk3 p) (v := .pointer (some ⟨R, 1, none⟩)) (w' := w') rfl rfl (by intro c h; cases h) (by simp [Oper.about, oBk3]) (by simp [execOp, oBk3, hx, run_p1 w' R]) ⟨_, rfl, rfl, wsBk_same (by decide) hW, fun j u _ h => psiBk_same (by decide) h⟩
    · obtain rfl : oBk4 p = o := Option.some.inj ho
      obtain rfl : 12 = d := Option.some.inj hd
      have q3 : a'.tmps.getD 11 undef = .pointer (some ⟨R, 1, none⟩) := hp 3 (oBk3 p) 11 (hdep 3 rfl) rfl rfl
      have hx : a'.eval (.tmp 11) = .pointer (some ⟨R, 1, none⟩) := q3
      exact step_run (o := oBk4 p) (v := .slice (some ⟨gF, 0, none⟩) m cF) (w' := w') rfl rfl (by intro c h; cases h) (by simp [Oper.about, oBk4]) (by simp [execOp, oBk4, hx, run_ldSI w' _ _ (cell hW.1 cR nR)]) ⟨_, rfl, rfl, wsBk_same (by decide) hW, fun j u _ h => psiBk_same (by decide) h⟩
    · obtain rfl : oBk5 p = o := Option.some.inj ho
      obtain rfl : 13 = d := Option.some.inj hd
      have hx : a'.eval (.tmp 2) = .pointer (some ⟨H, 0, none⟩) := hF.at 2 rfl h2
      exact step_run (o := oBk5 p) (v := .pointer (some ⟨H, 0, none⟩)) (w' := w') rfl rfl (by intro c h; cases h) (by simp [Oper.about, oBk5]) (by simp [execOp, oBk5, hx, run_hd0 w' H]) ⟨_, rfl, rfl, wsBk_same (by decide) hW, fun j u _ h => psiBk_same (by decide) h⟩
    · obtain rfl : oBk6 p = o := Option.some.inj ho
      obtain rfl : 14 = d := Option.some.inj hd
      have q5 : a'.tmps.getD 13 undef = .pointer (some ⟨H, 0, none⟩) := hp 5 (oBk5 p) 13 (hdep 5 rfl) rfl rfl
      have hx : a'.eval (.tmp 13) = .pointer (some ⟨H, 0, none⟩) := q5
      exact step_run (o := oBk6 p) (v := .int .i64 (k : Int)) (w' := w') rfl rfl (by intro c h; cases h) (by simp [Oper.about, oBk6]) (by simp [execOp, oBk6, hx, run_ldI w' _ _ (cell hW.1 cH nH)]) ⟨_, rfl, rfl, wsBk_same (by decide) hW, fun j u _ h => psiBk_same (by decide) h⟩
    · obtain rfl : oBk7 p = o := Option.some.inj ho
      obtain rfl : 15 = d := Option.some.inj hd
      have q6 : a'.tmps.getD 14 undef = .int .i64 (k : Int) := hp 6 (oBk6 p) 14 (hdep 6 rfl) rfl rfl
      have hx : a'.eval (.tmp 14) = .int .i64 (k : Int) := q6
      have h8 : L 8 = false := by
        cases h : L 8 with
        | false => rfl
        | true => rw [hcl 8 (oBk8 p) rfl h 7 rfl] at hLi; cases hLi
      exact step_run (o := oBk7 p) (v := .slice (some ⟨w'.heap.size, 0, none⟩) 1 1) (w' := w'.alloc (.cells #[.int .i64 (k : Int)] 3)) rfl rfl (by intro c h; cases h) (by simp [Oper.about, oBk7]) (by simp [execOp, oBk7, hx, run_bsI]) ⟨_, rfl, ⟨_, rfl, fun _ => World.alloc_heap_new w' _⟩, ⟨hW.1.alloc _, fun _ => (hW.2 h8).alloc _⟩, fun j u hj h => by
        rcases j with _ | _ | _ | _ | _ | _ | _ | _ | _ | _ | _ | j
        all_goals first
          | exact h
          | (rw [hLi] at hj; cases hj)
          | (rw [h8] at hj; cases hj)⟩
    · obtain rfl : oBk8 p = o := Option.some.inj ho
      obtain rfl : 16 = d := Option.some.inj hd
      have q4 : a'.tmps.getD 12 undef = .slice (some ⟨gF, 0, none⟩) m cF := hp 4 (oBk4 p) 12 (hdep 4 rfl) rfl rfl
      obtain ⟨q, q7, hq7⟩ : psiBk W1 R H k gF m cF xs L 7 (a'.tmps.getD 15 undef) w' := hp 7 (oBk7 p) 15 (hdep 7 rfl) rfl rfl
      have hx12 : a'.eval (.tmp 12) = .slice (some ⟨gF, 0, none⟩) m cF := q4
      have hx15 : a'.eval (.tmp 15) = .slice (some ⟨q, 0, none⟩) 1 1 := q7
      have hs0 : ∀ j u, ([.int .i64 (k : Int)] : List Value)[j]? = some u → w'.cell? ((⟨q, 0, none⟩ : Addr).add j) = some u := by
        intro j u hj
        rcases j with _ | j
        · rw [addr_add, blk_cell (hq7 hLi)]; simpa using hj
        · simp at hj
      obtain ⟨g, c, W2, hrun, hown2, hg2, hat, -⟩ := run_append_lies (P := Try.prog) (w := w') 47 47 0 3 iI (.int .i64 0) 1 8 Try.underlying47 hiI hz0 hz1 hz2 rfl (by decide) (.slice (some ⟨gF, 0, none⟩) m cF) m xs (hW.2 hLi) ⟨q, 0, none⟩ 1 1 [.int .i64 (k : Int)] rfl hs0 (fun u hu => by rw [List.mem_singleton.1 hu]; rfl) (by decide) (by simp only [maxLen]; omega) (by omega) (Nat.zero_le _) w'.heap.size rfl
      refine step_run (o := oBk8 p) (v := .slice (some ⟨g, 0, none⟩) (m + 1) c) (w' := W2) rfl rfl (by intro c h; cases h) (by simp [Oper.about, oBk8, resolve, Target.leads, Sem.run_pure]) (by
        unfold execOp
        simp only [oBk8, resolve, invoke, builtin, Sem.run_bind, Sem.run_pure, Result.andThen_ok, List.map_toArray, List.map_cons, List.map_nil, hx12, hx15, hrun]) ?_
      refine ⟨_, rfl, ⟨g, c, rfl, hown2, ?_⟩, ⟨hW.1.grown hg2 (fun x e => .inl (by simpa [Value.ownBlock] using e.symm)), fun h => by simp [andI] at h⟩, fun j u hj h => ?_⟩
      · rcases hat with e | e
        · exact .inl (by simpa [Value.ownBlock] using e.symm)
        · exact .inr (by rw [e]; exact hW.1.size)
      · rcases j with _ | _ | _ | _ | _ | _ | _ | _ | _ | _ | _ | j
        all_goals first
          | exact h
          | (rw [hLi] at hj; cases hj)
          | (obtain ⟨q', h1, _⟩ := h
             exact ⟨q', h1, fun h => by simp [andI] at h⟩)
    · obtain rfl : oBk9 p = o := Option.some.inj ho
      obtain rfl : 17 = d := Option.some.inj hd
      have q0 : a'.tmps.getD 8 undef = .pointer (some ⟨R, 0, none⟩) := hp 0 (oBk0 p) 8 (hdep 0 rfl) rfl rfl
      have hx : a'.eval (.tmp 8) = .pointer (some ⟨R, 0, none⟩) := q0
      exact step_run (o := oBk9 p) (v := .pointer (some ⟨R, 0, none⟩)) (w' := w') rfl rfl (by intro c h; cases h) (by simp [Oper.about, oBk9]) (by simp [execOp, oBk9, hx]) ⟨_, rfl, rfl, wsBk_same (by decide) hW, fun j u _ h => psiBk_same (by decide) h⟩
    · obtain rfl : oBk10 p = o := Option.some.inj ho
      obtain rfl : 18 = d := Option.some.inj hd
      have q9 : a'.tmps.getD 17 undef = .pointer (some ⟨R, 0, none⟩) := hp 9 (oBk9 p) 17 (hdep 9 rfl) rfl rfl
      have hx : a'.eval (.tmp 17) = .pointer (some ⟨R, 0, none⟩) := q9
      exact step_run (o := oBk10 p) (v := .pointer (some ⟨R, 1, none⟩)) (w' := w') rfl rfl (by intro c h; cases h) (by simp [Oper.about, oBk10]) (by simp [execOp, oBk10, hx, run_p1 w' R]) ⟨_, rfl, rfl, wsBk_same (by decide) hW, fun j u _ h => psiBk_same (by decide) h⟩
    · exact absurd ((Array.getElem?_eq_some_iff.1 ho).1) (by simp [opsBk])
  · intro L a' w' hLall hF hW hp
    have e0 : a'.tmps.getD 8 undef = .pointer (some ⟨R, 0, none⟩) := hp 0 (oBk0 p) 8 rfl rfl
    have e1 : a'.tmps.getD 9 undef = .pointer (some ⟨R, 0, none⟩) := hp 1 (oBk1 p) 9 rfl rfl
    have e2 : a'.tmps.getD 10 undef = .pointer (some ⟨R, 0, none⟩) := hp 2 (oBk2 p) 10 rfl rfl
    have e3 : a'.tmps.getD 11 undef = .pointer (some ⟨R, 1, none⟩) := hp 3 (oBk3 p) 11 rfl rfl
    have e4 : a'.tmps.getD 12 undef = .slice (some ⟨gF, 0, none⟩) m cF := hp 4 (oBk4 p) 12 rfl rfl
    have e5 : a'.tmps.getD 13 undef = .pointer (some ⟨H, 0, none⟩) := hp 5 (oBk5 p) 13 rfl rfl
    have e6 : a'.tmps.getD 14 undef = .int .i64 (k : Int) := hp 6 (oBk6 p) 14 rfl rfl
    have e9 : a'.tmps.getD 17 undef = .pointer (some ⟨R, 0, none⟩) := hp 9 (oBk9 p) 17 rfl rfl
    have e10 : a'.tmps.getD 18 undef = .pointer (some ⟨R, 1, none⟩) := hp 10 (oBk10 p) 18 rfl rfl
    obtain ⟨q, e7, -⟩ : psiBk W1 R H k gF m cF xs L 7 (a'.tmps.getD 15 undef) w' := hp 7 (oBk7 p) 15 rfl rfl
    obtain ⟨g, c, e8, hown2, hat⟩ : psiBk W1 R H k gF m cF xs L 8 (a'.tmps.getD 16 undef) w' := hp 8 (oBk8 p) 16 rfl rfl
    rw [e8] at hown2
    have hput : a' = puts [(8, .pointer (some ⟨R, 0, none⟩)), (9, .pointer (some ⟨R, 0, none⟩)), (10, .pointer (some ⟨R, 0, none⟩)), (11, .pointer (some ⟨R, 1, none⟩)), (12, .slice (some ⟨gF, 0, none⟩) m cF), (13, .pointer (some ⟨H, 0, none⟩)), (14, .int .i64 (k : Int)), (15, .slice (some ⟨q, 0, none⟩) 1 1), (16, .slice (some ⟨g, 0, none⟩) (m + 1) c), (17, .pointer (some ⟨R, 0, none⟩)), (18, .pointer (some ⟨R, 1, none⟩))] a := hF.puts _ (by
      intro x hx
      simp only [List.mem_cons, List.not_mem_nil, or_false] at hx
      rcases hx with rfl | rfl | rfl | rfl | rfl | rfl | rfl | rfl | rfl | rfl | rfl
      · exact e0
      · exact e1
      · exact e2
      · exact e3
      · exact e4
      · exact e5
      · exact e6
      · exact e7
      · exact e8
      · exact e9
      · exact e10) rfl (by rw [hN]; rfl)
    have hx18 : a'.eval (.tmp 18) = .pointer (some ⟨R, 1, none⟩) := e10
    have hx16 : a'.eval (.tmp 16) = .slice (some ⟨g, 0, none⟩) (m + 1) c := e8
    have hfz : w'.frozen? ⟨R, 1, none⟩ = false := by
      have hb := hW.1.block R lR nR
      unfold World.frozen? at zR ⊢
      rw [hb]; exact zR
    have hst := run_stSI w' R (some ⟨g, 0, none⟩) (m + 1) c _ (cell hW.1 cR nR) hfz
    refine step_skip (o := oBk11 p) (w' := w'.setCell ⟨R, 1, none⟩ (.slice (some ⟨g, 0, none⟩) (m + 1) c)) rfl rfl (by intro c h; cases h) (by simp [Oper.about, oBk11]) (by
      unfold execOp
      simp only [oBk11, hx18, hx16, Sem.run_bind, hst, Result.andThen_ok]
      rfl) ?_
    show Q .normal a' _
    rw [hput]
    exact hQ q g c w' hW.1 hown2 hat
end Go.Proofs.Ytmpaefndkobgnaa
