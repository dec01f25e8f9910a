/- Parts of the proof: WxBegR, WxBeg. -/
import Derived.Test.YtfjmdkhemnmkpaaGreatDoorA18
import Derived.Test.YtfjmdkhemnmkpaaGreatDoorA22
import Derived.Test.YtfjmdkhemnmkpaaGreatDoorA17
namespace Go.Proofs.YtfjmdkhemnmkpaaGreatDoor
open Go.RowKit
theorem run_bdEx (w : World) (p : Addr) (A A2 : Option Addr) (m c m2 c2 : Nat) (fn : Fn) (fi ca : Array Value) : (Instr.build 73 #[(0, .pointer (some p)), (1, .slice A m c), (2, .func fn fi ca), (3, .slice A2 m2 c2)]).run Tryz.prog w = .ok (.agg #[.pointer (some p), .slice A m c, .func fn fi ca, .slice A2 m2 c2, .int .i64 0]) w := by
  simp [go_sem, Instr.build]
theorem run_bxEx (w : World) (p : Addr) (A A2 : Option Addr) (m c m2 c2 : Nat) (fn : Fn) (fi ca : Array Value) : (Instr.box 73 (.agg #[.pointer (some p), .slice A m c, .func fn fi ca, .slice A2 m2 c2, .int .i64 0])).run Tryz.prog w = .ok (.pointer (some ⟨w.heap.size, 0, none⟩)) (w.alloc (.cells #[.pointer (some p), .slice A m c, .func fn fi ca, .slice A2 m2 c2, .int .i64 0] 73)) := by
  simp [go_sem]
section
variable {n : Nat} {Q : Exit → Act → World → Prop} {ops : Array Oper} {i : Nat} {o : Oper} {a : Act} {w : World} {K : Act → World → Prop}
theorem step_bdEx {x0 x1 x2 x3 : Operand} {p : Addr} {A A2 : Option Addr} {m c m2 c2 : Nat} {fn : Fn} {fi ca : Array Value} (hi : ops[i]? = some o) (hw : Region.wanted o (yielded ops a.tmps) = true) (ho : o.op = .build 73 #[(0, x0), (1, x1), (2, x2), (3, x3)]) (h0 : a.eval x0 = .pointer (some p)) (h1 : a.eval x1 = .slice A m c) (h2 : a.eval x2 = .func fn fi ca) (h3 : a.eval x3 = .slice A2 m2 c2) (h : K (a.put o.dst (.agg #[.pointer (some p), .slice A m c, .func fn fi ca, .slice A2 m2 c2, .int .i64 0])) w) : wpOpIn Fence.wide n Tryz.prog ops Q i K a w :=
  step_run hi hw (by rw [ho]; intro c h; cases h) (by simp [Oper.about, ho]) (by simp [execOp, ho, h0, h1, h2, h3, run_bdEx]) h
theorem step_bxEx {x0 : Operand} {p : Addr} {A A2 : Option Addr} {m c m2 c2 : Nat} {fn : Fn} {fi ca : Array Value} (hi : ops[i]? = some o) (hw : Region.wanted o (yielded ops a.tmps) = true) (ho : o.op = .box 73 x0) (h0 : a.eval x0 = .agg #[.pointer (some p), .slice A m c, .func fn fi ca, .slice A2 m2 c2, .int .i64 0]) (h : K (a.put o.dst (.pointer (some ⟨w.heap.size, 0, none⟩))) (w.alloc (.cells #[.pointer (some p), .slice A m c, .func fn fi ca, .slice A2 m2 c2, .int .i64 0] 73))) : wpOpIn Fence.wide n Tryz.prog ops Q i K a w :=
  step_run hi hw (by rw [ho]; intro c h; cases h) (by simp [Oper.about, ho]) (by simp [execOp, ho, h0, run_bxEx]) h
theorem step_mkDn {x y : Operand} {M : Nat} (hM : M ≤ 100000) (hi : ops[i]? = some o) (hw : Region.wanted o (yielded ops a.tmps) = true) (ho : o.op = .makeSlice 40 x y) (h0 : a.eval x = .int .i64 (M : Int)) (h1 : a.eval y = .int .i64 (M : Int)) (h : K (a.put o.dst (.slice (some ⟨w.heap.size, 0, none⟩) M M)) (w.alloc (.cells (rowDn (fun _ => D0) M) 47))) : wpOpIn Fence.wide n Tryz.prog ops Q i K a w :=
  step_run hi hw (by rw [ho]; intro c h; cases h) (by simp [Oper.about, ho]) (by simp [execOp, ho, h0, h1, mk_D _ M hM]) h
end
theorem InC.mono {B B' C C' : Nat} {A : Option Addr} {l : List CmdV} (h : InC B C A l) (hB : B' ≤ B) (hC : C ≤ C') : InC B' C' A l :=
  ⟨fun x o m e => by have := h.1 x o m e; omega, fun v hv x o m e => by have := h.2 v hv x o m e; omega⟩
def OffX (b : Nat) (A : Option Addr) (l : List CmdV) : Prop := (∀ x o m, A = some ⟨x, o, m⟩ → x ≠ b) ∧ ∀ v ∈ l, ∀ x o m, v.A = some ⟨x, o, m⟩ → x ≠ b
theorem InC.above {B C b : Nat} {A : Option Addr} {l : List CmdV} (h : InC B C A l) (hb : b < B ∨ C ≤ b) : OffX b A l :=
  ⟨fun x o m e => by have := h.1 x o m e; omega, fun v hv x o m e => by have := h.2 v hv x o m e; omega⟩
def BegQ (R : Nat) (M : Nat) (f : Value) (G : List CmdV → Prop) (W0 w : World) (x : Nat) : Prop := ∃ b A' c' l', G l' ∧ CmdQ x b w A' l' ∧ w.heap[b]? = some (.cells (rowDn (fun _ => D0) M) 47 (0, 0)) ∧ w.heap[x]? = some (.cells (runnerC R A' M c' f b 0) 73 (0, 0)) ∧ W0.heap.size ≤ x ∧ W0.heap.size ≤ b ∧ x ≠ b
def oBg0 (pp : String) : Oper := { dst := some 7, op := Op.move (Operand.tmp 0), type := 26, pos := pp, after := #[], guard := none }
def oBg1 (pp : String) : Oper := { dst := some 8, op := Op.move (Operand.tmp 1), type := 22, pos := pp, after := #[], guard := none }
def oBg2 (pp : String) : Oper := { dst := some 9, op := Op.call { callee := Callee.value (Operand.func 47), args := #[Operand.tmp 8], argTypes := #[22] }, type := 22, pos := pp, after := #[{ on := 1, ground := Ground.data }], guard := none }
def oBg3 (pp : String) : Oper := { dst := some 10, op := Op.move (Operand.tmp 2), type := 42, pos := pp, after := #[], guard := none }
def oBg4 (pp : String) : Oper := { dst := some 11, op := Op.move (Operand.tmp 1), type := 22, pos := pp, after := #[], guard := none }
def oBg5 (pp : String) : Oper := { dst := some 12, op := Op.call { callee := Callee.builtin Builtin.len, args := #[Operand.tmp 11], argTypes := #[22] }, type := 3, pos := pp, after := #[{ on := 4, ground := Ground.data }], guard := none }
def oBg6 (pp : String) : Oper := { dst := some 13, op := Op.makeSlice 40 (Operand.tmp 12) (Operand.tmp 12), type := 40, pos := pp, after := #[{ on := 5, ground := Ground.data }, { on := 5, ground := Ground.data }], guard := none }
def oBg7 (pp : String) : Oper := { dst := some 14, op := Op.build 73 #[(0, Operand.tmp 7), (1, Operand.tmp 9), (2, Operand.tmp 10), (3, Operand.tmp 13)], type := 73, pos := pp, after := #[{ on := 0, ground := Ground.data }, { on := 2, ground := Ground.data }, { on := 3, ground := Ground.data }, { on := 6, ground := Ground.data }], guard := none }
def oBg8 (pp : String) : Oper := { dst := some 15, op := Op.box 73 (Operand.tmp 14), type := 68, pos := pp, after := #[{ on := 7, ground := Ground.data }], guard := none }
def oBg9 (pp : String) : Oper := { dst := some 6, op := Op.assign (Operand.tmp 15), type := 68, pos := pp, after := #[{ on := 8, ground := Ground.data }, { on := 2, ground := Ground.chain }, { on := 0, ground := Ground.phase }, { on := 1, ground := Ground.phase }, { on := 2, ground := Ground.phase }, { on := 3, ground := Ground.phase }, { on := 4, ground := Ground.phase }, { on := 5, ground := Ground.phase }, { on := 6, ground := Ground.phase }, { on := 7, ground := Ground.phase }, { on := 8, ground := Ground.phase }], guard := none }
def opsBg (pp : String) : List Oper := [oBg0 pp, oBg1 pp, oBg2 pp, oBg3 pp, oBg4 pp, oBg5 pp, oBg6 pp, oBg7 pp, oBg8 pp, oBg9 pp]
theorem opsBg_back (pp : String) : backwards (opsBg pp) = true := by kernel_rfl
def wsBg (R : Nat) (_A : Option Addr) (M _c : Nat) (fid : Nat) (fi ca : Array Value) (G : List CmdV → Prop) (W0 : World) (L : Nat → Bool) (u : Value) (w : World) : Prop := Below W0.heap.size W0 w ∧ (L 2 = true → L 8 = false → ∃ E0 d0, tupAt u 0 = .slice E0 M d0 ∧ ∃ l', G l' ∧ HasC w E0 l' ∧ InC W0.heap.size w.heap.size E0 l' ∧ (L 6 = true → ∀ b n m, tupAt u 1 = .slice (some ⟨b, 0, none⟩) n m → OffX b E0 l')) ∧ (L 6 = true → L 8 = false → ∃ b, tupAt u 1 = .slice (some ⟨b, 0, none⟩) M M ∧ W0.heap.size ≤ b ∧ w.heap[b]? = some (.cells (rowDn (fun _ => D0) M) 47 (0, 0))) ∧ (L 7 = true → L 8 = false → tupAt u 2 = .agg #[.pointer (some ⟨R, 0, none⟩), tupAt u 0, .func (.func fid) fi ca, tupAt u 1, .int .i64 0]) ∧ (L 8 = true → ∃ x, tupAt u 3 = .pointer (some ⟨x, 0, none⟩) ∧ (L 9 = true → tupAt u 4 = .pointer (some ⟨x, 0, none⟩)) ∧ BegQ R M (.func (.func fid) fi ca) G W0 w x)
theorem wsBg_same (R : Nat) (A : Option Addr) (M c : Nat) (fid : Nat) (fi ca : Array Value) (G : List CmdV → Prop) {W0 : World} {L : Nat → Bool} {i : Nat} {u : Value} {w : World} (k2 : ((2 : Nat) == i) = false) (k6 : ((6 : Nat) == i) = false) (k7 : ((7 : Nat) == i) = false) (k8 : ((8 : Nat) == i) = false) (k9 : ((9 : Nat) == i) = false) (h : wsBg R A M c fid fi ca G W0 L u w) : wsBg R A M c fid fi ca G W0 (fun j => L j || j == i) u w := by
  unfold wsBg at h ⊢
  simp only [beq_noF k2, beq_noF k6, beq_noF k7, beq_noF k8, beq_noF k9]
  exact h
structure InvBg (R : Nat) (A : Option Addr) (M c : Nat) (fid : Nat) (fi ca : Array Value) (G : List CmdV → Prop) (W0 : World) (a : Act) (pp : String) (L : Nat → Bool) (a' : Act) (w' : World) : Prop where
  frm : Frm (opsBg pp) a a'
  f0 : L 0 = true → a'.tmps.getD 7 undef = .pointer (some ⟨R, 0, none⟩)
  f1 : L 1 = true → a'.tmps.getD 8 undef = .slice A M c
  f3 : L 3 = true → a'.tmps.getD 10 undef = .func (.func fid) fi ca
  f4 : L 4 = true → a'.tmps.getD 11 undef = .slice A M c
  f5 : L 5 = true → a'.tmps.getD 12 undef = .int .i64 (M : Int)
  ex : ∃ u : Value, (L 2 = true → a'.tmps.getD 9 undef = tupAt u 0) ∧ (L 6 = true → a'.tmps.getD 13 undef = tupAt u 1) ∧ (L 7 = true → a'.tmps.getD 14 undef = tupAt u 2) ∧ (L 8 = true → a'.tmps.getD 15 undef = tupAt u 3) ∧ (L 9 = true → a'.tmps.getD 6 undef = tupAt u 4) ∧ wsBg R A M c fid fi ca G W0 L u w'
set_option maxRecDepth 100000 in
set_option maxHeartbeats 4000000 in
theorem wxbeg {pp : String} (R : Nat) (A : Option Addr) (M c : Nat) (fid : Nat) (fi ca : Array Value) (G : List CmdV → Prop) (a : Act) (w : World) (Q : Exit → Act → World → Prop) (hN : a.tmps.size = 16) (h0 : a.tmps.getD 0 undef = .pointer (some ⟨R, 0, none⟩)) (h1 : a.tmps.getD 1 undef = .slice A M c) (h2 : a.tmps.getD 2 undef = .func (.func fid) fi ca) (hM : M ≤ 100000) (hC : ∀ w', Below w.drew.heap.size w.drew w' → Calls Tryz.prog 47 #[.slice A M c] w' fun e W' => ∃ A' c', e = .returned (.slice A' M c') ∧ M ≤ c' ∧ ∃ l' : List CmdV, G l' ∧ HasC W' A' l' ∧ Below w'.heap.size w' W' ∧ InC w'.heap.size W'.heap.size A' l') (hW0 : wsBg R A M c fid fi ca G w.drew (fun _ => false) undef w.drew) (hQ : ∀ (u : Value) w', wsBg R A M c fid fi ca G w.drew (fun _ => true) u w' → Q .normal (puts [(7, .pointer (some ⟨R, 0, none⟩)), (8, .slice A M c), (9, tupAt u 0), (10, .func (.func fid) fi ca), (11, .slice A M c), (12, .int .i64 (M : Int)), (13, tupAt u 1), (14, tupAt u 2), (15, tupAt u 3), (6, tupAt u 4)] a) w')
    : (Code.region 1 (opsBg pp).toArray true).wp Tryz.prog Q a w := by
  refine (wpIn_wide (n := 1)).1 (wpIn_region_by follows (opsBg_back pp) (InvBg R A M c fid fi ca G w.drew a pp) ?_ ?_ ?_)
  · exact ⟨⟨rfl, rfl, fun _ _ => rfl⟩, fun h => (by cases h), fun h => (by cases h), fun h => (by cases h), fun h => (by cases h), fun h => (by cases h), undef, fun h => (by cases h), fun h => (by cases h), fun h => (by cases h), fun h => (by cases h), fun h => (by cases h), hW0⟩
  · intro L a' w' i o hv ho hLi hpre hcl
    obtain ⟨hF, f0, f1, f3, f4, f5, u, f2, f6, f7, f8, f9, hW⟩ := hv
    have hsz : a'.tmps.size = 16 := hF.size.trans hN
    have frm' : ∀ (d : Nat) (v : Value), o.dst = some d → Frm (opsBg pp) a (a'.put (some d) v) := fun d v hd => ⟨size_put.trans hF.size, defers_put.trans hF.defers, fun s hs => by
      have hm : o ∈ opsBg pp := by simpa using List.mem_of_getElem? (by simpa using ho)
      rw [getD_put_ne (fun e => hs o hm (by rw [hd, e]))]
      exact hF.old s hs⟩
    rcases i with _ | _ | _ | _ | _ | _ | _ | _ | _ | _ | i
    · obtain rfl : oBg0 pp = o := Option.some.inj ho
      exact step_move rfl rfl rfl (hF.at 0 rfl h0) ⟨frm' 7 _ rfl, fun _ => getD_put_same (by rw [hsz]; omega), fun h => (getD_put_ne (by decide)).trans (f1 (by simpa using h)), fun h => (getD_put_ne (by decide)).trans (f3 (by simpa using h)), fun h => (getD_put_ne (by decide)).trans (f4 (by simpa using h)), fun h => (getD_put_ne (by decide)).trans (f5 (by simpa using h)), u, fun h => (getD_put_ne (by decide)).trans (f2 (by simpa using h)), fun h => (getD_put_ne (by decide)).trans (f6 (by simpa using h)), fun h => (getD_put_ne (by decide)).trans (f7 (by simpa using h)), fun h => (getD_put_ne (by decide)).trans (f8 (by simpa using h)), fun h => (getD_put_ne (by decide)).trans (f9 (by simpa using h)), (wsBg_same _ _ _ _ _ _ _ _  rfl rfl rfl rfl rfl hW)⟩
    · obtain rfl : oBg1 pp = o := Option.some.inj ho
      exact step_move rfl rfl rfl (hF.at 1 rfl h1) ⟨frm' 8 _ rfl, fun h => (getD_put_ne (by decide)).trans (f0 (by simpa using h)), fun _ => getD_put_same (by rw [hsz]; omega), fun h => (getD_put_ne (by decide)).trans (f3 (by simpa using h)), fun h => (getD_put_ne (by decide)).trans (f4 (by simpa using h)), fun h => (getD_put_ne (by decide)).trans (f5 (by simpa using h)), u, fun h => (getD_put_ne (by decide)).trans (f2 (by simpa using h)), fun h => (getD_put_ne (by decide)).trans (f6 (by simpa using h)), fun h => (getD_put_ne (by decide)).trans (f7 (by simpa using h)), fun h => (getD_put_ne (by decide)).trans (f8 (by simpa using h)), fun h => (getD_put_ne (by decide)).trans (f9 (by simpa using h)), (wsBg_same _ _ _ _ _ _ _ _  rfl rfl rfl rfl rfl hW)⟩
    · obtain rfl : oBg2 pp = o := Option.some.inj ho
      have q1 : a'.tmps.getD 8 undef = .slice A M c := f1 (edge_ofF (o := oBg2 pp) hpre 1 rfl)
      obtain ⟨w1, w2, w3, w7, w4⟩ := hW
      have n7 : L 7 = false := not_yetF hcl 30 (show reachB (opsBg pp) 30 7 2 = true by kernel_rfl) hLi
      have n8 : L 8 = false := not_yetF hcl 30 (show reachB (opsBg pp) 30 8 2 = true by kernel_rfl) hLi
      refine step_callD rfl rfl rfl (enters_of Tryz.func47 (by kernel_rfl) rfl) (show Array.map a'.eval #[.tmp 8] = _ from by simp only [List.map_toArray, List.map_cons, List.map_nil, Act.eval, q1]) ((hC w' w1).mono ?_)
      rintro e w'' ⟨A', c', rfl, _, l', hG, hHas, hb, hIn⟩
      have hW2 : wsBg R A M c fid fi ca G w.drew (fun j => L j || j == 2) (.tuple #[.slice A' M c', tupAt u 1, tupAt u 2, tupAt u 3, tupAt u 4]) w'' := by
        refine ⟨w1.trans (Below.mono hb w1.size), fun _ _ => ⟨A', c', rfl, l', hG, hHas, hIn.mono w1.size (Nat.le_refl _), fun h6 b n m eb => ?_⟩, fun h6 _ => ?_, fun h _ => ?_, fun h => ?_⟩
        · obtain ⟨b', e', _, hbk⟩ := w3 (by simpa using h6) n8
          have e2 : Value.slice (some ⟨b', 0, none⟩) M M = .slice (some ⟨b, 0, none⟩) n m := e'.symm.trans eb
          cases e2
          exact hIn.above (.inl (Array.getElem?_eq_some_iff.1 hbk).1)
        · obtain ⟨b', e', h1, hbk⟩ := w3 (by simpa using h6) n8
          exact ⟨b', e', h1, (hb.block b' (Array.getElem?_eq_some_iff.1 hbk).1).trans hbk⟩
        · have h' : L 7 = true := by simpa using h
          rw [n7] at h'
          cases h'
        · have h' : L 8 = true := by simpa using h
          rw [n8] at h'
          cases h'
      exact ⟨_, rfl, ⟨frm' 9 _ rfl, fun h => (getD_put_ne (by decide)).trans (f0 (by simpa using h)), fun h => (getD_put_ne (by decide)).trans (f1 (by simpa using h)), fun h => (getD_put_ne (by decide)).trans (f3 (by simpa using h)), fun h => (getD_put_ne (by decide)).trans (f4 (by simpa using h)), fun h => (getD_put_ne (by decide)).trans (f5 (by simpa using h)), (.tuple #[.slice A' M c', tupAt u 1, tupAt u 2, tupAt u 3, tupAt u 4]), fun _ => getD_put_same (by rw [hsz]; omega), fun h => (getD_put_ne (by decide)).trans (f6 (by simpa using h)), fun h => (getD_put_ne (by decide)).trans (f7 (by simpa using h)), fun h => (getD_put_ne (by decide)).trans (f8 (by simpa using h)), fun h => (getD_put_ne (by decide)).trans (f9 (by simpa using h)), hW2⟩⟩
    · obtain rfl : oBg3 pp = o := Option.some.inj ho
      exact step_move rfl rfl rfl (hF.at 2 rfl h2) ⟨frm' 10 _ rfl, fun h => (getD_put_ne (by decide)).trans (f0 (by simpa using h)), fun h => (getD_put_ne (by decide)).trans (f1 (by simpa using h)), fun _ => getD_put_same (by rw [hsz]; omega), fun h => (getD_put_ne (by decide)).trans (f4 (by simpa using h)), fun h => (getD_put_ne (by decide)).trans (f5 (by simpa using h)), u, fun h => (getD_put_ne (by decide)).trans (f2 (by simpa using h)), fun h => (getD_put_ne (by decide)).trans (f6 (by simpa using h)), fun h => (getD_put_ne (by decide)).trans (f7 (by simpa using h)), fun h => (getD_put_ne (by decide)).trans (f8 (by simpa using h)), fun h => (getD_put_ne (by decide)).trans (f9 (by simpa using h)), (wsBg_same _ _ _ _ _ _ _ _  rfl rfl rfl rfl rfl hW)⟩
    · obtain rfl : oBg4 pp = o := Option.some.inj ho
      exact step_move rfl rfl rfl (hF.at 1 rfl h1) ⟨frm' 11 _ rfl, fun h => (getD_put_ne (by decide)).trans (f0 (by simpa using h)), fun h => (getD_put_ne (by decide)).trans (f1 (by simpa using h)), fun h => (getD_put_ne (by decide)).trans (f3 (by simpa using h)), fun _ => getD_put_same (by rw [hsz]; omega), fun h => (getD_put_ne (by decide)).trans (f5 (by simpa using h)), u, fun h => (getD_put_ne (by decide)).trans (f2 (by simpa using h)), fun h => (getD_put_ne (by decide)).trans (f6 (by simpa using h)), fun h => (getD_put_ne (by decide)).trans (f7 (by simpa using h)), fun h => (getD_put_ne (by decide)).trans (f8 (by simpa using h)), fun h => (getD_put_ne (by decide)).trans (f9 (by simpa using h)), (wsBg_same _ _ _ _ _ _ _ _  rfl rfl rfl rfl rfl hW)⟩
    · obtain rfl : oBg5 pp = o := Option.some.inj ho
      have q4 : a'.tmps.getD 11 undef = .slice A M c := f4 (edge_ofF (o := oBg5 pp) hpre 4 rfl)
      exact step_len Tryz.underlying22 rfl rfl rfl q4 ⟨frm' 12 _ rfl, fun h => (getD_put_ne (by decide)).trans (f0 (by simpa using h)), fun h => (getD_put_ne (by decide)).trans (f1 (by simpa using h)), fun h => (getD_put_ne (by decide)).trans (f3 (by simpa using h)), fun h => (getD_put_ne (by decide)).trans (f4 (by simpa using h)), fun _ => getD_put_same (by rw [hsz]; omega), u, fun h => (getD_put_ne (by decide)).trans (f2 (by simpa using h)), fun h => (getD_put_ne (by decide)).trans (f6 (by simpa using h)), fun h => (getD_put_ne (by decide)).trans (f7 (by simpa using h)), fun h => (getD_put_ne (by decide)).trans (f8 (by simpa using h)), fun h => (getD_put_ne (by decide)).trans (f9 (by simpa using h)), (wsBg_same _ _ _ _ _ _ _ _  rfl rfl rfl rfl rfl hW)⟩
    · obtain rfl : oBg6 pp = o := Option.some.inj ho
      have q5 : a'.tmps.getD 12 undef = .int .i64 (M : Int) := f5 (edge_ofF (o := oBg6 pp) hpre 5 rfl)
      obtain ⟨w1, w2, w3, w7, w4⟩ := hW
      have n7 : L 7 = false := not_yetF hcl 30 (show reachB (opsBg pp) 30 7 6 = true by kernel_rfl) hLi
      have n8 : L 8 = false := not_yetF hcl 30 (show reachB (opsBg pp) 30 8 6 = true by kernel_rfl) hLi
      have hal : Below w'.heap.size w' (w'.alloc (.cells (rowDn (fun _ => D0) M) 47)) := (Below.refl _ _).alloc (Nat.le_refl _) _
      refine step_mkDn hM rfl rfl rfl q5 q5 ?_
      have hW2 : wsBg R A M c fid fi ca G w.drew (fun j => L j || j == 6) (.tuple #[tupAt u 0, .slice (some ⟨w'.heap.size, 0, none⟩) M M, tupAt u 2, tupAt u 3, tupAt u 4]) (w'.alloc (.cells (rowDn (fun _ => D0) M) 47)) := by
        refine ⟨w1.trans (Below.mono hal w1.size), fun h2 _ => ?_, fun _ _ => ⟨_, rfl, w1.size, World.alloc_heap_new w' _⟩, fun h _ => ?_, fun h => ?_⟩
        · obtain ⟨A', c', e', l', hG, hHas, hIn, _⟩ := w2 (by simpa using h2) n8
          refine ⟨A', c', e', l', hG, hHas.below hal, hIn.mono (Nat.le_refl _) hal.size, fun _ b n m eb => ?_⟩
          cases eb
          exact hIn.above (.inr (Nat.le_refl _))
        · have h' : L 7 = true := by simpa using h
          rw [n7] at h'
          cases h'
        · have h' : L 8 = true := by simpa using h
          rw [n8] at h'
          cases h'
      exact ⟨frm' 13 _ rfl, fun h => (getD_put_ne (by decide)).trans (f0 (by simpa using h)), fun h => (getD_put_ne (by decide)).trans (f1 (by simpa using h)), fun h => (getD_put_ne (by decide)).trans (f3 (by simpa using h)), fun h => (getD_put_ne (by decide)).trans (f4 (by simpa using h)), fun h => (getD_put_ne (by decide)).trans (f5 (by simpa using h)), (.tuple #[tupAt u 0, .slice (some ⟨w'.heap.size, 0, none⟩) M M, tupAt u 2, tupAt u 3, tupAt u 4]), fun h => (getD_put_ne (by decide)).trans (f2 (by simpa using h)), fun _ => getD_put_same (by rw [hsz]; omega), fun h => (getD_put_ne (by decide)).trans (f7 (by simpa using h)), fun h => (getD_put_ne (by decide)).trans (f8 (by simpa using h)), fun h => (getD_put_ne (by decide)).trans (f9 (by simpa using h)), hW2⟩
    · obtain rfl : oBg7 pp = o := Option.some.inj ho
      have q0 : a'.tmps.getD 7 undef = .pointer (some ⟨R, 0, none⟩) := f0 (edge_ofF (o := oBg7 pp) hpre 0 rfl)
      have q2 : a'.tmps.getD 9 undef = tupAt u 0 := f2 (edge_ofF (o := oBg7 pp) hpre 2 rfl)
      have q3 : a'.tmps.getD 10 undef = .func (.func fid) fi ca := f3 (edge_ofF (o := oBg7 pp) hpre 3 rfl)
      have q6 : a'.tmps.getD 13 undef = tupAt u 1 := f6 (edge_ofF (o := oBg7 pp) hpre 6 rfl)
      have n8 : L 8 = false := not_yetF hcl 30 (show reachB (opsBg pp) 30 8 7 = true by kernel_rfl) hLi
      obtain ⟨w1, w2, w3, w7, w4⟩ := hW
      obtain ⟨A', c', e0, l', r1, r2, r3, r4⟩ := w2 (edge_ofF (o := oBg7 pp) hpre 2 rfl) n8
      obtain ⟨b, e1, rest1⟩ := w3 (edge_ofF (o := oBg7 pp) hpre 6 rfl) n8
      have hW2 : wsBg R A M c fid fi ca G w.drew (fun j => L j || j == 7) (.tuple #[tupAt u 0, tupAt u 1, .agg #[.pointer (some ⟨R, 0, none⟩), tupAt u 0, .func (.func fid) fi ca, tupAt u 1, .int .i64 0], tupAt u 3, tupAt u 4]) w' := by
        refine ⟨w1, fun h2 h8 => ⟨A', c', e0, l', r1, r2, r3, fun h6 => r4 (by simpa using h6)⟩, fun h6 h8 => ⟨b, e1, rest1⟩, fun _ _ => rfl, fun h => ?_⟩
        · have h' : L 8 = true := by simpa using h
          rw [n8] at h'
          cases h'
      exact step_bdEx rfl rfl rfl q0 (q2.trans e0) q3 (q6.trans e1) (by
        have hk := show Value.agg #[.pointer (some ⟨R, 0, none⟩), tupAt u 0, .func (.func fid) fi ca, tupAt u 1, .int .i64 0] = .agg #[.pointer (some ⟨R, 0, none⟩), .slice A' M c', .func (.func fid) fi ca, .slice (some ⟨b, 0, none⟩) M M, .int .i64 0] from by rw [e0, e1]
        rw [← hk]
        exact ⟨frm' 14 _ rfl, fun h => (getD_put_ne (by decide)).trans (f0 (by simpa using h)), fun h => (getD_put_ne (by decide)).trans (f1 (by simpa using h)), fun h => (getD_put_ne (by decide)).trans (f3 (by simpa using h)), fun h => (getD_put_ne (by decide)).trans (f4 (by simpa using h)), fun h => (getD_put_ne (by decide)).trans (f5 (by simpa using h)), (.tuple #[tupAt u 0, tupAt u 1, .agg #[.pointer (some ⟨R, 0, none⟩), tupAt u 0, .func (.func fid) fi ca, tupAt u 1, .int .i64 0], tupAt u 3, tupAt u 4]), fun h => (getD_put_ne (by decide)).trans (f2 (by simpa using h)), fun h => (getD_put_ne (by decide)).trans (f6 (by simpa using h)), fun _ => getD_put_same (by rw [hsz]; omega), fun h => (getD_put_ne (by decide)).trans (f8 (by simpa using h)), fun h => (getD_put_ne (by decide)).trans (f9 (by simpa using h)), hW2⟩)
    · obtain rfl : oBg8 pp = o := Option.some.inj ho
      have q7 : a'.tmps.getD 14 undef = tupAt u 2 := f7 (edge_ofF (o := oBg8 pp) hpre 7 rfl)
      have h7 := edge_ofF (o := oBg8 pp) hpre 7 rfl
      have h2 : L 2 = true := reach_ofF hcl 30 7 2 (show reachB (opsBg pp) 30 7 2 = true by kernel_rfl) h7
      have h6 : L 6 = true := reach_ofF hcl 30 7 6 (show reachB (opsBg pp) 30 7 6 = true by kernel_rfl) h7
      have n9 : L 9 = false := not_yetF hcl 30 (show reachB (opsBg pp) 30 9 8 = true by kernel_rfl) hLi
      obtain ⟨w1, w2, w3, w7, w4⟩ := hW
      obtain ⟨A', c', e0, l', hG, hHas, hIn, hO⟩ := w2 h2 hLi
      obtain ⟨b, e1, hb1, hbk⟩ := w3 h6 hLi
      have hO2 := hO h6 b M M e1
      have hlt := (Array.getElem?_eq_some_iff.1 hbk).1
      have q7' := q7.trans (w7 h7 hLi)
      rw [e0, e1] at q7'
      have hal : Below w'.heap.size w' (w'.alloc (.cells #[.pointer (some ⟨R, 0, none⟩), .slice A' M c', .func (.func fid) fi ca, .slice (some ⟨b, 0, none⟩) M M, .int .i64 0] 73)) := (Below.refl _ _).alloc (Nat.le_refl _) _
      refine step_bxEx rfl rfl rfl q7' ?_
      have hW2 : wsBg R A M c fid fi ca G w.drew (fun j => L j || j == 8) (.tuple #[tupAt u 0, tupAt u 1, tupAt u 2, .pointer (some ⟨w'.heap.size, 0, none⟩), tupAt u 4]) (w'.alloc (.cells #[.pointer (some ⟨R, 0, none⟩), .slice A' M c', .func (.func fid) fi ca, .slice (some ⟨b, 0, none⟩) M M, .int .i64 0] 73)) := by
        have hx := hIn.above (b := w'.heap.size) (.inr (Nat.le_refl _))
        refine ⟨w1.trans (Below.mono hal w1.size), fun _ h => ?_, fun _ h => ?_, fun _ h => ?_, fun _ => ⟨w'.heap.size, rfl, fun h => ?_, b, A', c', l', hG, ⟨hHas.below hal, fun x o m e => ⟨hx.1 x o m e, hO2.1 x o m e⟩, fun v hv x o m e => ⟨hx.2 v hv x o m e, hO2.2 v hv x o m e⟩⟩, (hal.block b hlt).trans hbk, World.alloc_heap_new w' _, w1.size, hb1, by omega⟩⟩
        · simp at h
        · simp at h
        · simp at h
        · have h' : L 9 = true := by simpa using h
          rw [n9] at h'
          cases h'
      exact ⟨frm' 15 _ rfl, fun h => (getD_put_ne (by decide)).trans (f0 (by simpa using h)), fun h => (getD_put_ne (by decide)).trans (f1 (by simpa using h)), fun h => (getD_put_ne (by decide)).trans (f3 (by simpa using h)), fun h => (getD_put_ne (by decide)).trans (f4 (by simpa using h)), fun h => (getD_put_ne (by decide)).trans (f5 (by simpa using h)), (.tuple #[tupAt u 0, tupAt u 1, tupAt u 2, .pointer (some ⟨w'.heap.size, 0, none⟩), tupAt u 4]), fun h => (getD_put_ne (by decide)).trans (f2 (by simpa using h)), fun h => (getD_put_ne (by decide)).trans (f6 (by simpa using h)), fun h => (getD_put_ne (by decide)).trans (f7 (by simpa using h)), fun _ => getD_put_same (by rw [hsz]; omega), fun h => (getD_put_ne (by decide)).trans (f9 (by simpa using h)), hW2⟩
    · obtain rfl : oBg9 pp = o := Option.some.inj ho
      have q8 : a'.tmps.getD 15 undef = tupAt u 3 := f8 (edge_ofF (o := oBg9 pp) hpre 8 rfl)
      obtain ⟨w1, w2, w3, w7, w4⟩ := hW
      have h8 := edge_ofF (o := oBg9 pp) hpre 8 rfl
      have hW2 : wsBg R A M c fid fi ca G w.drew (fun j => L j || j == 9) (.tuple #[tupAt u 0, tupAt u 1, tupAt u 2, tupAt u 3, tupAt u 3]) w' := by
        obtain ⟨x, e, _, hq⟩ := w4 h8
        refine ⟨w1, fun _ h => ?_, fun _ h => ?_, fun _ h => ?_, fun _ => ⟨x, e, fun _ => e, hq⟩⟩
        all_goals
          have h' : L 8 = false := by simpa using h
          rw [h8] at h'
          cases h'
      exact step_assign rfl rfl rfl q8 ⟨frm' 6 _ rfl, fun h => (getD_put_ne (by decide)).trans (f0 (by simpa using h)), fun h => (getD_put_ne (by decide)).trans (f1 (by simpa using h)), fun h => (getD_put_ne (by decide)).trans (f3 (by simpa using h)), fun h => (getD_put_ne (by decide)).trans (f4 (by simpa using h)), fun h => (getD_put_ne (by decide)).trans (f5 (by simpa using h)), (.tuple #[tupAt u 0, tupAt u 1, tupAt u 2, tupAt u 3, tupAt u 3]), fun h => (getD_put_ne (by decide)).trans (f2 (by simpa using h)), fun h => (getD_put_ne (by decide)).trans (f6 (by simpa using h)), fun h => (getD_put_ne (by decide)).trans (f7 (by simpa using h)), fun h => (getD_put_ne (by decide)).trans (f8 (by simpa using h)), fun _ => getD_put_same (by rw [hsz]; omega), hW2⟩
    · exact absurd ((Array.getElem?_eq_some_iff.1 ho).1) (by simp [opsBg])
  · intro L a' w' hv hall
    have hL : ∀ j, j < 10 → L j = true := fun j hj => hall j (by simpa [opsBg] using hj)
    obtain ⟨hF, f0, f1, f3, f4, f5, u, f2, f6, f7, f8, f9, hW⟩ := hv
    have hW2 : wsBg R A M c fid fi ca G w.drew (fun _ => true) u w' := by
      unfold wsBg at hW ⊢
      simp only [hL 2 (by omega), hL 6 (by omega), hL 7 (by omega), hL 8 (by omega), hL 9 (by omega)] at hW ⊢
      exact hW
    have hput : a' = puts [(7, .pointer (some ⟨R, 0, none⟩)), (8, .slice A M c), (9, tupAt u 0), (10, .func (.func fid) fi ca), (11, .slice A M c), (12, .int .i64 (M : Int)), (13, tupAt u 1), (14, tupAt u 2), (15, tupAt u 3), (6, tupAt u 4)] a := hF.puts _ (by
      intro z hz
      simp only [List.mem_cons, List.not_mem_nil, or_false] at hz
      rcases hz with rfl | rfl | rfl | rfl | rfl | rfl | rfl | rfl | rfl | rfl
      · exact f0 (hL 0 (by omega))
      · exact f1 (hL 1 (by omega))
      · exact f2 (hL 2 (by omega))
      · exact f3 (hL 3 (by omega))
      · exact f4 (hL 4 (by omega))
      · exact f5 (hL 5 (by omega))
      · exact f6 (hL 6 (by omega))
      · exact f7 (hL 7 (by omega))
      · exact f8 (hL 8 (by omega))
      · exact f9 (hL 9 (by omega))) rfl (by rw [hN]; rfl)
    rw [hput]
    exact hQ u w' hW2
end Go.Proofs.YtfjmdkhemnmkpaaGreatDoor

namespace Go.Proofs.YtfjmdkhemnmkpaaGreatDoor
open Go.RowKit Go.Maps
set_option maxRecDepth 100000 in
set_option maxHeartbeats 4000000 in
theorem begin_any {F : Nat → Prop} {w : World} {R : Nat} {a : AM} (A : Option Addr) (L c : Nat) (l : List CmdV) (fid : Nat) (fi ca : Array Value) (h : AppQ F w R a) (hL : L = l.length) (hm : L ≤ 100) (hA : HasC w A l) (hng : ∀ v ∈ l, ¬ v.great) :
    Calls Tryz.prog 27 #[.pointer (some ⟨R, 0, none⟩), .slice A L c, .func (.func fid) fi ca] w fun e W' => ∃ x, e = .returned (.pointer (some ⟨x, 0, none⟩)) ∧ Below w.heap.size w W' ∧ ∃ b A' c' l', List.map CmdV.m l' = List.map CmdV.m l ∧ (∀ v ∈ l', ¬ v.great) ∧ CmdQ x b W' A' l' ∧ RunQ F w R b x A' L c' (.func (.func fid) fi ca) a (fun _ => D0) 0 W' := by
  have HC := Lib.hid (show ∀ w', Below w.drew.heap.size w.drew w' → Calls Tryz.prog 47 #[.slice A L c] w' fun e W' => ∃ A' c', e = .returned (.slice A' L c') ∧ L ≤ c' ∧ ∃ l' : List CmdV, (l'.map (·.m) = l.map (·.m) ∧ ∀ v ∈ l', ¬ v.great) ∧ HasC W' A' l' ∧ Below w'.heap.size w' W' ∧ InC w'.heap.size W'.heap.size A' l' from fun w' hb => by
    refine (copy_any A L c l w' hL hm (hA.below ((Below.refl _ w).drew.trans hb)) hng).mono ?_
    rintro e W' ⟨A', c', rfl, h1, l', h2, h3, h4, h5, h6⟩
    exact ⟨A', c', rfl, h1, l', ⟨h2, h3⟩, h4, h5, h6⟩)
  have HH := Lib.hid h
  clear h hL hA hng
  go_enter Tryz.func27, Tryz.ntmps27
  go_upto_region 1 with (fail)
  refine wxbeg R A L c fid fi ca (fun l' => l'.map (·.m) = l.map (·.m) ∧ ∀ v ∈ l', ¬ v.great) _ w _ rfl rfl rfl rfl (by omega) HC.out ⟨Below.refl _ _, fun h => (by cases h), fun h => (by cases h), fun h => (by cases h), fun h => (by cases h)⟩ ?_
  intro u W' hws
  obtain ⟨hb, _, _, _, h8⟩ := hws
  obtain ⟨x, _, e9, b, A', c', l', ⟨g1, g2⟩, hq, hbk, hx, hx1, hb1, hne⟩ := h8 rfl
  have hb' : Below w.heap.size w W' := (Below.refl _ w).drew.trans hb
  have hgo : GoQ F w R b L a (fun _ => D0) W' := ⟨⟨F, HH.out.keep (Only.of_grew (F := fun _ => False) hb') (fun _ _ => id), fun k hk => .inl hk, fun hf => by have := HH.out.lt _ hf; have : w.heap.size ≤ b := hb1; omega⟩, Only.of_grew hb', hb1, hbk⟩
  have HR := Lib.hid (And.intro hb' (And.intro g1 (And.intro g2 (And.intro hq (show RunQ F w R b x A' L c' (.func (.func fid) fi ca) a (fun _ => D0) 0 W' from ⟨hgo, hx, hx1, hne⟩)))))
  rw [e9 rfl]
  simp only [puts, List.foldl_cons, List.foldl_nil, Act.put, List.setIfInBounds_toArray, List.set_cons_succ, List.set_cons_zero]
  clear hb h8 e9 g1 g2 hq hbk hx hx1 hb1 hne hb' hgo HC
  go_wp2
  go_ret
  exact ⟨x, rfl, HR.out.1, b, A', c', l', HR.out.2.1, HR.out.2.2.1, HR.out.2.2.2.1, HR.out.2.2.2.2⟩
end Go.Proofs.YtfjmdkhemnmkpaaGreatDoor
