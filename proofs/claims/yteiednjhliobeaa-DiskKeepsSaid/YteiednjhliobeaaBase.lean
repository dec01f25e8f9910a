/- Words and laws of our own over this translation: slices of bytes given back, blocks, worlds that grew, steps of regions that draw their order, opening arguments. -/
import Derived.Test.YteiednjhliobeaaOwn
import Derived.Test.YteiednjhliobeaaRegion
import Derived.RangeFuncBox
import Derived.WalkKit
import Derived.Lib.Hide
import Derived.Lib.SliceRun
import Derived.ProofKit
import Derived.Test.YteiednjhliobeaaProg
namespace Go.Proofs.Yteiednjhliobeaa
open Go.RowKit Go.ChangeShapes Go.WideShapes Go.ChangeAt Go.ChangeMaps

theorem info5 : (Try.prog.info? 5).map (fun i => (i.zero, i.size, i.bytes)) = some (some (.int .u8 0), 1, 1) := by kernel_rfl
theorem size5 : (Try.prog.info? 5).map (·.size) = some 1 := by kernel_rfl
/-- A call that began in w gives back a new slice of the bytes xs; what lay in w lies as it lay. -/
def Gives (w : World) (xs : List UInt8) (e : Ending) (W' : World) : Prop :=
  ∃ g L c, e = .returned (.slice (some ⟨g, 0, none⟩) L c) ∧ W'.ownsRow w.heap.size 5 1 (.slice (some ⟨g, 0, none⟩) L c) L (xs.map enc) ∧ Below w.heap.size w W'
theorem own_len {w : World} {base n : Nat} {e : TypeId} {v : Value} {xs : List UInt8} (h : w.ownsRow base e 1 v n (xs.map enc)) : n = xs.length := by
  have := h.1; simp at this; omega
theorem ret_int {k : IntKind} {a b : Int} (h : a = b) : Ending.returned (.int k a) = .returned (.int k b) := by rw [h]
theorem ownsRow_new (w : World) (base c : Nat) (bs : List UInt8) (hb : base ≤ w.heap.size) (hc : bs.length = c) (hl : c ≤ 1000000) :
    (w.alloc (.cells (bs.map enc).toArray 5)).ownsRow base 5 1 (.slice (some ⟨w.heap.size, 0, none⟩) c c) c (bs.map enc) := by
  subst hc
  exact ⟨by simp, .inr ⟨w.heap.size, bs.length, _, rfl, hb, heap_alloc_new w _, Nat.le_refl _, by simp only [maxLen]; omega, by simp, by rw [Nat.mul_one]; exact List.take_of_length_le (by simp)⟩⟩
/-- The address A bears the bytes bs, in a block of bytes. -/
def Data (w : World) (A : Option Addr) (bs : List UInt8) : Prop :=
  bs ≠ [] → ∃ b o cur, A = some ⟨b, o, none⟩ ∧ w.heap[b]? = some (.cells cur 5 (0, 0)) ∧ ∀ i (h : i < bs.length), cur[o + i]? = some (enc bs[i])
theorem Data.nil (w : World) (A : Option Addr) : Data w A [] := fun h => absurd rfl h
theorem Data.has {w : World} {A : Option Addr} {bs : List UInt8} (h : Data w A bs) : HasA w w.heap.size A bs := fun hn => by
  obtain ⟨b, o, cur, hA, hb, hc⟩ := h hn
  exact ⟨b, o, hA, (Array.getElem?_eq_some_iff.1 hb).1, fun i hi => (cell_of_row w b (o + i) cur 5 (0, 0) hb).trans (hc i hi)⟩
theorem Data.kept {w w' : World} {A : Option Addr} {bs : List UInt8} (h : Data w A bs) (hk : ∀ (b : Nat) (cur : Array Value), w.heap[b]? = some (.cells cur 5 (0, 0)) → w'.heap[b]? = some (.cells cur 5 (0, 0))) : Data w' A bs := fun hn => by
  obtain ⟨b, o, cur, hA, hb, hc⟩ := h hn
  exact ⟨b, o, cur, hA, hk b cur hb, hc⟩
theorem Data.cut {w : World} {b o : Nat} {bs : List UInt8} (k : Nat) (h : Data w (some ⟨b, o, none⟩) bs) : Data w (some ⟨b, o + k, none⟩) (bs.drop k) := fun hn => by
  have hne : bs ≠ [] := by rintro rfl; simp at hn
  obtain ⟨b', o', cur, hA, hb, hc⟩ := h hne
  cases hA
  refine ⟨b, o + k, cur, rfl, hb, fun i hi => ?_⟩
  have hi' : k + i < bs.length := by simp at hi; omega
  rw [Nat.add_assoc, hc (k + i) hi']; simp
theorem Data.of_own {w : World} {base n c : Nat} {A : Option Addr} {bs : List UInt8} (h : w.ownsRow base 5 1 (.slice A n c) n (bs.map enc)) : Data w A bs := fun hn => by
  have hl := own_len h
  rcases h.2 with ⟨_, h0⟩ | ⟨g, cap, cur, hv, _, hg, _, _, _, ht⟩
  · exact absurd (List.eq_nil_of_length_eq_zero (by omega)) hn
  · cases hv
    refine ⟨g, 0, cur, rfl, hg, fun i hi => ?_⟩
    have : (cur.toList.take (n * 1))[i]? = some (enc bs[i]) := by rw [ht]; simp [hi]
    rw [List.getElem?_take_of_lt (by omega)] at this
    simpa using this
theorem blk_cell {w : World} {R : Nat} {cs : Array Value} {t : TypeId} (h : w.heap[R]? = some (.cells cs t (0, 0))) (i : Nat) : w.cell? ⟨R, i, none⟩ = cs[i]? := cell_of_row w R i cs t (0, 0) h
theorem blk_frozen {w : World} {R : Nat} {cs : Array Value} {t : TypeId} (h : w.heap[R]? = some (.cells cs t (0, 0))) (i : Nat) : w.frozen? ⟨R, i, none⟩ = false := by simp [World.frozen?, h]
theorem blk_set {w : World} {R : Nat} {cs : Array Value} {t : TypeId} (h : w.heap[R]? = some (.cells cs t (0, 0))) (i : Nat) (u : Value) : (w.setCell ⟨R, i, none⟩ u).heap[R]? = some (.cells (cs.setIfInBounds i u) t (0, 0)) := by
  simp [World.setCell, Array.getElem?_modify, h]
theorem grownBy_set (w : World) (R i : Nat) (u : Value) : w.grownBy (w.setCell ⟨R, i, none⟩ u) (some R) :=
  ⟨rfl, rfl, rfl, by simp [World.setCell], fun k _ hk => Below.heap_setCell _ _ _ _ (fun e => hk (by rw [e]))⟩
theorem grownBy_trans {a b c : World} {r : Option Nat} (h : a.grownBy b r) (k : b.grownBy c r) : a.grownBy c r :=
  ⟨k.os.trans h.os, k.tape.trans h.tape, k.output.trans h.output, Nat.le_trans h.size k.size, fun i hi hn => (k.block i (Nat.lt_of_lt_of_le hi h.size) hn).trans (h.block i hi hn)⟩
theorem grownBy_of_below {a b : World} {r : Option Nat} (h : Below a.heap.size a b) : a.grownBy b r := ⟨h.os, h.tape, h.output, h.size, fun k hk _ => h.block k hk⟩
theorem grownBy_refl (a : World) (r : Option Nat) : a.grownBy a r := ⟨rfl, rfl, rfl, Nat.le_refl _, fun _ _ _ => rfl⟩
theorem follows : Try.prog.follows .mixedOrders = true := by kernel_rfl
theorem below_grown {B : Nat} {w W W' : World} {R : Nat} (h : Below B w W) (hB : B ≤ W.heap.size) (hR : B ≤ R) (hg : W.grownBy W' (some R)) : Below B w W' := h.grown hg hB (fun k e => by cases e; exact hR)
theorem hasA_new (w : World) (bs : List UInt8) : HasA (w.alloc (.cells (bs.map enc).toArray 5)) (w.alloc (.cells (bs.map enc).toArray 5)).heap.size (some ⟨w.heap.size, 0, none⟩) bs := fun _ =>
  ⟨w.heap.size, 0, rfl, by simp, fun i hi => by rw [blk_cell (World.alloc_heap_new w _)]; simp [hi]⟩
/-- A slice given back reads as the string of its bytes. -/
theorem conv_own {w : World} {base g L c : Nat} {xs : List UInt8} (h : w.ownsRow base 5 1 (.slice (some ⟨g, 0, none⟩) L c) L (xs.map enc)) :
    (convert 27 9 (.slice (some ⟨g, 0, none⟩) L c)).run Try.prog w = .ok (.string (str xs)) w :=
  run_conv (HasA.of_own h) c Try.underlying27 Try.underlying5 Try.underlying9 (own_len h)
theorem str_toList (xs : List UInt8) : (str xs).toList = xs := by rw [ByteArray.toList_eq]; simp [str]
theorem str_beq (xs : List UInt8) : ((str xs).toList == xs) = true := by rw [str_toList]; simp
theorem own_base {w : World} {base base' n : Nat} {e : TypeId} {v : Value} {xs : List Value} (h : w.ownsRow base e 1 v n xs) (hb : base' ≤ base) : w.ownsRow base' e 1 v n xs := by
  refine ⟨h.1, ?_⟩
  rcases h.2 with h2 | ⟨g, cap, cur, a, b, r⟩
  · exact .inl h2
  · exact .inr ⟨g, cap, cur, a, Nat.le_trans hb b, r⟩
/-- The relation of worlds: nothing that lay has turned. -/
def Grew (w w' : World) : Prop := Below w.heap.size w w'
theorem Grew.refl (w : World) : Grew w w := Below.refl _ _
theorem Grew.trans {x y z : World} (h : Grew x y) (k : Grew y z) : Grew x z := Below.trans h (Below.mono k (Below.size h))

theorem Grew.undraw {w w' : World} (h : Grew w.drew w') : Grew w w' := by
  have k : Below w.drew.heap.size w.drew w' := h
  exact ⟨k.os, k.tape, k.output, k.size, k.block⟩

/-- v is a slice of the bytes X. -/
def IsB (w : World) (v : Value) (X : List UInt8) : Prop := ∃ A L c, v = .slice A L c ∧ L = X.length ∧ HasA w w.heap.size A X
theorem IsB.grew {w w' : World} {v : Value} {X : List UInt8} (h : IsB w v X) (hg : Grew w w') : IsB w' v X := by
  obtain ⟨A, L, c, hv, hL, hA⟩ := h
  exact ⟨A, L, c, hv, hL, hA.below' hg⟩
theorem IsB.own {w : World} {base n : Nat} {v : Value} {X : List UInt8} (h : w.ownsRow base 5 1 v n (X.map enc)) : IsB w v X := by
  rcases h.2 with ⟨rfl, h0⟩ | ⟨g, cap, cur, rfl, _⟩
  · subst h0
    exact ⟨none, 0, 0, rfl, own_len h, HasA.of_own h⟩
  · exact ⟨_, n, cap, rfl, own_len h, HasA.of_own h⟩
theorem IsB.conv {w : World} {v : Value} {X : List UInt8} (h : IsB w v X) : (convert 27 9 v).run Try.prog w = .ok (.string (str X)) w := by
  obtain ⟨A, L, c, rfl, hL, hA⟩ := h
  exact run_conv hA c Try.underlying27 Try.underlying5 Try.underlying9 hL

/-- A slot that the region doesn't fill. -/
theorem Frm.at {ops : List Oper} {a a' : Act} (h : Frm ops a a') (s : Nat) {v : Value} (hs : (ops.all fun o => !(o.dst == some s)) = true) (hv : a.tmps.getD s undef = v) : a'.tmps.getD s undef = v := by
  rw [← hv]
  refine h.old s fun o ho e => ?_
  rw [List.all_eq_true] at hs
  have := hs o ho
  simp [e] at this

theorem getD_some {tmps : Array Value} {d : Nat} {b : Bool} (h : tmps.getD d undef = .bool b) : tmps[d]? = some (.bool b) := by
  rw [Array.getD_eq_getD_getElem?] at h
  cases hx : tmps[d]? with
  | none => rw [hx] at h; cases h
  | some x => rw [hx] at h; simp at h; rw [h]

theorem wanted_on {ops : Array Oper} {o og : Oper} {a : Act} {g d : Nat} {b : Bool} (hg : o.guard = some (g, b)) (hog : ops[g]? = some og) (hd : og.dst = some d) (h : a.tmps.getD d undef = .bool b) : Region.wanted o (yielded ops a.tmps) = true := by
  simp [Region.wanted, hg, yielded, hog, hd, getD_some h]
theorem wanted_off {ops : Array Oper} {o og : Oper} {a : Act} {g d : Nat} {b : Bool} (hg : o.guard = some (g, b)) (hog : ops[g]? = some og) (hd : og.dst = some d) (h : a.tmps.getD d undef = .bool (!b)) : Region.wanted o (yielded ops a.tmps) = false := by
  simp [Region.wanted, hg, yielded, hog, hd, getD_some h]

section
variable {n : Nat} {Q : Exit → Act → World → Prop} {ops : Array Oper} {i : Nat} {o : Oper} {a : Act} {w : World} {K : Act → World → Prop}

/-- An operation whose guard says no. -/
theorem step_off {P : Program} (hi : ops[i]? = some o) (hw : Region.wanted o (yielded ops a.tmps) = false) (h : K (a.put o.dst undef) w) : wpOpIn Fence.wide n P ops Q i K a w := by
  unfold wpOpIn
  simp only [hi, hw]
  exact ⟨fun _ _ => trivial, h⟩

theorem step_move {x : Operand} {v : Value} (hi : ops[i]? = some o) (hw : Region.wanted o (yielded ops a.tmps) = true) (ho : o.op = .move x) (hx : a.eval x = v) (h : K (a.put o.dst v) w) : wpOpIn Fence.wide n Try.prog ops Q i K a w :=
  step_run hi hw (by rw [ho]; intro c h; cases h) (by simp [Oper.about, ho]) (by simp [execOp, ho, hx]) h
theorem step_assign {x : Operand} {v : Value} (hi : ops[i]? = some o) (hw : Region.wanted o (yielded ops a.tmps) = true) (ho : o.op = .assign x) (hx : a.eval x = v) (h : K (a.put o.dst v) w) : wpOpIn Fence.wide n Try.prog ops Q i K a w :=
  step_run hi hw (by rw [ho]; intro c h; cases h) (by simp [Oper.about, ho]) (by simp [execOp, ho, hx]) h
theorem step_pick {x y z : Operand} {b : Bool} {v : Value} (hi : ops[i]? = some o) (hw : Region.wanted o (yielded ops a.tmps) = true) (ho : o.op = .pick x y z) (hx : a.eval x = .bool b) (hv : (if b then a.eval y else a.eval z) = v) (h : K (a.put o.dst v) w) : wpOpIn Fence.wide n Try.prog ops Q i K a w :=
  step_run hi hw (by rw [ho]; intro c h; cases h) (by simp [Oper.about, ho]) (by cases b <;> simp_all [execOp, asBool]) h
theorem step_conv {x : Operand} {X : List UInt8} (hi : ops[i]? = some o) (hw : Region.wanted o (yielded ops a.tmps) = true) (ho : o.op = .convert 27 9 x) (hx : IsB w (a.eval x) X) (h : K (a.put o.dst (.string (str X))) w) : wpOpIn Fence.wide n Try.prog ops Q i K a w :=
  step_run hi hw (by rw [ho]; intro c h; cases h) (by simp [Oper.about, ho]) (by simp [execOp, ho, hx.conv]) h
theorem step_bin {op : BinOp} {t u : TypeId} {x y : Operand} {vx vy v : Value} (hi : ops[i]? = some o) (hw : Region.wanted o (yielded ops a.tmps) = true) (ho : o.op = .binOp op t x y u) (hx : a.eval x = vx) (hy : a.eval y = vy)
    (hg : (eqGuard op t x y vx vy).run Try.prog w = .ok () w) (hr : (binOp op t vx vy).run Try.prog w = .ok v w) (h : K (a.put o.dst v) w) : wpOpIn Fence.wide n Try.prog ops Q i K a w :=
  step_run hi hw (by rw [ho]; intro c h; cases h) (by simp [Oper.about, ho]) (by simp [execOp, ho, hx, hy, hg, hr]) h

theorem step_append {s x : Operand} {X : List UInt8} (hX : X.length ≤ 1000000) (hi : ops[i]? = some o) (hw : Region.wanted o (yielded ops a.tmps) = true) (ho : o.op = .call { callee := .builtin .append, args := #[s, x], argTypes := #[27, 27] })
    (hs : a.eval s = .slice none 0 0) (hx : IsB w (a.eval x) X) (h : ∀ v w', IsB w' v X → Grew w w' → K (a.put o.dst v) w') : wpOpIn Fence.wide n Try.prog ops Q i K a w := by
  obtain ⟨i0, hi0, hz0, hz1, hz2⟩ := info_parts info5
  obtain ⟨A, L, c, hv, hL, hA⟩ := hx
  obtain ⟨v', w', hrun, h1, h2⟩ := run_append_has (P := Try.prog) (w := w) w.heap.size 27 o.type 5 i0 Try.underlying27 hi0 hz0 hz1 hz2 (.slice none 0 0) 0 [] (World.ownsRow_nil _ _ _ _) w.heap.size A L c X hL hA (by omega) (Nat.le_refl _)
  refine step_run hi hw (by rw [ho]; intro c h; cases h) (by simp [Oper.about, ho, resolve, Target.leads, Sem.run_pure]) (v := v') (w' := w') ?_ (h v' w' (IsB.own h1) ?_)
  · unfold execOp
    simp only [ho, resolve, invoke, builtin, Sem.run_bind, Sem.run_pure, Result.andThen_ok, List.map_toArray, List.map_cons, List.map_nil, hs, hv, hrun]
  · exact (Below.refl _ _).grown h2 (Nat.le_refl _) (fun k e => by cases e)

/-- A call that gives back a new slice. -/
theorem step_gives {f : FuncId} {xs : Array Operand} {ts : Array TypeId} {vs : Array Value} {X : List UInt8} (hi : ops[i]? = some o) (hw : Region.wanted o (yielded ops a.tmps) = true)
    (ho : o.op = .call { callee := .value (.func f), args := xs, argTypes := ts }) (eg : ∀ args w, (callFunc f args).run Try.prog w = .ok (.enter f args) w) (hxs : xs.map a.eval = vs) (hc : Calls Try.prog f vs w (Gives w X))
    (h : ∀ v w', IsB w' v X → Grew w w' → K (a.put o.dst v) w') : wpOpIn Fence.wide n Try.prog ops Q i K a w := by
  refine step_call hi hw ho trivial (fun h => by cases h) eg ?_
  rw [hxs]
  refine (callsIn_wide.2 hc).mono ?_
  rintro e w' ⟨g, L, c, rfl, hown, hb⟩
  exact ⟨_, rfl, h _ _ (IsB.own hown) hb⟩
end
theorem run_add (w : World) (x y : List UInt8) (h : x.length + y.length ≤ 1000000000) : (binOp .add 9 (.string (str x)) (.string (str y))).run Try.prog w = .ok (.string (str (x ++ y))) w := by
  have h1 := str_size x
  have h2 := str_size y
  simp [go_sem, str_append]
  omega
theorem run_eq (w : World) (x y : List UInt8) : (binOp .eql 9 (.string (str x)) (.string (str y))).run Try.prog w = .ok (.bool (x == y)) w := by
  simp only [binOp_string_eql, Sem.run_pure, str_toList]
theorem run_neq (w : World) (x y : List UInt8) : (binOp .neq 9 (.string (str x)) (.string (str y))).run Try.prog w = .ok (.bool (x != y)) w := by
  simp [go_sem, str_toList, bne]
theorem guard_str (op : BinOp) (t : TypeId) (w : World) (x y : Operand) (s u : ByteArray) : (eqGuard op t x y (.string s) (.string u)).run Try.prog w = .ok () w := by
  cases op <;> simp [eqGuard]
theorem guard_int (op : BinOp) (t : TypeId) (w : World) (x y : Operand) (k k' : IntKind) (s u : Int) : (eqGuard op t x y (.int k s) (.int k' u)).run Try.prog w = .ok () w := by
  cases op <;> simp [eqGuard]
theorem guard_bool (op : BinOp) (t : TypeId) (w : World) (x y : Operand) (s u : Bool) : (eqGuard op t x y (.bool s) (.bool u)).run Try.prog w = .ok () w := by
  cases op <;> simp [eqGuard]
theorem run_eqb (t : TypeId) (ht : Try.prog.underlying t = some .bool) (w : World) (x y : Bool) : (binOp .eql t (.bool x) (.bool y)).run Try.prog w = .ok (.bool (x == y)) w := by
  simp [go_sem, ht]
theorem run_eqi (t : TypeId) (k : IntKind) (w : World) (x y : Int) : (binOp .eql t (.int k x) (.int k y)).run Try.prog w = .ok (.bool (x == y)) w := by
  simp [go_sem]
theorem ownKnob_none : ownKnob Try.prog.godebug = none := by kernel_rfl
theorem laid_out : laidOutB Try.prog = true := by kernel_rfl
theorem cells5 : Try.prog.cellsOf 5 = 1 := by kernel_rfl

section
variable {H : Type} {enc : TypeId × Value → H} {P : Program}
/-- The row's last step where nothing that lay has turned. -/
theorem post_grew {f : Func} {s : ChangeSpec} {apart fresh handsOn : Bool} {W W' : World} {args : Array Value} {v : Value} {ds gs : List (DataW H)} {before pa pv : List MemPlace}
    (hW : DataW.Whole enc P f.params.toList s.vars apart W args.toList ds gs before)
    (hres : ∀ (b : Nat) (sp : Nat → Bool) (hd : Bool), DataW.TrodAll enc P W' b sp hd f.resultTypes.toList (v.resultList f.resultTypes.size) (s.fn H (ds ++ gs)).results [])
    (hargs : DataW.TrodAll enc P W' 0 (fun b => decide (b < W.heap.size)) true f.params.toList args.toList (s.fn H (ds ++ gs)).args pa)
    (hvars : DataW.TrodVars enc P W' (fun b => decide (b < W.heap.size)) s.vars (s.fn H (ds ++ gs)).vars pv)
    (hps : before = pa ++ pv) (hb : Below W.heap.size W W') : s.post enc P f apart fresh handsOn false W args v W' := by
  refine ⟨ds, gs, before, [], pa, pv, hW, hres _ _ _, hargs, hvars, World.keptBut_mono (fun p hp => ⟨hp, ?_⟩) (hb.frame (· ∈ before)), fun h => by cases h⟩
  rw [hps, List.mem_append] at hp
  exact Or.inr hp

/-- A slice of bytes that came in. -/
theorem open_b {W : World} {base : Nat} {v : Value} {d : DataW H} {p : List MemPlace} (hval : Value.okWide Try.prog W .any base 27 v) (h : DataW.Trod enc Try.prog W 0 (fun _ => true) true 27 v d p) :
    ∃ A L c B, v = .slice A L c ∧ L = List.length B ∧ L ≤ maxLen ∧ HasA W W.heap.size A B := by
  obtain ⟨a0, len, cap, rfl⟩ := okWide_slice Try.underlying27 hval
  obtain ⟨fuel, hf⟩ := h
  rcases open_ints Try.underlying27 Try.underlying5 cells5 hf with ⟨hcs, hx⟩ | ⟨a, len', cap', zs, hcs, _, hl, hm, hz, hx, hcell, hwz⟩
  · simp [Value.cells] at hcs
    obtain ⟨rfl, rfl, rfl⟩ := hcs
    exact ⟨none, 0, 0, [], rfl, rfl, Nat.zero_le _, HasA.nil _ _ _⟩
  · simp [Value.cells] at hcs
    obtain ⟨rfl, rfl, rfl⟩ := hcs
    simp only [if_true] at hz
    have hlen : ((zs.take len).map fun n => UInt8.ofNat n.toNat).length = len := by simp; omega
    refine ⟨_, len, cap, (zs.take len).map fun n => UInt8.ofNat n.toNat, rfl, hlen.symm, by omega, fun hne => ?_⟩
    have hpos : 0 < len := by
      rcases Nat.eq_zero_or_pos len with h0 | h0
      · exact absurd (List.eq_nil_of_length_eq_zero (by rw [hlen]; exact h0)) hne
      · exact h0
    obtain ⟨ab, ao, spot⟩ := a
    have hspot : spot = none := by simpa [Addr.add] using World.cell?_spot (hcell 0 (by omega))
    subst hspot
    refine ⟨ab, ao, rfl, ?_, fun i hi => ?_⟩
    · have := World.block_lt_of_cell? W _ (hcell 0 (by omega))
      rw [addr_add] at this
      exact this
    · rw [hlen] at hi
      have hzi : i < zs.length := by omega
      have hc := hcell i hzi
      rw [addr_add] at hc
      rw [hc]
      have hw := hwz zs[i] (List.getElem_mem hzi)
      simp [Lit.wf, IntKind.min, IntKind.max, IntKind.signed, IntKind.bits] at hw
      have hg : zs.getD i 0 = zs[i] := by simp [List.getD, hzi]
      rw [hg]
      simp only [List.getElem_map, List.getElem_take]
      rw [enc_ofNat (by omega)]
      congr 2
      omega
end

theorem wf_u64 {n : Int} (h : (Lit.int .u64 n).wf = true) : ∃ k : Nat, n = (k : Int) ∧ k < 18446744073709551616 := by
  simp [Lit.wf, IntKind.min, IntKind.max, IntKind.signed, IntKind.bits] at h
  exact ⟨n.toNat, by omega, by omega⟩
theorem wf_i64 {n : Int} (h : (Lit.int .i64 n).wf = true) : -9223372036854775808 ≤ n ∧ n ≤ 9223372036854775807 := by
  simp [Lit.wf, IntKind.min, IntKind.max, IntKind.signed, IntKind.bits] at h
  omega

end Go.Proofs.Yteiednjhliobeaa
