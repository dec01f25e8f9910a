/- Bounds on states behind commands. KvApart: the statements that do two commands, whatever their order of evaluation. KvApart's walk. -/
import Derived.Test.YtfkdlmokigeemaaDoorMKvK
import Derived.Test.YtfkdlmokigeemaaDoorMBase
import Derived.Test.YtfkdlmokigeemaaDoorMMath
import Derived.Test.YtfkdlmokigeemaaDoorProg
import Derived.Test.YtfkdlmokigeemaaDoorRdS
import Derived.Test.YtfkdlmokigeemaaDoorMKvA
-- KvLim
namespace Go.Proofs.YtfkdlmokigeemaaDoor
open Go.RowKit

/-- At most N pairs, none of them long. -/
structure LimN (N : Nat) (l : List PV) : Prop where
  len : l.length ≤ N
  each : ∀ p ∈ l, p.1.size ≤ 1000 ∧ p.2.size ≤ 1000
theorem LimN.lim {N : Nat} {l : List PV} (h : LimN N l) (hN : N ≤ 5000) : LimP l := ⟨Nat.le_trans h.len hN, h.each⟩
theorem LimN.nil : LimN 0 [] := ⟨by simp, fun p hp => by cases hp⟩
theorem LimN.more {N M : Nat} {l : List PV} (h : LimN N l) (hN : N ≤ M) : LimN M l := ⟨Nat.le_trans h.len hN, h.each⟩
theorem LimN.without {N : Nat} {l : List PV} (h : LimN N l) (k : ByteArray) : LimN N (withoutP l k) := ⟨Nat.le_trans (withoutP_len l k) h.len, fun p hp => h.each p (List.mem_filter.1 hp).1⟩
theorem LimN.with_ {N : Nat} {l : List PV} (h : LimN N l) {k v : ByteArray} (hk : k.size ≤ 1000) (hv : v.size ≤ 1000) : LimN (N + 1) (withP l k v) := by
  refine ⟨by have := withP_len l k v; have := h.len; omega, fun p hp => ?_⟩
  unfold withP at hp
  rcases List.mem_append.1 hp with hp | hp
  · exact h.each p (List.mem_filter.1 (List.mem_of_mem_take hp)).1
  · rcases List.mem_cons.1 hp with rfl | hp
    · exact ⟨hk, hv⟩
    · exact h.each p (List.mem_filter.1 (List.mem_of_mem_drop hp)).1
theorem LimN.look {N : Nat} {l : List PV} (h : LimN N l) {k v : ByteArray} (hv : lookP l k = some v) : v.size ≤ 1000 := (h.each _ (lookP_mem hv)).2
theorem LimN.put {N : Nat} {l : List PV} (h : LimN N l) {k : ByteArray} {v : Option ByteArray} (hk : k.size ≤ 1000) (hv : ∀ u, v = some u → u.size ≤ 1000) : LimN (N + 1) (putP l k v) := by
  cases v with
  | none => exact h.more (Nat.le_succ _)
  | some u => exact h.with_ hk (hv u rfl)
theorem LimN.rest {N : Nat} {l : List PV} (h : LimN N l) (ks : List ByteArray) : LimN N (restP l ks) := by
  unfold restP
  induction ks generalizing l with
  | nil => exact h
  | cons k ks ih => exact ih (h.without k)
theorem LimN.doP {N : Nat} {l : List PV} (h : LimN N l) (m : CM) : LimN (N + 2) (doP l m).1 := by
  cases hm : m.may with
  | false => unfold Go.Proofs.YtfkdlmokigeemaaDoor.doP; rw [if_pos hm]; exact h.more (by omega)
  | true =>
    have hM := CM.may_iff.1 hm
    have hk0 : (keyP m.ks 0).size ≤ 1000 := by have := (hM.each _ (may_key hm)).2; omega
    have hnew : m.new.size ≤ 1000 := by have := hM.new; omega
    rcases may_kinds hm with k | k | k | k | k | k | k | k
    · rw [doP_put hm k rfl]; exact (h.with_ hk0 hnew).more (by omega)
    · cases hl : lookP l (keyP m.ks 0) with
      | none => rw [doP_get0 hm k rfl hl]; exact h.more (by omega)
      | some u => rw [doP_get1 hm k rfl hl]; exact h.more (by omega)
    · cases hl : lookP l (keyP m.ks 0) with
      | none => rw [doP_del0 hm k rfl hl]; exact h.more (by omega)
      | some u => rw [doP_del1 hm k rfl hl]; exact (h.without _).more (by omega)
    · rw [doP_add hm k rfl]
      unfold addP
      cases hs : sumP l (keyP m.ks 0) m.n with
      | none => exact h.more (by omega)
      | some s =>
        refine (h.with_ hk0 ?_).more (by omega)
        have hr : -9223372036854775808 ≤ s ∧ s ≤ 9223372036854775807 := by
          unfold sumP at hs
          split at hs
          · cases hs
          · split at hs
            · rename_i h'
              cases hs; exact h'
            · cases hs
        rw [str_size]
        have := decI_len hr.1 hr.2
        omega
    · cases hl : lookP l (keyP m.ks 0) with
      | none => rw [doP_cas0 hm k rfl hl]; exact h.more (by omega)
      | some u =>
        by_cases ho : u = m.old
        · rw [doP_cas2 hm k rfl hl ho]; exact (h.with_ hk0 hnew).more (by omega)
        · rw [doP_cas1 hm k rfl hl ho]; exact h.more (by omega)
    · rw [doP_swap hm k rfl rfl]
      have hk1 : (keyP m.ks 1).size ≤ 1000 := by have := (hM.each _ (may_key1 hm k)).2; omega
      unfold swapP
      exact (((h.without _).without _).put hk0 (fun u hu => h.look hu)).put hk1 (fun u hu => h.look hu)
    · rw [doP_join hm k]; exact h.more (by omega)
    · rw [doP_clear hm k]; exact (h.rest _).more (by omega)
/-- A state behind commands. -/
noncomputable def runP (l : List PV) (ms : List CM) : List PV := ms.foldl (fun l m => (doP l m).1) l
theorem runP_succ {l : List PV} {ms : List CM} {j : Nat} (h : j < ms.length) : runP l (ms.take (j + 1)) = (doP (runP l (ms.take j)) ms[j]).1 := by
  unfold runP
  rw [List.take_succ_eq_append_getElem h, List.foldl_append]
  rfl
theorem runP_lim (ms : List CM) (j : Nat) : LimN (2 * j) (runP [] (ms.take j)) := by
  induction j with
  | zero => exact LimN.nil
  | succ j ih =>
    by_cases h : j < ms.length
    · rw [runP_succ h]; exact (ih.doP _).more (by omega)
    · have e : ms.take (j + 1) = ms.take j := by rw [List.take_of_length_le (by omega), List.take_of_length_le (by omega)]
      rw [e]; exact ih.more (by omega)
end Go.Proofs.YtfkdlmokigeemaaDoor

-- KvPQ
namespace Go.Proofs.YtfkdlmokigeemaaDoor
open Go.RowKit

/-- What holds ahead of two calls (0), between them (1) and behind (2), and apart from which blocks. -/
structure PQI (I : Nat → (Nat → Prop) → World → Prop) : Prop where
  grow : ∀ {k P W W'}, I k P W → Below W.heap.size W W' → I k P W'
  more : ∀ {k P W} (o : Obj), I k P W → I k (fun b => b = W.heap.size ∨ P b) (W.alloc o)
  set : ∀ {k P W} (b i : Nat) (v : Value), I k P W → P b → I k P (W.setCell ⟨b, i, none⟩ v)
  lt : ∀ {k P W b}, I k P W → P b → b < W.heap.size
  sub : ∀ {k P Q W}, I k P W → (∀ b, Q b → P b) → I k Q W
theorem run_ldK (w : World) (b : Nat) (x : CmdV) (h : ∀ i u, x.cells[i]? = some u → w.cell? ⟨b, i, none⟩ = some u) : (Instr.loadAt 26 (.pointer (some ⟨b, 0, none⟩))).run Tryd.prog w = .ok x.val w := by
  have h0 := h 0 _ rfl
  have h1 := h 1 _ rfl
  have h2 := h 2 _ rfl
  have h3 := h 3 _ rfl
  have h4 := h 4 _ rfl
  have h5 := h 5 _ rfl
  have h6 := h 6 _ rfl
  simp [go_sem, h0, h1, h2, h3, h4, h5, h6, CmdV.val, CmdV.cells]
theorem run_alR (w : World) : (Instr.alloc 33 true (.tuple #[])).run Tryd.prog w = .ok (.pointer (some ⟨w.heap.size, 0, none⟩)) (w.alloc (.cells #[.int .u8 0, .string kE] 33)) := by
  simp [go_sem]
theorem repAt_set {W : World} {q c : Nat} {t : ByteArray} (h : RepAt W q c t) (d : Nat) (u : ByteArray) : RepAt ((W.setCell ⟨q, 0, none⟩ (.int .u8 (d : Int))).setCell ⟨q, 1, none⟩ (.string u)) q d u := blk_set (blk_set h 0 _) 1 _
theorem repAt_lt {W : World} {q c : Nat} {t : ByteArray} (h : RepAt W q c t) : q < W.heap.size := (Array.getElem?_eq_some_iff.1 h).1
theorem repAt_other {W : World} {q x c d : Nat} {t u : ByteArray} (h : RepAt W q c t) (hn : q ≠ x) : RepAt ((W.setCell ⟨x, 0, none⟩ (.int .u8 (d : Int))).setCell ⟨x, 1, none⟩ (.string u)) q c t := (Below.heap_setCell _ _ _ _ hn).trans ((Below.heap_setCell _ _ _ _ hn).trans h)
theorem run_stQ (w : World) (q c : Nat) (t : ByteArray) (h : RepAt w q c t) (r : Nat × ByteArray) :
    (Instr.storeAt 33 (.pointer (some ⟨q, 0, none⟩)) (ReplyV r)).run Tryd.prog w = .ok () ((w.setCell ⟨q, 0, none⟩ (.int .u8 (r.1 : Int))).setCell ⟨q, 1, none⟩ (.string r.2)) := by
  have h' : w.heap[q]? = _ := h
  have c0 : w.cell? ⟨q, 0, none⟩ = some (.int .u8 (c : Int)) := by rw [blk_cell h' 0]; rfl
  have c1 : w.cell? ⟨q, 1, none⟩ = some (.string t) := by rw [blk_cell h' 1]; rfl
  have z0 := blk_frozen h' 0
  have z1 := blk_frozen h' 1
  unfold ReplyV
  simp [go_sem, c0, c1, z0, z1]
theorem beq_no {L : Nat → Bool} {i j : Nat} (h : (j == i) = false) : (L j || j == i) = L j := by rw [h, Bool.or_false]
def stg (L : Nat → Bool) : Nat := if L 5 = true then 2 else if L 2 = true then 1 else 0
theorem stg_same {L : Nat → Bool} {i : Nat} (h5 : ((5 : Nat) == i) = false) (h2 : ((2 : Nat) == i) = false) : stg (fun j => L j || j == i) = stg L := by
  unfold stg
  simp only [beq_no h5, beq_no h2]
/-- An edge that binds. -/
theorem edge_of {o : Oper} {L : Nat → Bool} (hpre : ∀ e ∈ o.after, Region.binds .any e = true → L e.on = true) (j : Nat) (h : hasEdge o j = true) : L j = true := by
  unfold hasEdge at h
  rw [List.any_eq_true] at h
  obtain ⟨e, he, h1⟩ := h
  have h2 : e.on = j ∧ Region.binds .any e = true := by simpa using h1
  rw [← h2.1]
  exact hpre e (by simpa using he) h2.2
theorem not_yet {ops : List Oper} {L : Nat → Bool} (hcl : ∀ j o' e, ops.toArray[j]? = some o' → L j = true → e ∈ o'.after → Region.binds .any e = true → L e.on = true) {o' : Oper} {i j : Nat} (ho : ops.toArray[j]? = some o') (hi : L i = false) (h : hasEdge o' i = true) : L j = false := by
  cases hj : L j with
  | false => rfl
  | true =>
    have := edge_of (fun e he hb => hcl j o' e ho hj he hb) i h
    rw [hi] at this; cases this
def oPqA0 (p : String) : Oper := { dst := some 108, op := Op.move (Operand.tmp 15), type := 30, pos := p, after := #[], guard := none }
def oPqA1 (p : String) : Oper := { dst := some 109, op := Op.load 26 (Operand.tmp 5), type := 26, pos := p, after := #[], guard := none }
def oPqA2 (p : String) : Oper := { dst := some 110, op := Op.call { callee := Callee.value (Operand.func 9), args := #[Operand.tmp 108, Operand.tmp 109], argTypes := #[30, 26] }, type := 33, pos := p, after := #[{ on := 0, ground := Ground.data }, { on := 1, ground := Ground.data }], guard := none }
def oPqA3 (p : String) : Oper := { dst := some 111, op := Op.move (Operand.tmp 16), type := 30, pos := p, after := #[], guard := none }
def oPqA4 (p : String) : Oper := { dst := some 112, op := Op.load 26 (Operand.tmp 5), type := 26, pos := p, after := #[], guard := none }
def oPqA5 (p : String) : Oper := { dst := some 113, op := Op.call { callee := Callee.value (Operand.func 9), args := #[Operand.tmp 111, Operand.tmp 112], argTypes := #[30, 26] }, type := 33, pos := p, after := #[{ on := 3, ground := Ground.data }, { on := 4, ground := Ground.data }, { on := 2, ground := Ground.chain }], guard := none }
def oPqA6 (p : String) : Oper := { dst := some 19, op := Op.alloc 33, type := 0, pos := p, after := #[], guard := none }
def oPqA7 (p : String) : Oper := { dst := some 20, op := Op.alloc 33, type := 0, pos := p, after := #[], guard := none }
def oPqA8 (p : String) : Oper := { dst := none, op := Op.store 33 (Operand.tmp 19) (Operand.tmp 110), type := 0, pos := p, after := #[{ on := 6, ground := Ground.data }, { on := 2, ground := Ground.data }, { on := 5, ground := Ground.chain }, { on := 0, ground := Ground.phase }, { on := 1, ground := Ground.phase }, { on := 2, ground := Ground.phase }, { on := 3, ground := Ground.textOnly Departure.lateStores }, { on := 4, ground := Ground.textOnly Departure.lateStores }, { on := 5, ground := Ground.textOnly Departure.lateStoresUnsure }, { on := 6, ground := Ground.phase }, { on := 7, ground := Ground.phase }], guard := none }
def oPqA9 (p : String) : Oper := { dst := none, op := Op.store 33 (Operand.tmp 20) (Operand.tmp 113), type := 0, pos := p, after := #[{ on := 7, ground := Ground.data }, { on := 5, ground := Ground.data }, { on := 8, ground := Ground.chain }, { on := 0, ground := Ground.phase }, { on := 1, ground := Ground.phase }, { on := 2, ground := Ground.phase }, { on := 3, ground := Ground.phase }, { on := 4, ground := Ground.phase }, { on := 5, ground := Ground.phase }, { on := 6, ground := Ground.phase }, { on := 7, ground := Ground.phase }, { on := 8, ground := Ground.phase }], guard := none }
def opsPqA (p : String) : List Oper := [oPqA0 p, oPqA1 p, oPqA2 p, oPqA3 p, oPqA4 p, oPqA5 p, oPqA6 p, oPqA7 p, oPqA8 p, oPqA9 p]
theorem opsPqA_back (p : String) : backwards (opsPqA p) = true := by kernel_rfl
/-- How far it is. -/
structure InvPqA (I : Nat → (Nat → Prop) → World → Prop) (R1 R2 : Nat) (v1 v2 : CmdV) (r1 r2 : Nat × ByteArray) (a : Act) (p : String) (L : Nat → Bool) (a' : Act) (w' : World) : Prop where
  frm : Frm (opsPqA p) a a'
  f0 : L 0 = true → a'.tmps.getD 108 undef = .pointer (some ⟨R1, 0, none⟩)
  f1 : L 1 = true → a'.tmps.getD 109 undef = v1.val
  f2 : L 2 = true → a'.tmps.getD 110 undef = ReplyV r1
  f3 : L 3 = true → a'.tmps.getD 111 undef = .pointer (some ⟨R2, 0, none⟩)
  f4 : L 4 = true → a'.tmps.getD 112 undef = v2.val
  f5 : L 5 = true → a'.tmps.getD 113 undef = ReplyV r2
  ex : ∃ x y, (L 6 = true → a'.tmps.getD 19 undef = .pointer (some ⟨x, 0, none⟩)) ∧ (L 7 = true → a'.tmps.getD 20 undef = .pointer (some ⟨y, 0, none⟩)) ∧ (L 6 = true → L 7 = true → x ≠ y) ∧ I (stg L) (fun b => (L 6 = true ∧ b = x) ∨ (L 7 = true ∧ b = y)) w' ∧
    (L 6 = true → RepAt w' x (if L 8 = true then r1.1 else 0) (if L 8 = true then r1.2 else kE)) ∧ (L 7 = true → RepAt w' y (if L 9 = true then r2.1 else 0) (if L 9 = true then r2.2 else kE))
set_option maxRecDepth 100000 in
set_option maxHeartbeats 4000000 in
theorem pqa_region {p : String} (I : Nat → (Nat → Prop) → World → Prop) (hI : PQI I) (R1 R2 : Nat) (v1 v2 : CmdV) (p1 p2 : Nat) (r1 r2 : Nat × ByteArray) (a : Act) (w : World) (Q : Exit → Act → World → Prop) (hN : a.tmps.size = 188)
    (hs1 : a.tmps.getD 15 undef = .pointer (some ⟨R1, 0, none⟩)) (hs2 : a.tmps.getD 16 undef = .pointer (some ⟨R2, 0, none⟩)) (hb1 : a.tmps.getD 5 undef = .pointer (some ⟨p1, 0, none⟩)) (hb2 : a.tmps.getD 5 undef = .pointer (some ⟨p2, 0, none⟩)) (h0 : I 0 (fun _ => False) w)
    (hl1 : ∀ k P W, I k P W → ∀ i u, v1.cells[i]? = some u → W.cell? ⟨p1, i, none⟩ = some u) (hl2 : ∀ k P W, I k P W → ∀ i u, v2.cells[i]? = some u → W.cell? ⟨p2, i, none⟩ = some u)
    (hc1 : ∀ P W, I 0 P W → Calls Tryd.prog 9 #[.pointer (some ⟨R1, 0, none⟩), v1.val] W fun e W' => e = .returned (ReplyV r1) ∧ I 1 P W' ∧ Still P W W')
    (hc2 : ∀ P W, I 1 P W → Calls Tryd.prog 9 #[.pointer (some ⟨R2, 0, none⟩), v2.val] W fun e W' => e = .returned (ReplyV r2) ∧ I 2 P W' ∧ Still P W W')
    (hQ : ∀ x y w', x ≠ y → I 2 (fun b => b = x ∨ b = y) w' → RepAt w' x r1.1 r1.2 → RepAt w' y r2.1 r2.2 → Q .normal (puts [(108, .pointer (some ⟨R1, 0, none⟩)), (109, v1.val), (110, ReplyV r1), (111, .pointer (some ⟨R2, 0, none⟩)), (112, v2.val), (113, ReplyV r2), (19, .pointer (some ⟨x, 0, none⟩)), (20, .pointer (some ⟨y, 0, none⟩))] a) w') :
    (Code.region 21 (opsPqA p).toArray true).wp Tryd.prog Q a w := by
  refine (wpIn_wide (n := 1)).1 (wpIn_region_by follows (opsPqA_back p) (InvPqA I R1 R2 v1 v2 r1 r2 a p) ?_ ?_ ?_)
  · exact ⟨⟨rfl, rfl, fun _ _ => rfl⟩, fun h => (by cases h), fun h => (by cases h), fun h => (by cases h), fun h => (by cases h), fun h => (by cases h), fun h => (by cases h), 0, 0, fun h => (by cases h), fun h => (by cases h), fun h => (by cases h), hI.sub (hI.grow h0 (Below.refl _ w).drew) (fun b hb => by rcases hb with ⟨h, _⟩ | ⟨h, _⟩ <;> cases h), fun h => (by cases h), fun h => (by cases h)⟩
  · intro L a' w' i o hv ho hLi hpre hcl
    obtain ⟨hF, f0, f1, f2, f3, f4, f5, x, y, fx, fy, hxy, hst, hrx, hry⟩ := hv
    have hsz : a'.tmps.size = 188 := hF.size.trans hN
    have frm' : ∀ (d : Nat) (v : Value), o.dst = some d → Frm (opsPqA p) a (a'.put (some d) v) := fun d v hd => ⟨size_put.trans hF.size, defers_put.trans hF.defers, fun s hs => by
      have hm : o ∈ opsPqA p := by simpa using List.mem_of_getElem? (by simpa using ho)
      rw [getD_put_ne (fun e => hs o hm (by rw [hd, e]))]
      exact hF.old s hs⟩
    rcases i with _ | _ | _ | _ | _ | _ | _ | _ | _ | _ | i
    · obtain rfl : oPqA0 p = o := Option.some.inj ho
      have hx : a'.eval (.tmp 15) = .pointer (some ⟨R1, 0, none⟩) := (hF.at 15 rfl hs1)
      exact step_move rfl rfl rfl hx ⟨frm' 108 _ rfl, fun _ => getD_put_same (by rw [hsz]; omega), fun h => (getD_put_ne (by decide)).trans (f1 (by simpa using h)), fun h => (getD_put_ne (by decide)).trans (f2 (by simpa using h)), fun h => (getD_put_ne (by decide)).trans (f3 (by simpa using h)), fun h => (getD_put_ne (by decide)).trans (f4 (by simpa using h)), fun h => (getD_put_ne (by decide)).trans (f5 (by simpa using h)), x, y, fun h => (getD_put_ne (by decide)).trans (fx (by simpa using h)), fun h => (getD_put_ne (by decide)).trans (fy (by simpa using h)), fun h k => hxy (by simpa using h) (by simpa using k), (stg_same (L := L) (i := 0) rfl rfl) ▸ (hI.sub hst (fun b hb => by simpa using hb)), fun h => by simpa using hrx (by simpa using h), fun h => by simpa using hry (by simpa using h)⟩
    · obtain rfl : oPqA1 p = o := Option.some.inj ho
      have hx : a'.eval (.tmp 5) = .pointer (some ⟨p1, 0, none⟩) := (hF.at 5 rfl hb1)
      exact step_load rfl rfl rfl hx (run_ldK w' p1 v1 (hl1 _ _ _ hst)) ⟨frm' 109 _ rfl, fun h => (getD_put_ne (by decide)).trans (f0 (by simpa using h)), fun _ => getD_put_same (by rw [hsz]; omega), fun h => (getD_put_ne (by decide)).trans (f2 (by simpa using h)), fun h => (getD_put_ne (by decide)).trans (f3 (by simpa using h)), fun h => (getD_put_ne (by decide)).trans (f4 (by simpa using h)), fun h => (getD_put_ne (by decide)).trans (f5 (by simpa using h)), x, y, fun h => (getD_put_ne (by decide)).trans (fx (by simpa using h)), fun h => (getD_put_ne (by decide)).trans (fy (by simpa using h)), fun h k => hxy (by simpa using h) (by simpa using k), (stg_same (L := L) (i := 1) rfl rfl) ▸ (hI.sub hst (fun b hb => by simpa using hb)), fun h => by simpa using hrx (by simpa using h), fun h => by simpa using hry (by simpa using h)⟩
    · obtain rfl : oPqA2 p = o := Option.some.inj ho
      have e0 : L 0 = true := edge_of (o := oPqA2 p) hpre 0 rfl
      have e1 : L 1 = true := edge_of (o := oPqA2 p) hpre 1 rfl
      have h5 : L 5 = false := not_yet hcl (o' := oPqA5 p) (j := 5) rfl hLi rfl
      have hs0 : stg L = 0 := by unfold stg; simp [h5, hLi]
      rw [hs0] at hst
      refine step_callD rfl rfl rfl (enters_of Tryd.func9 (by kernel_rfl) rfl) (show Array.map a'.eval #[.tmp 108, .tmp 109] = _ from by simp only [List.map_toArray, List.map_cons, List.map_nil, Act.eval, f0 e0, f1 e1]) ((hc1 _ _ hst).mono ?_)
      rintro e w'' ⟨rfl, hI1, hS⟩
      have hs1' : stg (fun j => L j || j == 2) = 1 := by unfold stg; simp [h5]
      exact ⟨_, rfl, ⟨frm' 110 _ rfl, fun h => (getD_put_ne (by decide)).trans (f0 (by simpa using h)), fun h => (getD_put_ne (by decide)).trans (f1 (by simpa using h)), fun _ => getD_put_same (by rw [hsz]; omega), fun h => (getD_put_ne (by decide)).trans (f3 (by simpa using h)), fun h => (getD_put_ne (by decide)).trans (f4 (by simpa using h)), fun h => (getD_put_ne (by decide)).trans (f5 (by simpa using h)), x, y, fun h => (getD_put_ne (by decide)).trans (fx (by simpa using h)), fun h => (getD_put_ne (by decide)).trans (fy (by simpa using h)), fun h k => hxy (by simpa using h) (by simpa using k), (by rw [hs1']; exact hI.sub hI1 (fun b hb => by simpa using hb)), fun h => by simpa using rep_keep (hrx (by simpa using h)) (hS _ (.inl ⟨by simpa using h, rfl⟩)), fun h => by simpa using rep_keep (hry (by simpa using h)) (hS _ (.inr ⟨by simpa using h, rfl⟩))⟩⟩
    · obtain rfl : oPqA3 p = o := Option.some.inj ho
      have hx : a'.eval (.tmp 16) = .pointer (some ⟨R2, 0, none⟩) := (hF.at 16 rfl hs2)
      exact step_move rfl rfl rfl hx ⟨frm' 111 _ rfl, fun h => (getD_put_ne (by decide)).trans (f0 (by simpa using h)), fun h => (getD_put_ne (by decide)).trans (f1 (by simpa using h)), fun h => (getD_put_ne (by decide)).trans (f2 (by simpa using h)), fun _ => getD_put_same (by rw [hsz]; omega), fun h => (getD_put_ne (by decide)).trans (f4 (by simpa using h)), fun h => (getD_put_ne (by decide)).trans (f5 (by simpa using h)), x, y, fun h => (getD_put_ne (by decide)).trans (fx (by simpa using h)), fun h => (getD_put_ne (by decide)).trans (fy (by simpa using h)), fun h k => hxy (by simpa using h) (by simpa using k), (stg_same (L := L) (i := 3) rfl rfl) ▸ (hI.sub hst (fun b hb => by simpa using hb)), fun h => by simpa using hrx (by simpa using h), fun h => by simpa using hry (by simpa using h)⟩
    · obtain rfl : oPqA4 p = o := Option.some.inj ho
      have hx : a'.eval (.tmp 5) = .pointer (some ⟨p2, 0, none⟩) := (hF.at 5 rfl hb2)
      exact step_load rfl rfl rfl hx (run_ldK w' p2 v2 (hl2 _ _ _ hst)) ⟨frm' 112 _ rfl, fun h => (getD_put_ne (by decide)).trans (f0 (by simpa using h)), fun h => (getD_put_ne (by decide)).trans (f1 (by simpa using h)), fun h => (getD_put_ne (by decide)).trans (f2 (by simpa using h)), fun h => (getD_put_ne (by decide)).trans (f3 (by simpa using h)), fun _ => getD_put_same (by rw [hsz]; omega), fun h => (getD_put_ne (by decide)).trans (f5 (by simpa using h)), x, y, fun h => (getD_put_ne (by decide)).trans (fx (by simpa using h)), fun h => (getD_put_ne (by decide)).trans (fy (by simpa using h)), fun h k => hxy (by simpa using h) (by simpa using k), (stg_same (L := L) (i := 4) rfl rfl) ▸ (hI.sub hst (fun b hb => by simpa using hb)), fun h => by simpa using hrx (by simpa using h), fun h => by simpa using hry (by simpa using h)⟩
    · obtain rfl : oPqA5 p = o := Option.some.inj ho
      have e3 : L 3 = true := edge_of (o := oPqA5 p) hpre 3 rfl
      have e4 : L 4 = true := edge_of (o := oPqA5 p) hpre 4 rfl
      have e2 : L 2 = true := edge_of (o := oPqA5 p) hpre 2 rfl
      have hs0 : stg L = 1 := by unfold stg; simp [hLi, e2]
      rw [hs0] at hst
      refine step_callD rfl rfl rfl (enters_of Tryd.func9 (by kernel_rfl) rfl) (show Array.map a'.eval #[.tmp 111, .tmp 112] = _ from by simp only [List.map_toArray, List.map_cons, List.map_nil, Act.eval, f3 e3, f4 e4]) ((hc2 _ _ hst).mono ?_)
      rintro e w'' ⟨rfl, hI1, hS⟩
      have hs1' : stg (fun j => L j || j == 5) = 2 := by unfold stg; simp
      exact ⟨_, rfl, ⟨frm' 113 _ rfl, fun h => (getD_put_ne (by decide)).trans (f0 (by simpa using h)), fun h => (getD_put_ne (by decide)).trans (f1 (by simpa using h)), fun h => (getD_put_ne (by decide)).trans (f2 (by simpa using h)), fun h => (getD_put_ne (by decide)).trans (f3 (by simpa using h)), fun h => (getD_put_ne (by decide)).trans (f4 (by simpa using h)), fun _ => getD_put_same (by rw [hsz]; omega), x, y, fun h => (getD_put_ne (by decide)).trans (fx (by simpa using h)), fun h => (getD_put_ne (by decide)).trans (fy (by simpa using h)), fun h k => hxy (by simpa using h) (by simpa using k), (by rw [hs1']; exact hI.sub hI1 (fun b hb => by simpa using hb)), fun h => by simpa using rep_keep (hrx (by simpa using h)) (hS _ (.inl ⟨by simpa using h, rfl⟩)), fun h => by simpa using rep_keep (hry (by simpa using h)) (hS _ (.inr ⟨by simpa using h, rfl⟩))⟩⟩
    · obtain rfl : oPqA6 p = o := Option.some.inj ho
      have h8 : L 8 = false := not_yet hcl (o' := oPqA8 p) (j := 8) rfl hLi rfl
      have hal : (execOp a'.eval (oPqA6 p)).run Tryd.prog w' = .ok (.value (.pointer (some ⟨w'.heap.size, 0, none⟩))) (w'.alloc (.cells #[.int .u8 0, .string kE] 33)) := by simp [execOp, oPqA6, run_alR]
      refine step_run (o := oPqA6 p) rfl rfl (by intro c h; cases h) (by simp [Oper.about, oPqA6]) hal ?_
      have hmo := hI.more (.cells #[.int .u8 0, .string kE] 33) hst
      have hoth : L 7 = true → y < w'.heap.size := fun h => hI.lt hst (.inr ⟨h, rfl⟩)
      refine ⟨frm' 19 _ rfl, fun h => (getD_put_ne (by decide)).trans (f0 (by simpa using h)), fun h => (getD_put_ne (by decide)).trans (f1 (by simpa using h)), fun h => (getD_put_ne (by decide)).trans (f2 (by simpa using h)), fun h => (getD_put_ne (by decide)).trans (f3 (by simpa using h)), fun h => (getD_put_ne (by decide)).trans (f4 (by simpa using h)), fun h => (getD_put_ne (by decide)).trans (f5 (by simpa using h)), w'.heap.size, y, fun _ => getD_put_same (by rw [hsz]; omega), fun h => (getD_put_ne (by decide)).trans (fy (by simpa using h)), fun _ k => Ne.symm (Nat.ne_of_lt (hoth (by simpa using k))), (stg_same (L := L) (i := 6) rfl rfl) ▸ (hI.sub hmo (fun b hb => ?_)), fun _ => ?_, fun h => ?_⟩
      · rcases hb with ⟨_, h⟩ | ⟨h, k⟩
        · exact .inl h
        · exact .inr (.inr ⟨by simpa using h, k⟩)
      · have h8' : (L 8 || (8 : Nat) == 6) = false := by simp [h8]
        simp only [h8']
        exact World.alloc_heap_new w' _
      · have h := rep_keep (hry (by simpa using h)) (Below.heap_alloc w' (.cells #[.int .u8 0, .string kE] 33) _ (hoth (by simpa using h)))
        simpa using h
    · obtain rfl : oPqA7 p = o := Option.some.inj ho
      have h8 : L 9 = false := not_yet hcl (o' := oPqA9 p) (j := 9) rfl hLi rfl
      have hal : (execOp a'.eval (oPqA7 p)).run Tryd.prog w' = .ok (.value (.pointer (some ⟨w'.heap.size, 0, none⟩))) (w'.alloc (.cells #[.int .u8 0, .string kE] 33)) := by simp [execOp, oPqA7, run_alR]
      refine step_run (o := oPqA7 p) rfl rfl (by intro c h; cases h) (by simp [Oper.about, oPqA7]) hal ?_
      have hmo := hI.more (.cells #[.int .u8 0, .string kE] 33) hst
      have hoth : L 6 = true → x < w'.heap.size := fun h => hI.lt hst (.inl ⟨h, rfl⟩)
      refine ⟨frm' 20 _ rfl, fun h => (getD_put_ne (by decide)).trans (f0 (by simpa using h)), fun h => (getD_put_ne (by decide)).trans (f1 (by simpa using h)), fun h => (getD_put_ne (by decide)).trans (f2 (by simpa using h)), fun h => (getD_put_ne (by decide)).trans (f3 (by simpa using h)), fun h => (getD_put_ne (by decide)).trans (f4 (by simpa using h)), fun h => (getD_put_ne (by decide)).trans (f5 (by simpa using h)), x, w'.heap.size, fun h => (getD_put_ne (by decide)).trans (fx (by simpa using h)), fun _ => getD_put_same (by rw [hsz]; omega), fun h _ => Nat.ne_of_lt (hoth (by simpa using h)), (stg_same (L := L) (i := 7) rfl rfl) ▸ (hI.sub hmo (fun b hb => ?_)), fun h => ?_, fun _ => ?_⟩
      · rcases hb with ⟨h, k⟩ | ⟨_, h⟩
        · exact .inr (.inl ⟨by simpa using h, k⟩)
        · exact .inl h
      · have h := rep_keep (hrx (by simpa using h)) (Below.heap_alloc w' (.cells #[.int .u8 0, .string kE] 33) _ (hoth (by simpa using h)))
        simpa using h
      · have h8' : (L 9 || (9 : Nat) == 7) = false := by simp [h8]
        simp only [h8']
        exact World.alloc_heap_new w' _
    · obtain rfl : oPqA8 p = o := Option.some.inj ho
      have ea : L 6 = true := edge_of (o := oPqA8 p) hpre 6 rfl
      have ec : L 2 = true := edge_of (o := oPqA8 p) hpre 2 rfl
      have hre := hrx ea
      have hx1 : a'.eval (.tmp 19) = .pointer (some ⟨x, 0, none⟩) := fx ea
      have hx2 : a'.eval (.tmp 110) = ReplyV r1 := f2 ec
      have hst' := run_stQ w' x _ _ hre r1
      refine step_skip (o := oPqA8 p) rfl rfl (by intro c h; cases h) (by simp [Oper.about, oPqA8]) (w' := (w'.setCell ⟨x, 0, none⟩ (.int .u8 (r1.1 : Int))).setCell ⟨x, 1, none⟩ (.string r1.2)) (by
        unfold execOp
        simp only [oPqA8, hx1, hx2, Sem.run_bind, hst', Result.andThen_ok]
        rfl) ?_
      have hme : (L 6 = true ∧ x = x) ∨ (L 7 = true ∧ x = y) := .inl ⟨ea, rfl⟩
      have hset := hI.set x 1 (.string r1.2) (hI.set x 0 (.int .u8 (r1.1 : Int)) hst hme) hme
      refine ⟨hF, fun h => f0 (by simpa using h), fun h => f1 (by simpa using h), fun h => f2 (by simpa using h), fun h => f3 (by simpa using h), fun h => f4 (by simpa using h), fun h => f5 (by simpa using h), x, y, fun h => fx (by simpa using h), fun h => fy (by simpa using h), fun h k => hxy (by simpa using h) (by simpa using k), (stg_same (L := L) (i := 8) rfl rfl) ▸ (hI.sub hset (fun b hb => by simpa using hb)), fun _ => ?_, fun h => ?_⟩
      · simp only [beq_self_eq_true, Bool.or_true, if_true]
        exact repAt_set hre r1.1 r1.2
      · have h' : L 7 = true := by simpa using h
        have := repAt_other (d := r1.1) (u := r1.2) (hry h') (Ne.symm (hxy ea h'))
        simpa using this
    · obtain rfl : oPqA9 p = o := Option.some.inj ho
      have ea : L 7 = true := edge_of (o := oPqA9 p) hpre 7 rfl
      have ec : L 5 = true := edge_of (o := oPqA9 p) hpre 5 rfl
      have hre := hry ea
      have hx1 : a'.eval (.tmp 20) = .pointer (some ⟨y, 0, none⟩) := fy ea
      have hx2 : a'.eval (.tmp 113) = ReplyV r2 := f5 ec
      have hst' := run_stQ w' y _ _ hre r2
      refine step_skip (o := oPqA9 p) rfl rfl (by intro c h; cases h) (by simp [Oper.about, oPqA9]) (w' := (w'.setCell ⟨y, 0, none⟩ (.int .u8 (r2.1 : Int))).setCell ⟨y, 1, none⟩ (.string r2.2)) (by
        unfold execOp
        simp only [oPqA9, hx1, hx2, Sem.run_bind, hst', Result.andThen_ok]
        rfl) ?_
      have hme : (L 6 = true ∧ y = x) ∨ (L 7 = true ∧ y = y) := .inr ⟨ea, rfl⟩
      have hset := hI.set y 1 (.string r2.2) (hI.set y 0 (.int .u8 (r2.1 : Int)) hst hme) hme
      refine ⟨hF, fun h => f0 (by simpa using h), fun h => f1 (by simpa using h), fun h => f2 (by simpa using h), fun h => f3 (by simpa using h), fun h => f4 (by simpa using h), fun h => f5 (by simpa using h), x, y, fun h => fx (by simpa using h), fun h => fy (by simpa using h), fun h k => hxy (by simpa using h) (by simpa using k), (stg_same (L := L) (i := 9) rfl rfl) ▸ (hI.sub hset (fun b hb => by simpa using hb)), fun h => ?_, fun _ => ?_⟩
      · have h' : L 6 = true := by simpa using h
        have := repAt_other (d := r2.1) (u := r2.2) (hrx h') (hxy h' ea)
        simpa using this
      · simp only [beq_self_eq_true, Bool.or_true, if_true]
        exact repAt_set hre r2.1 r2.2
    · exact absurd ((Array.getElem?_eq_some_iff.1 ho).1) (by simp [opsPqA])
  · intro L a' w' hv hall
    have hL : ∀ j, j < 10 → L j = true := fun j hj => hall j (by simpa [opsPqA] using hj)
    obtain ⟨hF, f0, f1, f2, f3, f4, f5, x, y, fx, fy, hxy, hst, hrx, hry⟩ := hv
    have hs2 : stg L = 2 := by unfold stg; rw [if_pos (hL 5 (by omega))]
    rw [hs2] at hst
    have h := hQ x y w' (hxy (hL 6 (by omega)) (hL 7 (by omega))) (hI.sub hst (fun b hb => hb.imp (fun e => ⟨hL 6 (by omega), e⟩) (fun e => ⟨hL 7 (by omega), e⟩))) (by simpa [hL 8 (by omega)] using hrx (hL 6 (by omega))) (by simpa [hL 9 (by omega)] using hry (hL 7 (by omega)))
    have hput : a' = puts [(108, .pointer (some ⟨R1, 0, none⟩)), (109, v1.val), (110, ReplyV r1), (111, .pointer (some ⟨R2, 0, none⟩)), (112, v2.val), (113, ReplyV r2), (19, .pointer (some ⟨x, 0, none⟩)), (20, .pointer (some ⟨y, 0, none⟩))] a := hF.puts _ (by
      intro z hz
      simp only [List.mem_cons, List.not_mem_nil, or_false] at hz
      rcases hz with rfl | rfl | rfl | rfl | rfl | rfl | rfl | rfl
      · exact f0 (hL 0 (by omega))
      · exact f1 (hL 1 (by omega))
      · exact f2 (hL 2 (by omega))
      · exact f3 (hL 3 (by omega))
      · exact f4 (hL 4 (by omega))
      · exact f5 (hL 5 (by omega))
      · exact fx (hL 6 (by omega))
      · exact fy (hL 7 (by omega))) rfl (by rw [hN]; rfl)
    rw [hput]
    exact h
def oPqB0 (p : String) : Oper := { dst := some 160, op := Op.move (Operand.tmp 26), type := 30, pos := p, after := #[], guard := none }
def oPqB1 (p : String) : Oper := { dst := some 161, op := Op.load 26 (Operand.tmp 5), type := 26, pos := p, after := #[], guard := none }
def oPqB2 (p : String) : Oper := { dst := some 162, op := Op.call { callee := Callee.value (Operand.func 9), args := #[Operand.tmp 160, Operand.tmp 161], argTypes := #[30, 26] }, type := 33, pos := p, after := #[{ on := 0, ground := Ground.data }, { on := 1, ground := Ground.data }], guard := none }
def oPqB3 (p : String) : Oper := { dst := some 163, op := Op.move (Operand.tmp 26), type := 30, pos := p, after := #[], guard := none }
def oPqB4 (p : String) : Oper := { dst := some 164, op := Op.load 26 (Operand.tmp 6), type := 26, pos := p, after := #[], guard := none }
def oPqB5 (p : String) : Oper := { dst := some 165, op := Op.call { callee := Callee.value (Operand.func 9), args := #[Operand.tmp 163, Operand.tmp 164], argTypes := #[30, 26] }, type := 33, pos := p, after := #[{ on := 3, ground := Ground.data }, { on := 4, ground := Ground.data }, { on := 2, ground := Ground.chain }], guard := none }
def oPqB6 (p : String) : Oper := { dst := some 28, op := Op.alloc 33, type := 0, pos := p, after := #[], guard := none }
def oPqB7 (p : String) : Oper := { dst := some 29, op := Op.alloc 33, type := 0, pos := p, after := #[], guard := none }
def oPqB8 (p : String) : Oper := { dst := none, op := Op.store 33 (Operand.tmp 28) (Operand.tmp 162), type := 0, pos := p, after := #[{ on := 6, ground := Ground.data }, { on := 2, ground := Ground.data }, { on := 5, ground := Ground.chain }, { on := 0, ground := Ground.phase }, { on := 1, ground := Ground.phase }, { on := 2, ground := Ground.phase }, { on := 3, ground := Ground.textOnly Departure.lateStores }, { on := 4, ground := Ground.textOnly Departure.lateStores }, { on := 5, ground := Ground.textOnly Departure.lateStoresUnsure }, { on := 6, ground := Ground.phase }, { on := 7, ground := Ground.phase }], guard := none }
def oPqB9 (p : String) : Oper := { dst := none, op := Op.store 33 (Operand.tmp 29) (Operand.tmp 165), type := 0, pos := p, after := #[{ on := 7, ground := Ground.data }, { on := 5, ground := Ground.data }, { on := 8, ground := Ground.chain }, { on := 0, ground := Ground.phase }, { on := 1, ground := Ground.phase }, { on := 2, ground := Ground.phase }, { on := 3, ground := Ground.phase }, { on := 4, ground := Ground.phase }, { on := 5, ground := Ground.phase }, { on := 6, ground := Ground.phase }, { on := 7, ground := Ground.phase }, { on := 8, ground := Ground.phase }], guard := none }
def opsPqB (p : String) : List Oper := [oPqB0 p, oPqB1 p, oPqB2 p, oPqB3 p, oPqB4 p, oPqB5 p, oPqB6 p, oPqB7 p, oPqB8 p, oPqB9 p]
theorem opsPqB_back (p : String) : backwards (opsPqB p) = true := by kernel_rfl
/-- How far it is. -/
structure InvPqB (I : Nat → (Nat → Prop) → World → Prop) (R1 R2 : Nat) (v1 v2 : CmdV) (r1 r2 : Nat × ByteArray) (a : Act) (p : String) (L : Nat → Bool) (a' : Act) (w' : World) : Prop where
  frm : Frm (opsPqB p) a a'
  f0 : L 0 = true → a'.tmps.getD 160 undef = .pointer (some ⟨R1, 0, none⟩)
  f1 : L 1 = true → a'.tmps.getD 161 undef = v1.val
  f2 : L 2 = true → a'.tmps.getD 162 undef = ReplyV r1
  f3 : L 3 = true → a'.tmps.getD 163 undef = .pointer (some ⟨R2, 0, none⟩)
  f4 : L 4 = true → a'.tmps.getD 164 undef = v2.val
  f5 : L 5 = true → a'.tmps.getD 165 undef = ReplyV r2
  ex : ∃ x y, (L 6 = true → a'.tmps.getD 28 undef = .pointer (some ⟨x, 0, none⟩)) ∧ (L 7 = true → a'.tmps.getD 29 undef = .pointer (some ⟨y, 0, none⟩)) ∧ (L 6 = true → L 7 = true → x ≠ y) ∧ I (stg L) (fun b => (L 6 = true ∧ b = x) ∨ (L 7 = true ∧ b = y)) w' ∧
    (L 6 = true → RepAt w' x (if L 8 = true then r1.1 else 0) (if L 8 = true then r1.2 else kE)) ∧ (L 7 = true → RepAt w' y (if L 9 = true then r2.1 else 0) (if L 9 = true then r2.2 else kE))
set_option maxRecDepth 100000 in
set_option maxHeartbeats 4000000 in
theorem pqb_region {p : String} (I : Nat → (Nat → Prop) → World → Prop) (hI : PQI I) (R1 R2 : Nat) (v1 v2 : CmdV) (p1 p2 : Nat) (r1 r2 : Nat × ByteArray) (a : Act) (w : World) (Q : Exit → Act → World → Prop) (hN : a.tmps.size = 188)
    (hs1 : a.tmps.getD 26 undef = .pointer (some ⟨R1, 0, none⟩)) (hs2 : a.tmps.getD 26 undef = .pointer (some ⟨R2, 0, none⟩)) (hb1 : a.tmps.getD 5 undef = .pointer (some ⟨p1, 0, none⟩)) (hb2 : a.tmps.getD 6 undef = .pointer (some ⟨p2, 0, none⟩)) (h0 : I 0 (fun _ => False) w)
    (hl1 : ∀ k P W, I k P W → ∀ i u, v1.cells[i]? = some u → W.cell? ⟨p1, i, none⟩ = some u) (hl2 : ∀ k P W, I k P W → ∀ i u, v2.cells[i]? = some u → W.cell? ⟨p2, i, none⟩ = some u)
    (hc1 : ∀ P W, I 0 P W → Calls Tryd.prog 9 #[.pointer (some ⟨R1, 0, none⟩), v1.val] W fun e W' => e = .returned (ReplyV r1) ∧ I 1 P W' ∧ Still P W W')
    (hc2 : ∀ P W, I 1 P W → Calls Tryd.prog 9 #[.pointer (some ⟨R2, 0, none⟩), v2.val] W fun e W' => e = .returned (ReplyV r2) ∧ I 2 P W' ∧ Still P W W')
    (hQ : ∀ x y w', x ≠ y → I 2 (fun b => b = x ∨ b = y) w' → RepAt w' x r1.1 r1.2 → RepAt w' y r2.1 r2.2 → Q .normal (puts [(160, .pointer (some ⟨R1, 0, none⟩)), (161, v1.val), (162, ReplyV r1), (163, .pointer (some ⟨R2, 0, none⟩)), (164, v2.val), (165, ReplyV r2), (28, .pointer (some ⟨x, 0, none⟩)), (29, .pointer (some ⟨y, 0, none⟩))] a) w') :
    (Code.region 32 (opsPqB p).toArray true).wp Tryd.prog Q a w := by
  refine (wpIn_wide (n := 1)).1 (wpIn_region_by follows (opsPqB_back p) (InvPqB I R1 R2 v1 v2 r1 r2 a p) ?_ ?_ ?_)
  · exact ⟨⟨rfl, rfl, fun _ _ => rfl⟩, fun h => (by cases h), fun h => (by cases h), fun h => (by cases h), fun h => (by cases h), fun h => (by cases h), fun h => (by cases h), 0, 0, fun h => (by cases h), fun h => (by cases h), fun h => (by cases h), hI.sub (hI.grow h0 (Below.refl _ w).drew) (fun b hb => by rcases hb with ⟨h, _⟩ | ⟨h, _⟩ <;> cases h), fun h => (by cases h), fun h => (by cases h)⟩
  · intro L a' w' i o hv ho hLi hpre hcl
    obtain ⟨hF, f0, f1, f2, f3, f4, f5, x, y, fx, fy, hxy, hst, hrx, hry⟩ := hv
    have hsz : a'.tmps.size = 188 := hF.size.trans hN
    have frm' : ∀ (d : Nat) (v : Value), o.dst = some d → Frm (opsPqB p) a (a'.put (some d) v) := fun d v hd => ⟨size_put.trans hF.size, defers_put.trans hF.defers, fun s hs => by
      have hm : o ∈ opsPqB p := by simpa using List.mem_of_getElem? (by simpa using ho)
      rw [getD_put_ne (fun e => hs o hm (by rw [hd, e]))]
      exact hF.old s hs⟩
    rcases i with _ | _ | _ | _ | _ | _ | _ | _ | _ | _ | i
    · obtain rfl : oPqB0 p = o := Option.some.inj ho
      have hx : a'.eval (.tmp 26) = .pointer (some ⟨R1, 0, none⟩) := (hF.at 26 rfl hs1)
      exact step_move rfl rfl rfl hx ⟨frm' 160 _ rfl, fun _ => getD_put_same (by rw [hsz]; omega), fun h => (getD_put_ne (by decide)).trans (f1 (by simpa using h)), fun h => (getD_put_ne (by decide)).trans (f2 (by simpa using h)), fun h => (getD_put_ne (by decide)).trans (f3 (by simpa using h)), fun h => (getD_put_ne (by decide)).trans (f4 (by simpa using h)), fun h => (getD_put_ne (by decide)).trans (f5 (by simpa using h)), x, y, fun h => (getD_put_ne (by decide)).trans (fx (by simpa using h)), fun h => (getD_put_ne (by decide)).trans (fy (by simpa using h)), fun h k => hxy (by simpa using h) (by simpa using k), (stg_same (L := L) (i := 0) rfl rfl) ▸ (hI.sub hst (fun b hb => by simpa using hb)), fun h => by simpa using hrx (by simpa using h), fun h => by simpa using hry (by simpa using h)⟩
    · obtain rfl : oPqB1 p = o := Option.some.inj ho
      have hx : a'.eval (.tmp 5) = .pointer (some ⟨p1, 0, none⟩) := (hF.at 5 rfl hb1)
      exact step_load rfl rfl rfl hx (run_ldK w' p1 v1 (hl1 _ _ _ hst)) ⟨frm' 161 _ rfl, fun h => (getD_put_ne (by decide)).trans (f0 (by simpa using h)), fun _ => getD_put_same (by rw [hsz]; omega), fun h => (getD_put_ne (by decide)).trans (f2 (by simpa using h)), fun h => (getD_put_ne (by decide)).trans (f3 (by simpa using h)), fun h => (getD_put_ne (by decide)).trans (f4 (by simpa using h)), fun h => (getD_put_ne (by decide)).trans (f5 (by simpa using h)), x, y, fun h => (getD_put_ne (by decide)).trans (fx (by simpa using h)), fun h => (getD_put_ne (by decide)).trans (fy (by simpa using h)), fun h k => hxy (by simpa using h) (by simpa using k), (stg_same (L := L) (i := 1) rfl rfl) ▸ (hI.sub hst (fun b hb => by simpa using hb)), fun h => by simpa using hrx (by simpa using h), fun h => by simpa using hry (by simpa using h)⟩
    · obtain rfl : oPqB2 p = o := Option.some.inj ho
      have e0 : L 0 = true := edge_of (o := oPqB2 p) hpre 0 rfl
      have e1 : L 1 = true := edge_of (o := oPqB2 p) hpre 1 rfl
      have h5 : L 5 = false := not_yet hcl (o' := oPqB5 p) (j := 5) rfl hLi rfl
      have hs0 : stg L = 0 := by unfold stg; simp [h5, hLi]
      rw [hs0] at hst
      refine step_callD rfl rfl rfl (enters_of Tryd.func9 (by kernel_rfl) rfl) (show Array.map a'.eval #[.tmp 160, .tmp 161] = _ from by simp only [List.map_toArray, List.map_cons, List.map_nil, Act.eval, f0 e0, f1 e1]) ((hc1 _ _ hst).mono ?_)
      rintro e w'' ⟨rfl, hI1, hS⟩
      have hs1' : stg (fun j => L j || j == 2) = 1 := by unfold stg; simp [h5]
      exact ⟨_, rfl, ⟨frm' 162 _ rfl, fun h => (getD_put_ne (by decide)).trans (f0 (by simpa using h)), fun h => (getD_put_ne (by decide)).trans (f1 (by simpa using h)), fun _ => getD_put_same (by rw [hsz]; omega), fun h => (getD_put_ne (by decide)).trans (f3 (by simpa using h)), fun h => (getD_put_ne (by decide)).trans (f4 (by simpa using h)), fun h => (getD_put_ne (by decide)).trans (f5 (by simpa using h)), x, y, fun h => (getD_put_ne (by decide)).trans (fx (by simpa using h)), fun h => (getD_put_ne (by decide)).trans (fy (by simpa using h)), fun h k => hxy (by simpa using h) (by simpa using k), (by rw [hs1']; exact hI.sub hI1 (fun b hb => by simpa using hb)), fun h => by simpa using rep_keep (hrx (by simpa using h)) (hS _ (.inl ⟨by simpa using h, rfl⟩)), fun h => by simpa using rep_keep (hry (by simpa using h)) (hS _ (.inr ⟨by simpa using h, rfl⟩))⟩⟩
    · obtain rfl : oPqB3 p = o := Option.some.inj ho
      have hx : a'.eval (.tmp 26) = .pointer (some ⟨R2, 0, none⟩) := (hF.at 26 rfl hs2)
      exact step_move rfl rfl rfl hx ⟨frm' 163 _ rfl, fun h => (getD_put_ne (by decide)).trans (f0 (by simpa using h)), fun h => (getD_put_ne (by decide)).trans (f1 (by simpa using h)), fun h => (getD_put_ne (by decide)).trans (f2 (by simpa using h)), fun _ => getD_put_same (by rw [hsz]; omega), fun h => (getD_put_ne (by decide)).trans (f4 (by simpa using h)), fun h => (getD_put_ne (by decide)).trans (f5 (by simpa using h)), x, y, fun h => (getD_put_ne (by decide)).trans (fx (by simpa using h)), fun h => (getD_put_ne (by decide)).trans (fy (by simpa using h)), fun h k => hxy (by simpa using h) (by simpa using k), (stg_same (L := L) (i := 3) rfl rfl) ▸ (hI.sub hst (fun b hb => by simpa using hb)), fun h => by simpa using hrx (by simpa using h), fun h => by simpa using hry (by simpa using h)⟩
    · obtain rfl : oPqB4 p = o := Option.some.inj ho
      have hx : a'.eval (.tmp 6) = .pointer (some ⟨p2, 0, none⟩) := (hF.at 6 rfl hb2)
      exact step_load rfl rfl rfl hx (run_ldK w' p2 v2 (hl2 _ _ _ hst)) ⟨frm' 164 _ rfl, fun h => (getD_put_ne (by decide)).trans (f0 (by simpa using h)), fun h => (getD_put_ne (by decide)).trans (f1 (by simpa using h)), fun h => (getD_put_ne (by decide)).trans (f2 (by simpa using h)), fun h => (getD_put_ne (by decide)).trans (f3 (by simpa using h)), fun _ => getD_put_same (by rw [hsz]; omega), fun h => (getD_put_ne (by decide)).trans (f5 (by simpa using h)), x, y, fun h => (getD_put_ne (by decide)).trans (fx (by simpa using h)), fun h => (getD_put_ne (by decide)).trans (fy (by simpa using h)), fun h k => hxy (by simpa using h) (by simpa using k), (stg_same (L := L) (i := 4) rfl rfl) ▸ (hI.sub hst (fun b hb => by simpa using hb)), fun h => by simpa using hrx (by simpa using h), fun h => by simpa using hry (by simpa using h)⟩
    · obtain rfl : oPqB5 p = o := Option.some.inj ho
      have e3 : L 3 = true := edge_of (o := oPqB5 p) hpre 3 rfl
      have e4 : L 4 = true := edge_of (o := oPqB5 p) hpre 4 rfl
      have e2 : L 2 = true := edge_of (o := oPqB5 p) hpre 2 rfl
      have hs0 : stg L = 1 := by unfold stg; simp [hLi, e2]
      rw [hs0] at hst
      refine step_callD rfl rfl rfl (enters_of Tryd.func9 (by kernel_rfl) rfl) (show Array.map a'.eval #[.tmp 163, .tmp 164] = _ from by simp only [List.map_toArray, List.map_cons, List.map_nil, Act.eval, f3 e3, f4 e4]) ((hc2 _ _ hst).mono ?_)
      rintro e w'' ⟨rfl, hI1, hS⟩
      have hs1' : stg (fun j => L j || j == 5) = 2 := by unfold stg; simp
      exact ⟨_, rfl, ⟨frm' 165 _ rfl, fun h => (getD_put_ne (by decide)).trans (f0 (by simpa using h)), fun h => (getD_put_ne (by decide)).trans (f1 (by simpa using h)), fun h => (getD_put_ne (by decide)).trans (f2 (by simpa using h)), fun h => (getD_put_ne (by decide)).trans (f3 (by simpa using h)), fun h => (getD_put_ne (by decide)).trans (f4 (by simpa using h)), fun _ => getD_put_same (by rw [hsz]; omega), x, y, fun h => (getD_put_ne (by decide)).trans (fx (by simpa using h)), fun h => (getD_put_ne (by decide)).trans (fy (by simpa using h)), fun h k => hxy (by simpa using h) (by simpa using k), (by rw [hs1']; exact hI.sub hI1 (fun b hb => by simpa using hb)), fun h => by simpa using rep_keep (hrx (by simpa using h)) (hS _ (.inl ⟨by simpa using h, rfl⟩)), fun h => by simpa using rep_keep (hry (by simpa using h)) (hS _ (.inr ⟨by simpa using h, rfl⟩))⟩⟩
    · obtain rfl : oPqB6 p = o := Option.some.inj ho
      have h8 : L 8 = false := not_yet hcl (o' := oPqB8 p) (j := 8) rfl hLi rfl
      have hal : (execOp a'.eval (oPqB6 p)).run Tryd.prog w' = .ok (.value (.pointer (some ⟨w'.heap.size, 0, none⟩))) (w'.alloc (.cells #[.int .u8 0, .string kE] 33)) := by simp [execOp, oPqB6, run_alR]
      refine step_run (o := oPqB6 p) rfl rfl (by intro c h; cases h) (by simp [Oper.about, oPqB6]) hal ?_
      have hmo := hI.more (.cells #[.int .u8 0, .string kE] 33) hst
      have hoth : L 7 = true → y < w'.heap.size := fun h => hI.lt hst (.inr ⟨h, rfl⟩)
      refine ⟨frm' 28 _ rfl, fun h => (getD_put_ne (by decide)).trans (f0 (by simpa using h)), fun h => (getD_put_ne (by decide)).trans (f1 (by simpa using h)), fun h => (getD_put_ne (by decide)).trans (f2 (by simpa using h)), fun h => (getD_put_ne (by decide)).trans (f3 (by simpa using h)), fun h => (getD_put_ne (by decide)).trans (f4 (by simpa using h)), fun h => (getD_put_ne (by decide)).trans (f5 (by simpa using h)), w'.heap.size, y, fun _ => getD_put_same (by rw [hsz]; omega), fun h => (getD_put_ne (by decide)).trans (fy (by simpa using h)), fun _ k => Ne.symm (Nat.ne_of_lt (hoth (by simpa using k))), (stg_same (L := L) (i := 6) rfl rfl) ▸ (hI.sub hmo (fun b hb => ?_)), fun _ => ?_, fun h => ?_⟩
      · rcases hb with ⟨_, h⟩ | ⟨h, k⟩
        · exact .inl h
        · exact .inr (.inr ⟨by simpa using h, k⟩)
      · have h8' : (L 8 || (8 : Nat) == 6) = false := by simp [h8]
        simp only [h8']
        exact World.alloc_heap_new w' _
      · have h := rep_keep (hry (by simpa using h)) (Below.heap_alloc w' (.cells #[.int .u8 0, .string kE] 33) _ (hoth (by simpa using h)))
        simpa using h
    · obtain rfl : oPqB7 p = o := Option.some.inj ho
      have h8 : L 9 = false := not_yet hcl (o' := oPqB9 p) (j := 9) rfl hLi rfl
      have hal : (execOp a'.eval (oPqB7 p)).run Tryd.prog w' = .ok (.value (.pointer (some ⟨w'.heap.size, 0, none⟩))) (w'.alloc (.cells #[.int .u8 0, .string kE] 33)) := by simp [execOp, oPqB7, run_alR]
      refine step_run (o := oPqB7 p) rfl rfl (by intro c h; cases h) (by simp [Oper.about, oPqB7]) hal ?_
      have hmo := hI.more (.cells #[.int .u8 0, .string kE] 33) hst
      have hoth : L 6 = true → x < w'.heap.size := fun h => hI.lt hst (.inl ⟨h, rfl⟩)
      refine ⟨frm' 29 _ rfl, fun h => (getD_put_ne (by decide)).trans (f0 (by simpa using h)), fun h => (getD_put_ne (by decide)).trans (f1 (by simpa using h)), fun h => (getD_put_ne (by decide)).trans (f2 (by simpa using h)), fun h => (getD_put_ne (by decide)).trans (f3 (by simpa using h)), fun h => (getD_put_ne (by decide)).trans (f4 (by simpa using h)), fun h => (getD_put_ne (by decide)).trans (f5 (by simpa using h)), x, w'.heap.size, fun h => (getD_put_ne (by decide)).trans (fx (by simpa using h)), fun _ => getD_put_same (by rw [hsz]; omega), fun h _ => Nat.ne_of_lt (hoth (by simpa using h)), (stg_same (L := L) (i := 7) rfl rfl) ▸ (hI.sub hmo (fun b hb => ?_)), fun h => ?_, fun _ => ?_⟩
      · rcases hb with ⟨h, k⟩ | ⟨_, h⟩
        · exact .inr (.inl ⟨by simpa using h, k⟩)
        · exact .inl h
      · have h := rep_keep (hrx (by simpa using h)) (Below.heap_alloc w' (.cells #[.int .u8 0, .string kE] 33) _ (hoth (by simpa using h)))
        simpa using h
      · have h8' : (L 9 || (9 : Nat) == 7) = false := by simp [h8]
        simp only [h8']
        exact World.alloc_heap_new w' _
    · obtain rfl : oPqB8 p = o := Option.some.inj ho
      have ea : L 6 = true := edge_of (o := oPqB8 p) hpre 6 rfl
      have ec : L 2 = true := edge_of (o := oPqB8 p) hpre 2 rfl
      have hre := hrx ea
      have hx1 : a'.eval (.tmp 28) = .pointer (some ⟨x, 0, none⟩) := fx ea
      have hx2 : a'.eval (.tmp 162) = ReplyV r1 := f2 ec
      have hst' := run_stQ w' x _ _ hre r1
      refine step_skip (o := oPqB8 p) rfl rfl (by intro c h; cases h) (by simp [Oper.about, oPqB8]) (w' := (w'.setCell ⟨x, 0, none⟩ (.int .u8 (r1.1 : Int))).setCell ⟨x, 1, none⟩ (.string r1.2)) (by
        unfold execOp
        simp only [oPqB8, hx1, hx2, Sem.run_bind, hst', Result.andThen_ok]
        rfl) ?_
      have hme : (L 6 = true ∧ x = x) ∨ (L 7 = true ∧ x = y) := .inl ⟨ea, rfl⟩
      have hset := hI.set x 1 (.string r1.2) (hI.set x 0 (.int .u8 (r1.1 : Int)) hst hme) hme
      refine ⟨hF, fun h => f0 (by simpa using h), fun h => f1 (by simpa using h), fun h => f2 (by simpa using h), fun h => f3 (by simpa using h), fun h => f4 (by simpa using h), fun h => f5 (by simpa using h), x, y, fun h => fx (by simpa using h), fun h => fy (by simpa using h), fun h k => hxy (by simpa using h) (by simpa using k), (stg_same (L := L) (i := 8) rfl rfl) ▸ (hI.sub hset (fun b hb => by simpa using hb)), fun _ => ?_, fun h => ?_⟩
      · simp only [beq_self_eq_true, Bool.or_true, if_true]
        exact repAt_set hre r1.1 r1.2
      · have h' : L 7 = true := by simpa using h
        have := repAt_other (d := r1.1) (u := r1.2) (hry h') (Ne.symm (hxy ea h'))
        simpa using this
    · obtain rfl : oPqB9 p = o := Option.some.inj ho
      have ea : L 7 = true := edge_of (o := oPqB9 p) hpre 7 rfl
      have ec : L 5 = true := edge_of (o := oPqB9 p) hpre 5 rfl
      have hre := hry ea
      have hx1 : a'.eval (.tmp 29) = .pointer (some ⟨y, 0, none⟩) := fy ea
      have hx2 : a'.eval (.tmp 165) = ReplyV r2 := f5 ec
      have hst' := run_stQ w' y _ _ hre r2
      refine step_skip (o := oPqB9 p) rfl rfl (by intro c h; cases h) (by simp [Oper.about, oPqB9]) (w' := (w'.setCell ⟨y, 0, none⟩ (.int .u8 (r2.1 : Int))).setCell ⟨y, 1, none⟩ (.string r2.2)) (by
        unfold execOp
        simp only [oPqB9, hx1, hx2, Sem.run_bind, hst', Result.andThen_ok]
        rfl) ?_
      have hme : (L 6 = true ∧ y = x) ∨ (L 7 = true ∧ y = y) := .inr ⟨ea, rfl⟩
      have hset := hI.set y 1 (.string r2.2) (hI.set y 0 (.int .u8 (r2.1 : Int)) hst hme) hme
      refine ⟨hF, fun h => f0 (by simpa using h), fun h => f1 (by simpa using h), fun h => f2 (by simpa using h), fun h => f3 (by simpa using h), fun h => f4 (by simpa using h), fun h => f5 (by simpa using h), x, y, fun h => fx (by simpa using h), fun h => fy (by simpa using h), fun h k => hxy (by simpa using h) (by simpa using k), (stg_same (L := L) (i := 9) rfl rfl) ▸ (hI.sub hset (fun b hb => by simpa using hb)), fun h => ?_, fun _ => ?_⟩
      · have h' : L 6 = true := by simpa using h
        have := repAt_other (d := r2.1) (u := r2.2) (hrx h') (hxy h' ea)
        simpa using this
      · simp only [beq_self_eq_true, Bool.or_true, if_true]
        exact repAt_set hre r2.1 r2.2
    · exact absurd ((Array.getElem?_eq_some_iff.1 ho).1) (by simp [opsPqB])
  · intro L a' w' hv hall
    have hL : ∀ j, j < 10 → L j = true := fun j hj => hall j (by simpa [opsPqB] using hj)
    obtain ⟨hF, f0, f1, f2, f3, f4, f5, x, y, fx, fy, hxy, hst, hrx, hry⟩ := hv
    have hs2 : stg L = 2 := by unfold stg; rw [if_pos (hL 5 (by omega))]
    rw [hs2] at hst
    have h := hQ x y w' (hxy (hL 6 (by omega)) (hL 7 (by omega))) (hI.sub hst (fun b hb => hb.imp (fun e => ⟨hL 6 (by omega), e⟩) (fun e => ⟨hL 7 (by omega), e⟩))) (by simpa [hL 8 (by omega)] using hrx (hL 6 (by omega))) (by simpa [hL 9 (by omega)] using hry (hL 7 (by omega)))
    have hput : a' = puts [(160, .pointer (some ⟨R1, 0, none⟩)), (161, v1.val), (162, ReplyV r1), (163, .pointer (some ⟨R2, 0, none⟩)), (164, v2.val), (165, ReplyV r2), (28, .pointer (some ⟨x, 0, none⟩)), (29, .pointer (some ⟨y, 0, none⟩))] a := hF.puts _ (by
      intro z hz
      simp only [List.mem_cons, List.not_mem_nil, or_false] at hz
      rcases hz with rfl | rfl | rfl | rfl | rfl | rfl | rfl | rfl
      · exact f0 (hL 0 (by omega))
      · exact f1 (hL 1 (by omega))
      · exact f2 (hL 2 (by omega))
      · exact f3 (hL 3 (by omega))
      · exact f4 (hL 4 (by omega))
      · exact f5 (hL 5 (by omega))
      · exact fx (hL 6 (by omega))
      · exact fy (hL 7 (by omega))) rfl (by rw [hN]; rfl)
    rw [hput]
    exact h
def oPqC0 (p : String) : Oper := { dst := some 166, op := Op.move (Operand.tmp 27), type := 30, pos := p, after := #[], guard := none }
def oPqC1 (p : String) : Oper := { dst := some 167, op := Op.load 26 (Operand.tmp 6), type := 26, pos := p, after := #[], guard := none }
def oPqC2 (p : String) : Oper := { dst := some 168, op := Op.call { callee := Callee.value (Operand.func 9), args := #[Operand.tmp 166, Operand.tmp 167], argTypes := #[30, 26] }, type := 33, pos := p, after := #[{ on := 0, ground := Ground.data }, { on := 1, ground := Ground.data }], guard := none }
def oPqC3 (p : String) : Oper := { dst := some 169, op := Op.move (Operand.tmp 27), type := 30, pos := p, after := #[], guard := none }
def oPqC4 (p : String) : Oper := { dst := some 170, op := Op.load 26 (Operand.tmp 5), type := 26, pos := p, after := #[], guard := none }
def oPqC5 (p : String) : Oper := { dst := some 171, op := Op.call { callee := Callee.value (Operand.func 9), args := #[Operand.tmp 169, Operand.tmp 170], argTypes := #[30, 26] }, type := 33, pos := p, after := #[{ on := 3, ground := Ground.data }, { on := 4, ground := Ground.data }, { on := 2, ground := Ground.chain }], guard := none }
def oPqC6 (p : String) : Oper := { dst := some 30, op := Op.alloc 33, type := 0, pos := p, after := #[], guard := none }
def oPqC7 (p : String) : Oper := { dst := some 31, op := Op.alloc 33, type := 0, pos := p, after := #[], guard := none }
def oPqC8 (p : String) : Oper := { dst := none, op := Op.store 33 (Operand.tmp 30) (Operand.tmp 168), type := 0, pos := p, after := #[{ on := 6, ground := Ground.data }, { on := 2, ground := Ground.data }, { on := 5, ground := Ground.chain }, { on := 0, ground := Ground.phase }, { on := 1, ground := Ground.phase }, { on := 2, ground := Ground.phase }, { on := 3, ground := Ground.textOnly Departure.lateStores }, { on := 4, ground := Ground.textOnly Departure.lateStores }, { on := 5, ground := Ground.textOnly Departure.lateStoresUnsure }, { on := 6, ground := Ground.phase }, { on := 7, ground := Ground.phase }], guard := none }
def oPqC9 (p : String) : Oper := { dst := none, op := Op.store 33 (Operand.tmp 31) (Operand.tmp 171), type := 0, pos := p, after := #[{ on := 7, ground := Ground.data }, { on := 5, ground := Ground.data }, { on := 8, ground := Ground.chain }, { on := 0, ground := Ground.phase }, { on := 1, ground := Ground.phase }, { on := 2, ground := Ground.phase }, { on := 3, ground := Ground.phase }, { on := 4, ground := Ground.phase }, { on := 5, ground := Ground.phase }, { on := 6, ground := Ground.phase }, { on := 7, ground := Ground.phase }, { on := 8, ground := Ground.phase }], guard := none }
def opsPqC (p : String) : List Oper := [oPqC0 p, oPqC1 p, oPqC2 p, oPqC3 p, oPqC4 p, oPqC5 p, oPqC6 p, oPqC7 p, oPqC8 p, oPqC9 p]
theorem opsPqC_back (p : String) : backwards (opsPqC p) = true := by kernel_rfl
/-- How far it is. -/
structure InvPqC (I : Nat → (Nat → Prop) → World → Prop) (R1 R2 : Nat) (v1 v2 : CmdV) (r1 r2 : Nat × ByteArray) (a : Act) (p : String) (L : Nat → Bool) (a' : Act) (w' : World) : Prop where
  frm : Frm (opsPqC p) a a'
  f0 : L 0 = true → a'.tmps.getD 166 undef = .pointer (some ⟨R1, 0, none⟩)
  f1 : L 1 = true → a'.tmps.getD 167 undef = v1.val
  f2 : L 2 = true → a'.tmps.getD 168 undef = ReplyV r1
  f3 : L 3 = true → a'.tmps.getD 169 undef = .pointer (some ⟨R2, 0, none⟩)
  f4 : L 4 = true → a'.tmps.getD 170 undef = v2.val
  f5 : L 5 = true → a'.tmps.getD 171 undef = ReplyV r2
  ex : ∃ x y, (L 6 = true → a'.tmps.getD 30 undef = .pointer (some ⟨x, 0, none⟩)) ∧ (L 7 = true → a'.tmps.getD 31 undef = .pointer (some ⟨y, 0, none⟩)) ∧ (L 6 = true → L 7 = true → x ≠ y) ∧ I (stg L) (fun b => (L 6 = true ∧ b = x) ∨ (L 7 = true ∧ b = y)) w' ∧
    (L 6 = true → RepAt w' x (if L 8 = true then r1.1 else 0) (if L 8 = true then r1.2 else kE)) ∧ (L 7 = true → RepAt w' y (if L 9 = true then r2.1 else 0) (if L 9 = true then r2.2 else kE))
set_option maxRecDepth 100000 in
set_option maxHeartbeats 4000000 in
theorem pqc_region {p : String} (I : Nat → (Nat → Prop) → World → Prop) (hI : PQI I) (R1 R2 : Nat) (v1 v2 : CmdV) (p1 p2 : Nat) (r1 r2 : Nat × ByteArray) (a : Act) (w : World) (Q : Exit → Act → World → Prop) (hN : a.tmps.size = 188)
    (hs1 : a.tmps.getD 27 undef = .pointer (some ⟨R1, 0, none⟩)) (hs2 : a.tmps.getD 27 undef = .pointer (some ⟨R2, 0, none⟩)) (hb1 : a.tmps.getD 6 undef = .pointer (some ⟨p1, 0, none⟩)) (hb2 : a.tmps.getD 5 undef = .pointer (some ⟨p2, 0, none⟩)) (h0 : I 0 (fun _ => False) w)
    (hl1 : ∀ k P W, I k P W → ∀ i u, v1.cells[i]? = some u → W.cell? ⟨p1, i, none⟩ = some u) (hl2 : ∀ k P W, I k P W → ∀ i u, v2.cells[i]? = some u → W.cell? ⟨p2, i, none⟩ = some u)
    (hc1 : ∀ P W, I 0 P W → Calls Tryd.prog 9 #[.pointer (some ⟨R1, 0, none⟩), v1.val] W fun e W' => e = .returned (ReplyV r1) ∧ I 1 P W' ∧ Still P W W')
    (hc2 : ∀ P W, I 1 P W → Calls Tryd.prog 9 #[.pointer (some ⟨R2, 0, none⟩), v2.val] W fun e W' => e = .returned (ReplyV r2) ∧ I 2 P W' ∧ Still P W W')
    (hQ : ∀ x y w', x ≠ y → I 2 (fun b => b = x ∨ b = y) w' → RepAt w' x r1.1 r1.2 → RepAt w' y r2.1 r2.2 → Q .normal (puts [(166, .pointer (some ⟨R1, 0, none⟩)), (167, v1.val), (168, ReplyV r1), (169, .pointer (some ⟨R2, 0, none⟩)), (170, v2.val), (171, ReplyV r2), (30, .pointer (some ⟨x, 0, none⟩)), (31, .pointer (some ⟨y, 0, none⟩))] a) w') :
    (Code.region 33 (opsPqC p).toArray true).wp Tryd.prog Q a w := by
  refine (wpIn_wide (n := 1)).1 (wpIn_region_by follows (opsPqC_back p) (InvPqC I R1 R2 v1 v2 r1 r2 a p) ?_ ?_ ?_)
  · exact ⟨⟨rfl, rfl, fun _ _ => rfl⟩, fun h => (by cases h), fun h => (by cases h), fun h => (by cases h), fun h => (by cases h), fun h => (by cases h), fun h => (by cases h), 0, 0, fun h => (by cases h), fun h => (by cases h), fun h => (by cases h), hI.sub (hI.grow h0 (Below.refl _ w).drew) (fun b hb => by rcases hb with ⟨h, _⟩ | ⟨h, _⟩ <;> cases h), fun h => (by cases h), fun h => (by cases h)⟩
  · intro L a' w' i o hv ho hLi hpre hcl
    obtain ⟨hF, f0, f1, f2, f3, f4, f5, x, y, fx, fy, hxy, hst, hrx, hry⟩ := hv
    have hsz : a'.tmps.size = 188 := hF.size.trans hN
    have frm' : ∀ (d : Nat) (v : Value), o.dst = some d → Frm (opsPqC p) a (a'.put (some d) v) := fun d v hd => ⟨size_put.trans hF.size, defers_put.trans hF.defers, fun s hs => by
      have hm : o ∈ opsPqC p := by simpa using List.mem_of_getElem? (by simpa using ho)
      rw [getD_put_ne (fun e => hs o hm (by rw [hd, e]))]
      exact hF.old s hs⟩
    rcases i with _ | _ | _ | _ | _ | _ | _ | _ | _ | _ | i
    · obtain rfl : oPqC0 p = o := Option.some.inj ho
      have hx : a'.eval (.tmp 27) = .pointer (some ⟨R1, 0, none⟩) := (hF.at 27 rfl hs1)
      exact step_move rfl rfl rfl hx ⟨frm' 166 _ rfl, fun _ => getD_put_same (by rw [hsz]; omega), fun h => (getD_put_ne (by decide)).trans (f1 (by simpa using h)), fun h => (getD_put_ne (by decide)).trans (f2 (by simpa using h)), fun h => (getD_put_ne (by decide)).trans (f3 (by simpa using h)), fun h => (getD_put_ne (by decide)).trans (f4 (by simpa using h)), fun h => (getD_put_ne (by decide)).trans (f5 (by simpa using h)), x, y, fun h => (getD_put_ne (by decide)).trans (fx (by simpa using h)), fun h => (getD_put_ne (by decide)).trans (fy (by simpa using h)), fun h k => hxy (by simpa using h) (by simpa using k), (stg_same (L := L) (i := 0) rfl rfl) ▸ (hI.sub hst (fun b hb => by simpa using hb)), fun h => by simpa using hrx (by simpa using h), fun h => by simpa using hry (by simpa using h)⟩
    · obtain rfl : oPqC1 p = o := Option.some.inj ho
      have hx : a'.eval (.tmp 6) = .pointer (some ⟨p1, 0, none⟩) := (hF.at 6 rfl hb1)
      exact step_load rfl rfl rfl hx (run_ldK w' p1 v1 (hl1 _ _ _ hst)) ⟨frm' 167 _ rfl, fun h => (getD_put_ne (by decide)).trans (f0 (by simpa using h)), fun _ => getD_put_same (by rw [hsz]; omega), fun h => (getD_put_ne (by decide)).trans (f2 (by simpa using h)), fun h => (getD_put_ne (by decide)).trans (f3 (by simpa using h)), fun h => (getD_put_ne (by decide)).trans (f4 (by simpa using h)), fun h => (getD_put_ne (by decide)).trans (f5 (by simpa using h)), x, y, fun h => (getD_put_ne (by decide)).trans (fx (by simpa using h)), fun h => (getD_put_ne (by decide)).trans (fy (by simpa using h)), fun h k => hxy (by simpa using h) (by simpa using k), (stg_same (L := L) (i := 1) rfl rfl) ▸ (hI.sub hst (fun b hb => by simpa using hb)), fun h => by simpa using hrx (by simpa using h), fun h => by simpa using hry (by simpa using h)⟩
    · obtain rfl : oPqC2 p = o := Option.some.inj ho
      have e0 : L 0 = true := edge_of (o := oPqC2 p) hpre 0 rfl
      have e1 : L 1 = true := edge_of (o := oPqC2 p) hpre 1 rfl
      have h5 : L 5 = false := not_yet hcl (o' := oPqC5 p) (j := 5) rfl hLi rfl
      have hs0 : stg L = 0 := by unfold stg; simp [h5, hLi]
      rw [hs0] at hst
      refine step_callD rfl rfl rfl (enters_of Tryd.func9 (by kernel_rfl) rfl) (show Array.map a'.eval #[.tmp 166, .tmp 167] = _ from by simp only [List.map_toArray, List.map_cons, List.map_nil, Act.eval, f0 e0, f1 e1]) ((hc1 _ _ hst).mono ?_)
      rintro e w'' ⟨rfl, hI1, hS⟩
      have hs1' : stg (fun j => L j || j == 2) = 1 := by unfold stg; simp [h5]
      exact ⟨_, rfl, ⟨frm' 168 _ rfl, fun h => (getD_put_ne (by decide)).trans (f0 (by simpa using h)), fun h => (getD_put_ne (by decide)).trans (f1 (by simpa using h)), fun _ => getD_put_same (by rw [hsz]; omega), fun h => (getD_put_ne (by decide)).trans (f3 (by simpa using h)), fun h => (getD_put_ne (by decide)).trans (f4 (by simpa using h)), fun h => (getD_put_ne (by decide)).trans (f5 (by simpa using h)), x, y, fun h => (getD_put_ne (by decide)).trans (fx (by simpa using h)), fun h => (getD_put_ne (by decide)).trans (fy (by simpa using h)), fun h k => hxy (by simpa using h) (by simpa using k), (by rw [hs1']; exact hI.sub hI1 (fun b hb => by simpa using hb)), fun h => by simpa using rep_keep (hrx (by simpa using h)) (hS _ (.inl ⟨by simpa using h, rfl⟩)), fun h => by simpa using rep_keep (hry (by simpa using h)) (hS _ (.inr ⟨by simpa using h, rfl⟩))⟩⟩
    · obtain rfl : oPqC3 p = o := Option.some.inj ho
      have hx : a'.eval (.tmp 27) = .pointer (some ⟨R2, 0, none⟩) := (hF.at 27 rfl hs2)
      exact step_move rfl rfl rfl hx ⟨frm' 169 _ rfl, fun h => (getD_put_ne (by decide)).trans (f0 (by simpa using h)), fun h => (getD_put_ne (by decide)).trans (f1 (by simpa using h)), fun h => (getD_put_ne (by decide)).trans (f2 (by simpa using h)), fun _ => getD_put_same (by rw [hsz]; omega), fun h => (getD_put_ne (by decide)).trans (f4 (by simpa using h)), fun h => (getD_put_ne (by decide)).trans (f5 (by simpa using h)), x, y, fun h => (getD_put_ne (by decide)).trans (fx (by simpa using h)), fun h => (getD_put_ne (by decide)).trans (fy (by simpa using h)), fun h k => hxy (by simpa using h) (by simpa using k), (stg_same (L := L) (i := 3) rfl rfl) ▸ (hI.sub hst (fun b hb => by simpa using hb)), fun h => by simpa using hrx (by simpa using h), fun h => by simpa using hry (by simpa using h)⟩
    · obtain rfl : oPqC4 p = o := Option.some.inj ho
      have hx : a'.eval (.tmp 5) = .pointer (some ⟨p2, 0, none⟩) := (hF.at 5 rfl hb2)
      exact step_load rfl rfl rfl hx (run_ldK w' p2 v2 (hl2 _ _ _ hst)) ⟨frm' 170 _ rfl, fun h => (getD_put_ne (by decide)).trans (f0 (by simpa using h)), fun h => (getD_put_ne (by decide)).trans (f1 (by simpa using h)), fun h => (getD_put_ne (by decide)).trans (f2 (by simpa using h)), fun h => (getD_put_ne (by decide)).trans (f3 (by simpa using h)), fun _ => getD_put_same (by rw [hsz]; omega), fun h => (getD_put_ne (by decide)).trans (f5 (by simpa using h)), x, y, fun h => (getD_put_ne (by decide)).trans (fx (by simpa using h)), fun h => (getD_put_ne (by decide)).trans (fy (by simpa using h)), fun h k => hxy (by simpa using h) (by simpa using k), (stg_same (L := L) (i := 4) rfl rfl) ▸ (hI.sub hst (fun b hb => by simpa using hb)), fun h => by simpa using hrx (by simpa using h), fun h => by simpa using hry (by simpa using h)⟩
    · obtain rfl : oPqC5 p = o := Option.some.inj ho
      have e3 : L 3 = true := edge_of (o := oPqC5 p) hpre 3 rfl
      have e4 : L 4 = true := edge_of (o := oPqC5 p) hpre 4 rfl
      have e2 : L 2 = true := edge_of (o := oPqC5 p) hpre 2 rfl
      have hs0 : stg L = 1 := by unfold stg; simp [hLi, e2]
      rw [hs0] at hst
      refine step_callD rfl rfl rfl (enters_of Tryd.func9 (by kernel_rfl) rfl) (show Array.map a'.eval #[.tmp 169, .tmp 170] = _ from by simp only [List.map_toArray, List.map_cons, List.map_nil, Act.eval, f3 e3, f4 e4]) ((hc2 _ _ hst).mono ?_)
      rintro e w'' ⟨rfl, hI1, hS⟩
      have hs1' : stg (fun j => L j || j == 5) = 2 := by unfold stg; simp
      exact ⟨_, rfl, ⟨frm' 171 _ rfl, fun h => (getD_put_ne (by decide)).trans (f0 (by simpa using h)), fun h => (getD_put_ne (by decide)).trans (f1 (by simpa using h)), fun h => (getD_put_ne (by decide)).trans (f2 (by simpa using h)), fun h => (getD_put_ne (by decide)).trans (f3 (by simpa using h)), fun h => (getD_put_ne (by decide)).trans (f4 (by simpa using h)), fun _ => getD_put_same (by rw [hsz]; omega), x, y, fun h => (getD_put_ne (by decide)).trans (fx (by simpa using h)), fun h => (getD_put_ne (by decide)).trans (fy (by simpa using h)), fun h k => hxy (by simpa using h) (by simpa using k), (by rw [hs1']; exact hI.sub hI1 (fun b hb => by simpa using hb)), fun h => by simpa using rep_keep (hrx (by simpa using h)) (hS _ (.inl ⟨by simpa using h, rfl⟩)), fun h => by simpa using rep_keep (hry (by simpa using h)) (hS _ (.inr ⟨by simpa using h, rfl⟩))⟩⟩
    · obtain rfl : oPqC6 p = o := Option.some.inj ho
      have h8 : L 8 = false := not_yet hcl (o' := oPqC8 p) (j := 8) rfl hLi rfl
      have hal : (execOp a'.eval (oPqC6 p)).run Tryd.prog w' = .ok (.value (.pointer (some ⟨w'.heap.size, 0, none⟩))) (w'.alloc (.cells #[.int .u8 0, .string kE] 33)) := by simp [execOp, oPqC6, run_alR]
      refine step_run (o := oPqC6 p) rfl rfl (by intro c h; cases h) (by simp [Oper.about, oPqC6]) hal ?_
      have hmo := hI.more (.cells #[.int .u8 0, .string kE] 33) hst
      have hoth : L 7 = true → y < w'.heap.size := fun h => hI.lt hst (.inr ⟨h, rfl⟩)
      refine ⟨frm' 30 _ rfl, fun h => (getD_put_ne (by decide)).trans (f0 (by simpa using h)), fun h => (getD_put_ne (by decide)).trans (f1 (by simpa using h)), fun h => (getD_put_ne (by decide)).trans (f2 (by simpa using h)), fun h => (getD_put_ne (by decide)).trans (f3 (by simpa using h)), fun h => (getD_put_ne (by decide)).trans (f4 (by simpa using h)), fun h => (getD_put_ne (by decide)).trans (f5 (by simpa using h)), w'.heap.size, y, fun _ => getD_put_same (by rw [hsz]; omega), fun h => (getD_put_ne (by decide)).trans (fy (by simpa using h)), fun _ k => Ne.symm (Nat.ne_of_lt (hoth (by simpa using k))), (stg_same (L := L) (i := 6) rfl rfl) ▸ (hI.sub hmo (fun b hb => ?_)), fun _ => ?_, fun h => ?_⟩
      · rcases hb with ⟨_, h⟩ | ⟨h, k⟩
        · exact .inl h
        · exact .inr (.inr ⟨by simpa using h, k⟩)
      · have h8' : (L 8 || (8 : Nat) == 6) = false := by simp [h8]
        simp only [h8']
        exact World.alloc_heap_new w' _
      · have h := rep_keep (hry (by simpa using h)) (Below.heap_alloc w' (.cells #[.int .u8 0, .string kE] 33) _ (hoth (by simpa using h)))
        simpa using h
    · obtain rfl : oPqC7 p = o := Option.some.inj ho
      have h8 : L 9 = false := not_yet hcl (o' := oPqC9 p) (j := 9) rfl hLi rfl
      have hal : (execOp a'.eval (oPqC7 p)).run Tryd.prog w' = .ok (.value (.pointer (some ⟨w'.heap.size, 0, none⟩))) (w'.alloc (.cells #[.int .u8 0, .string kE] 33)) := by simp [execOp, oPqC7, run_alR]
      refine step_run (o := oPqC7 p) rfl rfl (by intro c h; cases h) (by simp [Oper.about, oPqC7]) hal ?_
      have hmo := hI.more (.cells #[.int .u8 0, .string kE] 33) hst
      have hoth : L 6 = true → x < w'.heap.size := fun h => hI.lt hst (.inl ⟨h, rfl⟩)
      refine ⟨frm' 31 _ rfl, fun h => (getD_put_ne (by decide)).trans (f0 (by simpa using h)), fun h => (getD_put_ne (by decide)).trans (f1 (by simpa using h)), fun h => (getD_put_ne (by decide)).trans (f2 (by simpa using h)), fun h => (getD_put_ne (by decide)).trans (f3 (by simpa using h)), fun h => (getD_put_ne (by decide)).trans (f4 (by simpa using h)), fun h => (getD_put_ne (by decide)).trans (f5 (by simpa using h)), x, w'.heap.size, fun h => (getD_put_ne (by decide)).trans (fx (by simpa using h)), fun _ => getD_put_same (by rw [hsz]; omega), fun h _ => Nat.ne_of_lt (hoth (by simpa using h)), (stg_same (L := L) (i := 7) rfl rfl) ▸ (hI.sub hmo (fun b hb => ?_)), fun h => ?_, fun _ => ?_⟩
      · rcases hb with ⟨h, k⟩ | ⟨_, h⟩
        · exact .inr (.inl ⟨by simpa using h, k⟩)
        · exact .inl h
      · have h := rep_keep (hrx (by simpa using h)) (Below.heap_alloc w' (.cells #[.int .u8 0, .string kE] 33) _ (hoth (by simpa using h)))
        simpa using h
      · have h8' : (L 9 || (9 : Nat) == 7) = false := by simp [h8]
        simp only [h8']
        exact World.alloc_heap_new w' _
    · obtain rfl : oPqC8 p = o := Option.some.inj ho
      have ea : L 6 = true := edge_of (o := oPqC8 p) hpre 6 rfl
      have ec : L 2 = true := edge_of (o := oPqC8 p) hpre 2 rfl
      have hre := hrx ea
      have hx1 : a'.eval (.tmp 30) = .pointer (some ⟨x, 0, none⟩) := fx ea
      have hx2 : a'.eval (.tmp 168) = ReplyV r1 := f2 ec
      have hst' := run_stQ w' x _ _ hre r1
      refine step_skip (o := oPqC8 p) rfl rfl (by intro c h; cases h) (by simp [Oper.about, oPqC8]) (w' := (w'.setCell ⟨x, 0, none⟩ (.int .u8 (r1.1 : Int))).setCell ⟨x, 1, none⟩ (.string r1.2)) (by
        unfold execOp
        simp only [oPqC8, hx1, hx2, Sem.run_bind, hst', Result.andThen_ok]
        rfl) ?_
      have hme : (L 6 = true ∧ x = x) ∨ (L 7 = true ∧ x = y) := .inl ⟨ea, rfl⟩
      have hset := hI.set x 1 (.string r1.2) (hI.set x 0 (.int .u8 (r1.1 : Int)) hst hme) hme
      refine ⟨hF, fun h => f0 (by simpa using h), fun h => f1 (by simpa using h), fun h => f2 (by simpa using h), fun h => f3 (by simpa using h), fun h => f4 (by simpa using h), fun h => f5 (by simpa using h), x, y, fun h => fx (by simpa using h), fun h => fy (by simpa using h), fun h k => hxy (by simpa using h) (by simpa using k), (stg_same (L := L) (i := 8) rfl rfl) ▸ (hI.sub hset (fun b hb => by simpa using hb)), fun _ => ?_, fun h => ?_⟩
      · simp only [beq_self_eq_true, Bool.or_true, if_true]
        exact repAt_set hre r1.1 r1.2
      · have h' : L 7 = true := by simpa using h
        have := repAt_other (d := r1.1) (u := r1.2) (hry h') (Ne.symm (hxy ea h'))
        simpa using this
    · obtain rfl : oPqC9 p = o := Option.some.inj ho
      have ea : L 7 = true := edge_of (o := oPqC9 p) hpre 7 rfl
      have ec : L 5 = true := edge_of (o := oPqC9 p) hpre 5 rfl
      have hre := hry ea
      have hx1 : a'.eval (.tmp 31) = .pointer (some ⟨y, 0, none⟩) := fy ea
      have hx2 : a'.eval (.tmp 171) = ReplyV r2 := f5 ec
      have hst' := run_stQ w' y _ _ hre r2
      refine step_skip (o := oPqC9 p) rfl rfl (by intro c h; cases h) (by simp [Oper.about, oPqC9]) (w' := (w'.setCell ⟨y, 0, none⟩ (.int .u8 (r2.1 : Int))).setCell ⟨y, 1, none⟩ (.string r2.2)) (by
        unfold execOp
        simp only [oPqC9, hx1, hx2, Sem.run_bind, hst', Result.andThen_ok]
        rfl) ?_
      have hme : (L 6 = true ∧ y = x) ∨ (L 7 = true ∧ y = y) := .inr ⟨ea, rfl⟩
      have hset := hI.set y 1 (.string r2.2) (hI.set y 0 (.int .u8 (r2.1 : Int)) hst hme) hme
      refine ⟨hF, fun h => f0 (by simpa using h), fun h => f1 (by simpa using h), fun h => f2 (by simpa using h), fun h => f3 (by simpa using h), fun h => f4 (by simpa using h), fun h => f5 (by simpa using h), x, y, fun h => fx (by simpa using h), fun h => fy (by simpa using h), fun h k => hxy (by simpa using h) (by simpa using k), (stg_same (L := L) (i := 9) rfl rfl) ▸ (hI.sub hset (fun b hb => by simpa using hb)), fun h => ?_, fun _ => ?_⟩
      · have h' : L 6 = true := by simpa using h
        have := repAt_other (d := r2.1) (u := r2.2) (hrx h') (hxy h' ea)
        simpa using this
      · simp only [beq_self_eq_true, Bool.or_true, if_true]
        exact repAt_set hre r2.1 r2.2
    · exact absurd ((Array.getElem?_eq_some_iff.1 ho).1) (by simp [opsPqC])
  · intro L a' w' hv hall
    have hL : ∀ j, j < 10 → L j = true := fun j hj => hall j (by simpa [opsPqC] using hj)
    obtain ⟨hF, f0, f1, f2, f3, f4, f5, x, y, fx, fy, hxy, hst, hrx, hry⟩ := hv
    have hs2 : stg L = 2 := by unfold stg; rw [if_pos (hL 5 (by omega))]
    rw [hs2] at hst
    have h := hQ x y w' (hxy (hL 6 (by omega)) (hL 7 (by omega))) (hI.sub hst (fun b hb => hb.imp (fun e => ⟨hL 6 (by omega), e⟩) (fun e => ⟨hL 7 (by omega), e⟩))) (by simpa [hL 8 (by omega)] using hrx (hL 6 (by omega))) (by simpa [hL 9 (by omega)] using hry (hL 7 (by omega)))
    have hput : a' = puts [(166, .pointer (some ⟨R1, 0, none⟩)), (167, v1.val), (168, ReplyV r1), (169, .pointer (some ⟨R2, 0, none⟩)), (170, v2.val), (171, ReplyV r2), (30, .pointer (some ⟨x, 0, none⟩)), (31, .pointer (some ⟨y, 0, none⟩))] a := hF.puts _ (by
      intro z hz
      simp only [List.mem_cons, List.not_mem_nil, or_false] at hz
      rcases hz with rfl | rfl | rfl | rfl | rfl | rfl | rfl | rfl
      · exact f0 (hL 0 (by omega))
      · exact f1 (hL 1 (by omega))
      · exact f2 (hL 2 (by omega))
      · exact f3 (hL 3 (by omega))
      · exact f4 (hL 4 (by omega))
      · exact f5 (hL 5 (by omega))
      · exact fx (hL 6 (by omega))
      · exact fy (hL 7 (by omega))) rfl (by rw [hN]; rfl)
    rw [hput]
    exact h
end Go.Proofs.YtfkdlmokigeemaaDoor

-- KvAp
namespace Go.Proofs.YtfkdlmokigeemaaDoor
open Go.RowKit

theorem HasC.pair {w : World} {b : Nat} {a c : CmdV} (h : w.heap[b]? = some (.cells (a.cells ++ c.cells) 26 (0, 0))) (ha : a.ok w) (hc : c.ok w) : HasC w (some ⟨b, 0, none⟩) [a, c] := fun _ =>
  ⟨b, 0, rfl, (Array.getElem?_eq_some_iff.1 h).1, fun j hj => by
    have hj2 : j = 0 ∨ j = 1 := by simp at hj; omega
    have hs : a.cells.size = 7 := rfl
    rcases hj2 with rfl | rfl
    · refine ⟨fun i u hu => ?_, ha⟩
      rw [blk_cell h]
      have hi : i < 7 := (Array.getElem?_eq_some_iff.1 hu).1
      simp only [List.getElem_cons_zero] at hu
      try simp only [Nat.zero_mul, Nat.zero_add]
      rw [Array.getElem?_append_left (by rw [hs]; exact hi)]
      exact hu
    · refine ⟨fun i u hu => ?_, hc⟩
      rw [blk_cell h]
      simp only [List.getElem_cons_succ, List.getElem_cons_zero] at hu
      try simp only [Nat.one_mul, Nat.zero_add]
      rw [Array.getElem?_append_right (by rw [hs]; omega), hs, Nat.add_sub_cancel_left]
      exact hu⟩
abbrev kCh : ByteArray := ⟨#[99, 104, 97, 110, 103, 101, 100]⟩
def wmO (k : ByteArray) : CM := ⟨1, 0, 1, [k], kE, kCh, 0⟩
theorem eachO {k : ByteArray} (h1 : 1 ≤ k.size) (h2 : k.size ≤ 32) : ∀ x ∈ [k], 1 ≤ x.size ∧ x.size ≤ 32 := fun x hx => by
  have : x = k := by simpa using hx
  subst this; exact ⟨h1, h2⟩
theorem mayO {k : ByteArray} (h1 : 1 ≤ k.size) (h2 : k.size ≤ 32) : (wmO k).may = true := CM.may_iff.2 ⟨by show 1 ≤ 1 ∧ 1 ≤ 8; decide, eachO h1 h2, by show 0 < 1; decide, by show leastK 1 ≤ 1 ∧ 1 ≤ mostK 1; decide, by show kE.size ≤ 64; decide, by show kCh.size ≤ 64; decide, .inl rfl, .inr (.inl rfl), .inl rfl⟩
theorem doO {l : List PV} {k : ByteArray} (h1 : 1 ≤ k.size) (h2 : k.size ≤ 32) : doP l (wmO k) = (withP l k kCh, 0, kE) := doP_put (mayO h1 h2) rfl (show keyP (wmO k).ks 0 = k from rfl)
theorem blkO (V : World) (k : ByteArray) : ∃ cs, (V.alloc (.cells #[.string k] 9)).heap[V.heap.size]? = some (.cells cs 9 (0, 0)) ∧ ∀ j (hj : j < [k].length), cs[j]? = some (.string ([k][j])) :=
  ⟨_, World.alloc_heap_new V _, fun j hj => by
    have : j = 0 := by simp at hj; omega
    subst this
    rfl⟩
theorem KW.sub {T : World → Prop} {K : KvK T} {w W : World} {n : Nat} {R : Nat → Nat} {l : Nat → List PV} {P Q : Nat → Prop} (h : KW K w n R l P W) (hs : ∀ b, Q b → P b) : KW K w n R l Q W := by
  obtain ⟨F, f1, f2, f3⟩ := h.ex
  exact ⟨⟨F, f1, fun i hi k hk => ⟨(f2 i hi k hk).1, fun hq => (f2 i hi k hk).2 (hs k hq)⟩, f3⟩, h.below, fun k hk => h.p k (hs k hk)⟩
/-- Three stages. -/
def st3 {α : Type} (x y z : α) : Nat → α
  | 0 => x
  | 1 => y
  | _ => z
theorem pqi_kw {T : World → Prop} (K : KvK T) (w : World) (n : Nat) (R : Nat → Nat) (f : Nat → Nat → List PV) : PQI (fun k P W => KW K w n R (f k) P W ∧ ∀ b, P b → w.heap.size ≤ b) where
  grow := fun h hb => ⟨h.1.grew hb, h.2⟩
  more := fun o h => ⟨h.1.more ((Below.refl _ _).alloc (Nat.le_refl _) o) (Nat.le_refl _) (by simp), fun b hb => hb.elim (fun e => by rw [e]; exact h.1.below.size) (h.2 b)⟩
  set := fun b i v h hb => ⟨h.1.set hb (h.2 b hb) i v, h.2⟩
  lt := fun h hb => h.1.p _ hb
  sub := fun h hs => ⟨h.1.sub hs, fun b hb => h.2 b (hs b hb)⟩
theorem pqi_kw2 {T : World → Prop} (K : KvK T) (w : World) (n : Nat) (R : Nat → Nat) (f : Nat → Nat → List PV) (x0 y0 : Nat) (ra rb : Nat × ByteArray) :
    PQI (fun k P W => (KW K w n R (f k) (fun b => P b ∨ (b = x0 ∨ b = y0)) W ∧ ∀ b, P b → w.heap.size ≤ b ∧ b ≠ x0 ∧ b ≠ y0) ∧ RepAt W x0 ra.1 ra.2 ∧ RepAt W y0 rb.1 rb.2) where
  grow := fun h hb => ⟨⟨h.1.1.grew hb, h.1.2⟩, rep_keep h.2.1 (hb.block _ (repAt_lt h.2.1)), rep_keep h.2.2 (hb.block _ (repAt_lt h.2.2))⟩
  more := fun {k P W} o h => by
    have hb : Below W.heap.size W (W.alloc o) := (Below.refl _ W).alloc (Nat.le_refl _) o
    refine ⟨⟨(h.1.1.more hb (Nat.le_refl _) (by simp)).sub (fun b hb => ?_), fun b hb => ?_⟩, rep_keep h.2.1 (hb.block _ (repAt_lt h.2.1)), rep_keep h.2.2 (hb.block _ (repAt_lt h.2.2))⟩
    · rcases hb with (h | h) | h
      · exact .inl h
      · exact .inr (.inl h)
      · exact .inr (.inr h)
    · rcases hb with rfl | hb
      · exact ⟨h.1.1.below.size, Ne.symm (Nat.ne_of_lt (repAt_lt h.2.1)), Ne.symm (Nat.ne_of_lt (repAt_lt h.2.2))⟩
      · exact h.1.2 b hb
  set := fun b i v h hb => ⟨⟨h.1.1.set (.inl hb) (h.1.2 b hb).1 i v, h.1.2⟩, rep_keep h.2.1 (Below.heap_setCell _ _ _ _ (Ne.symm (h.1.2 b hb).2.1)), rep_keep h.2.2 (Below.heap_setCell _ _ _ _ (Ne.symm (h.1.2 b hb).2.2))⟩
  lt := fun h hb => h.1.1.p _ (.inl hb)
  sub := fun h hs => ⟨⟨h.1.1.sub (fun b hb => hb.imp (hs b) id), fun b hb => h.1.2 b (hs b hb)⟩, h.2⟩
theorem touchK_len (ks : List ByteArray) : (touchK ks).length ≤ ks.length := by
  have key : ∀ (ks : List ByteArray) (l : List PV), (ks.foldl (fun l k => withP l k ⟨#[]⟩) l).length ≤ l.length + ks.length := by
    intro ks
    induction ks with
    | nil => intro l; simp
    | cons x ks ih =>
      intro l
      have h1 := ih (withP l x ⟨#[]⟩)
      have h2 := withP_len l x ⟨#[]⟩
      rw [List.foldl_cons, List.length_cons]
      omega
  have := key ks []
  unfold touchK touchP
  rw [List.length_map]
  simpa using this
theorem great_keys {v : CmdV} (h : ¬ v.great) : v.ks.length ≤ 100 := Classical.byContradiction fun h' => h (.inr (.inr (.inl (by omega))))
end Go.Proofs.YtfkdlmokigeemaaDoor
