/- Take of a table of sessions: its readings, in plain mathematics; rows of the package's rows. takeRows: the rows that a reader reads. rowsFit: whether rows may be those of a table. -/
import Derived.Test.YthmmbopibpdpiaaGreatDoorMSqA
import Derived.Test.YthmmbopibpdpiaaGreatDoorSsK
import Derived.Test.YthmmbopibpdpiaaGreatDoorMRdM
import Derived.Test.YthmmbopibpdpiaaGreatDoorSameT
import Derived.Maps.AppendAt
-- SqY
namespace Go.Proofs.YthmmbopibpdpiaaGreatDoor
open Go.RowKit Go.Maps

def HasW (w : World) (A : Option Addr) (l : List SE) : Prop := l ≠ [] → ∃ b o, A = some ⟨b, o, none⟩ ∧ b < w.heap.size ∧ ∀ j (h : j < l.length), w.cell? ⟨b, o + j * 4, none⟩ = some (.int .u64 (l[j].cl : Int)) ∧ w.cell? ⟨b, o + j * 4 + 1, none⟩ = some (.int .u64 (l[j].sq : Int)) ∧ w.cell? ⟨b, o + j * 4 + 2, none⟩ = some (.int .u64 (l[j].cd : Int)) ∧ w.cell? ⟨b, o + j * 4 + 3, none⟩ = some (.string l[j].tx)
def rowC (e : SE) : List Value := [.int .u64 (e.cl : Int), .int .u64 (e.sq : Int), .int .u64 (e.cd : Int), .string e.tx]
def cellsW (l : List SE) : List Value := l.flatMap rowC
theorem cellsW_len : ∀ (l : List SE), (cellsW l).length = l.length * 4
  | [] => rfl
  | e :: l => by rw [cellsW, List.flatMap_cons, List.length_append]; have := cellsW_len l; rw [cellsW] at this; rw [this, List.length_cons]; simp [rowC]; omega
theorem cellsW_append (l m : List SE) : cellsW (l ++ m) = cellsW l ++ cellsW m := by simp [cellsW]
theorem cellsW_one (l : List SE) : ∀ u ∈ cellsW l, u.oneCell' = true := by
  intro u hu
  obtain ⟨e, _, h⟩ := List.mem_flatMap.1 hu
  simp only [rowC, List.mem_cons, List.not_mem_nil, or_false] at h
  rcases h with rfl | rfl | rfl | rfl <;> rfl
theorem cellsW_get : ∀ (l : List SE) (j : Nat) (h : j < l.length), (cellsW l)[j * 4]? = some (.int .u64 (l[j].cl : Int)) ∧ (cellsW l)[j * 4 + 1]? = some (.int .u64 (l[j].sq : Int)) ∧ (cellsW l)[j * 4 + 2]? = some (.int .u64 (l[j].cd : Int)) ∧ (cellsW l)[j * 4 + 3]? = some (.string l[j].tx)
  | [], j, h => absurd h (Nat.not_lt_zero _)
  | e :: l, 0, _ => ⟨rfl, rfl, rfl, rfl⟩
  | e :: l, j + 1, h => by
    have := cellsW_get l j (by simpa using h)
    have e2 : cellsW (e :: l) = .int .u64 (e.cl : Int) :: .int .u64 (e.sq : Int) :: .int .u64 (e.cd : Int) :: .string e.tx :: cellsW l := rfl
    rw [e2, show (j + 1) * 4 = j * 4 + 1 + 1 + 1 + 1 by omega]
    simp only [List.getElem?_cons_succ, List.getElem_cons_succ, show j * 4 + 1 + 1 + 1 + 1 + 1 = (j * 4 + 1) + 1 + 1 + 1 + 1 by omega, show j * 4 + 1 + 1 + 1 + 1 + 2 = (j * 4 + 2) + 1 + 1 + 1 + 1 by omega, show j * 4 + 1 + 1 + 1 + 1 + 3 = (j * 4 + 3) + 1 + 1 + 1 + 1 by omega]
    exact this
theorem infoW : (Tryz.prog.info? 79).map (fun i => (i.zero, i.size, i.bytes)) = some (some (.agg #[.int .u64 0, .int .u64 0, .int .u64 0, .string ⟨#[]⟩]), 4, 40) := by kernel_rfl
theorem infoW_parts : ∃ i, Tryz.prog.info? 79 = some i ∧ i.zero = some (.agg #[.int .u64 0, .int .u64 0, .int .u64 0, .string ⟨#[]⟩]) ∧ i.size = 4 ∧ i.bytes = 40 := by
  have h := infoW
  cases hi : Tryz.prog.info? 79 with
  | none => rw [hi] at h; cases h
  | some i => rw [hi] at h; simp at h; exact ⟨i, rfl, h.1, h.2.1, h.2.2⟩
/-- Rows that a call owns. -/
def OwnW (base : Nat) (w : World) (v : Value) (l : List SE) : Prop := w.ownsRow base 79 4 v l.length (cellsW l)
theorem OwnW.form {base : Nat} {w : World} {v : Value} {l : List SE} (h : OwnW base w v l) : ∃ A c, v = .slice A l.length c ∧ l.length ≤ c := by
  rcases h.2 with ⟨rfl, h0⟩ | ⟨g, cap, cur, rfl, _, _, hn, _⟩
  · exact ⟨none, 0, by rw [h0], by omega⟩
  · exact ⟨_, _, rfl, hn⟩
theorem OwnW.below {base : Nat} {w w' : World} {v : Value} {l : List SE} (h : OwnW base w v l) (hb : Below w.heap.size w w') : OwnW base w' v l := by
  refine World.ownsRow.kept h (grownBy_of_below (r := none) hb) ?_
  cases v.ownBlock with
  | none => exact .inl rfl
  | some x => exact .inr (by simp)
theorem OwnW.has {base : Nat} {w : World} {A : Option Addr} {n c : Nat} {l : List SE} (h : OwnW base w (.slice A n c) l) : HasW w A l := fun hl => by
  have hl' : 0 < l.length := List.length_pos_iff.2 hl
  rcases h.2 with ⟨e, h0⟩ | ⟨g, cap, cur, e, _, hg, hn, _⟩
  · omega
  · cases e
    refine ⟨g, 0, rfl, (Array.getElem?_eq_some_iff.1 hg).1, fun j hj => ?_⟩
    have c0 := World.ownsRow.cells h (g := g) rfl (j * 4) _ (cellsW_get l j hj).1
    have c1 := World.ownsRow.cells h (g := g) rfl (j * 4 + 1) _ (cellsW_get l j hj).2.1
    have c2 := World.ownsRow.cells h (g := g) rfl (j * 4 + 2) _ (cellsW_get l j hj).2.2.1
    have c3 := World.ownsRow.cells h (g := g) rfl (j * 4 + 3) _ (cellsW_get l j hj).2.2.2
    rw [addr_add] at c0 c1 c2 c3
    exact ⟨c0, by rw [Nat.add_assoc]; exact c1, by rw [Nat.add_assoc]; exact c2, by rw [Nat.add_assoc]; exact c3⟩
theorem OwnW.nil (base : Nat) (w : World) : OwnW base w (.slice none 0 0) [] := World.ownsRow_nil _ _ _ _
theorem OwnW.typed {b : Nat} {w : World} {v : Value} {l : List SE} (h : OwnW b w v l) : ∀ r, v.ownBlock = some r → ∃ cs, w.heap[r]? = some (.cells cs 79 (0, 0)) := fun r e => by
  rcases h.2 with ⟨rfl, _⟩ | ⟨g, cap, cur, rfl, _, hg, _⟩
  · cases e
  · cases e; exact ⟨_, hg⟩
theorem OwnW.same {T : List TypeId} {b : Nat} {w w' : World} {v : Value} {l : List SE} (h : OwnW b w v l) (hs : SameT T w w') (ht : 79 ∉ T) : OwnW b w' v l := by
  refine ⟨h.1, ?_⟩
  rcases h.2 with h2 | ⟨g, cap, cur, e, hb, hg, rest⟩
  · exact .inl h2
  · exact .inr ⟨g, cap, cur, e, hb, hs _ _ _ ht hg, rest⟩
/-- An append of a row to rows that the call owns. -/
theorem wpList_append_W {ops : Array Oper} {rest : List Oper} {o : Oper} {a : Act} {w : World} {Q : Exit → Act → World → Prop} (hgd : o.guard = none) (s x : Operand)
    (ho : o.op = .call { callee := .builtin .append, args := #[s, x], argTypes := #[75, 75] }) (base : Nat) (v : Value) (l : List SE) (hs : a.eval s = v) (hown : OwnW base w v l)
    (A : Option Addr) (m c : Nat) (l2 : List SE) (hx : a.eval x = .slice A m c) (hm : m = l2.length) (h0 : l2 ≠ []) (hA : HasW w A l2) (hlen : l.length + m ≤ 1000000) (hbase : base ≤ w.heap.size)
    (h : ∀ v' w', OwnW base w' v' (l ++ l2) → w.grownBy w' v.ownBlock → wpList Tryz.prog ops Q rest (a.put o.dst v') w') : wpList Tryz.prog ops Q (o :: rest) a w := by
  obtain ⟨i, hi, hz, hsz, hby⟩ := infoW_parts
  obtain ⟨b, o', rfl, hb, hc⟩ := hA h0
  refine wpList_append_own_at w hgd s x 75 ho base 79 i _ 4 40 Tryz.underlying75 hi hz hsz hby rfl (by omega) v l.length (cellsW l) hs hown ⟨b, o', none⟩ m c (cellsW l2) hx (by rw [cellsW_len, hm]) (fun j u hj => ?_) (cellsW_one l2) (by simp only [maxLen]; omega) (by omega) hbase ?_
  · have hjl : j < l2.length * 4 := by rw [← cellsW_len]; exact (List.getElem?_eq_some_iff.1 hj).1
    rw [addr_add]
    have hc' := hc (j / 4) (by omega)
    have hg := cellsW_get l2 (j / 4) (by omega)
    have h4 : j % 4 = 0 ∨ j % 4 = 1 ∨ j % 4 = 2 ∨ j % 4 = 3 := by omega
    rcases h4 with h2 | h2 | h2 | h2
    · have e : j = j / 4 * 4 := by omega
      rw [e, hg.1] at hj
      rw [e, ← hj]
      exact hc'.1
    · have e : j = j / 4 * 4 + 1 := by omega
      rw [e, hg.2.1] at hj
      rw [e, ← hj, ← Nat.add_assoc]
      exact hc'.2.1
    · have e : j = j / 4 * 4 + 2 := by omega
      rw [e, hg.2.2.1] at hj
      rw [e, ← hj, ← Nat.add_assoc]
      exact hc'.2.2.1
    · have e : j = j / 4 * 4 + 3 := by omega
      rw [e, hg.2.2.2] at hj
      rw [e, ← hj, ← Nat.add_assoc]
      exact hc'.2.2.2
  · intro v' w' h1 h2 _ _
    refine h v' w' ?_ h2
    unfold OwnW
    rw [cellsW_append, List.length_append, ← hm]
    exact h1
/-- A row is read. -/
def rowR (lim : Nat) : RdS → SE × RdS := bindR uR fun c => bindR uR fun s => bindR uR fun d => bindR (tR lim) fun t => pureR ⟨c, s, d, t⟩
def readS (lim : Nat) : RdS → List SE × RdS := bindR uR fun n => manyR (rowR lim) n
theorem rowR_eq (lim : Nat) (s : RdS) : rowR lim s = (⟨s.u.1, s.u.2.u.1, s.u.2.u.2.u.1, ⟨(s.u.2.u.2.u.2.t lim).1.toArray⟩⟩, (s.u.2.u.2.u.2.t lim).2) := rfl
theorem Errs.row (lim : Nat) : Errs (rowR lim) := Errs.bind Errs.u fun _ => Errs.bind Errs.u fun _ => Errs.bind Errs.u fun _ => Errs.bind (Errs.t lim) fun _ => Errs.pure _
theorem Puts.row (lim : Nat) : Puts (rowR lim) oneS := fun s h => by
  have h4 := Puts.t lim (uR (uR (uR s).2).2).2 h
  have h3 := Puts.u (uR (uR s).2).2 h4.1
  have h2 := Puts.u (uR s).2 h3.1
  have h1 := Puts.u s h2.1
  refine ⟨h1.1, ?_⟩
  rw [h1.2, h2.2, h3.2, h4.2]
  show _ = oneS ⟨(uR s).1, (uR (uR s).2).1, (uR (uR (uR s).2).2).1, (tR lim (uR (uR (uR s).2).2).2).1⟩ ++ (tR lim (uR (uR (uR s).2).2).2).2.bs
  simp only [oneS, List.append_assoc]
theorem Errs.readS (lim : Nat) : Errs (readS lim) := Errs.bind Errs.u fun n => Errs.many (Errs.row lim) n
theorem many_all {α : Type} {f : RdS → α × RdS} {P : α → Prop} (h : ∀ s, P (f s).1) : ∀ (n : Nat) (s : RdS), ∀ x ∈ (manyR f n s).1, P x
  | 0, _, x, hx => by cases hx
  | n + 1, s, x, hx => by
    unfold manyR at hx
    by_cases he : (f s).2.e ≠ 0
    · rw [if_pos he] at hx; cases hx
    · rw [if_neg he] at hx
      rcases List.mem_cons.1 hx with rfl | hx
      · exact h s
      · exact many_all h n _ x hx
theorem t_len (lim : Nat) (s : RdS) : (s.t lim).1.length ≤ lim := by
  unfold RdS.t
  split
  · split
    · simp
    · split
      · simp
      · rename_i h1 _
        simp only [List.length_take]
        omega
  · simp
theorem row_txt (lim : Nat) (s : RdS) : (rowR lim s).1.tx.size ≤ lim := by
  rw [rowR_eq]
  exact t_len lim _
theorem oneS_len (e : SE) : 4 ≤ (oneS e).length := by
  have h1 : 0 < (vb e.cl).length := List.length_pos_iff.2 (vb_ne _)
  have h2 : 0 < (vb e.sq).length := List.length_pos_iff.2 (vb_ne _)
  have h3 : 0 < (vb e.cd).length := List.length_pos_iff.2 (vb_ne _)
  have h4 : 0 < (vb e.tx.size).length := List.length_pos_iff.2 (vb_ne _)
  unfold oneS txt
  simp only [List.length_append]
  omega
theorem ones_flat : ∀ l : List SE, l.length * 4 ≤ (l.flatMap oneS).length
  | [] => Nat.le_refl _
  | e :: l => by
    have := ones_flat l
    have := oneS_len e
    rw [List.flatMap_cons, List.length_append, List.length_cons]
    omega
/-- Whether rows may be those of a table, behind a client. -/
def fitFS (last : Nat) : List SE → Bool
  | [] => true
  | e :: r => decide (last < e.cl) && decide (e.cl ≤ 4294967295) && decide (e.sq ≤ 4294967295) && decide (e.cd ≤ 3) && fitFS e.cl r
theorem fit_sortedS : ∀ (l : List SE) (last : Nat), fitFS last l = true → SortedE l ∧ (∀ e ∈ l, last < e.cl) ∧ ∀ e ∈ l, e.cl < 4294967296 ∧ e.sq < 4294967296 ∧ e.cd < 256
  | [], _, _ => ⟨List.Pairwise.nil, fun p hp => (by cases hp), fun p hp => (by cases hp)⟩
  | e :: r, last, h => by
    unfold fitFS at h
    simp only [Bool.and_eq_true, decide_eq_true_eq] at h
    obtain ⟨⟨⟨⟨h1, h2⟩, h3⟩, h4⟩, h5⟩ := h
    obtain ⟨i1, i2, i3⟩ := fit_sortedS r e.cl h5
    refine ⟨List.pairwise_cons.2 ⟨i2, i1⟩, fun q hq => ?_, fun q hq => ?_⟩
    · rcases List.mem_cons.1 hq with e' | e'
      · rw [e']; exact h1
      · exact Nat.lt_trans h1 (i2 q e')
    · rcases List.mem_cons.1 hq with e' | e'
      · rw [e']; exact ⟨by omega, by omega, by omega⟩
      · exact i3 q e'
/-- Sorted entries set one by one. -/
theorem set_take {l : List SE} (hs : SortedE l) {j : Nat} (hj : j < l.length) : setS (l.take j) l[j] = l.take (j + 1) := by
  have hlt : ∀ x ∈ l.take j, x.cl < l[j].cl := fun x hx => by
    obtain ⟨i, hi, e⟩ := List.mem_iff_getElem.1 hx
    have hi' : i < j := by rw [List.length_take] at hi; omega
    rw [List.getElem_take] at e
    have := List.pairwise_iff_getElem.1 hs i j (by omega) hj hi'
    rw [e] at this
    exact this
  unfold setS
  rw [List.take_succ_eq_append_getElem hj]
  congr 1
  · rw [List.filter_eq_self]
    exact fun x hx => decide_eq_true (hlt x hx)
  · congr 1
    rw [List.filter_eq_nil_iff]
    intro x hx
    have := hlt x hx
    simp
    omega
theorem mem_flat {l : List SE} {e : SE} (h : e ∈ l) : e.tx.size ≤ (l.flatMap oneS).length := by
  obtain ⟨s, t, rfl⟩ := List.append_of_mem h
  have h2 : e.tx.data.toList.length = e.tx.size := Array.length_toList
  simp only [List.flatMap_append, List.flatMap_cons, List.length_append, oneS, txt]
  omega
/-- What Take comes to. -/
theorem takeS_of (lim b : Nat) (hlim : lim ≤ b ∨ 20000 ≤ b) (s0 : RdS) (h0 : s0.e = 0 ∨ s0.e = 10 ∨ s0.e = 11) (hbs : s0.bs.length ≤ 20000) : TakeB b s0.bs (readS lim s0).1 (readS lim s0).2.bs (if (readS lim s0).2.e ≠ 0 then (readS lim s0).2.e else if fitFS 0 (readS lim s0).1 then 0 else 11) := by
  have her := Errs.readS lim s0 h0
  have hput : ∀ s, (readS lim s).2.e = 0 → s.e = 0 ∧ s.bs = bytesSS (readS lim s).1 ++ (readS lim s).2.bs := fun s h => by
    obtain ⟨k1, k2, k3⟩ := Puts.many (Puts.row lim) _ _ h
    obtain ⟨k4, k5⟩ := Puts.u s k1
    refine ⟨k4, ?_⟩
    rw [k5, k2]
    show vb (uR s).1 ++ _ = _
    unfold bytesSS
    rw [show (readS lim s).1.length = (uR s).1 from k3, List.append_assoc]
    rfl
  refine ⟨fun h => ?_, fun h => ?_⟩
  · by_cases he : (readS lim s0).2.e ≠ 0
    · rw [if_pos he] at h; exact absurd h he
    · rw [if_neg he] at h
      have he0 := Decidable.not_not.1 he
      cases hf : fitFS 0 (readS lim s0).1 with
      | false => rw [hf] at h; simp at h
      | true =>
        obtain ⟨f1, f2, f3⟩ := fit_sortedS _ _ hf
        have hb := (hput _ he0).2
        refine ⟨⟨?_, fun e he => ⟨(f3 e he).1, (f3 e he).2.1, (f3 e he).2.2, ?_⟩⟩, hb⟩
        · have h1 := ones_flat (readS lim s0).1
          have h2 := congrArg List.length hb
          simp only [bytesSS, List.length_append] at h2
          omega
        · rcases hlim with hlim | hlim
          · exact Nat.le_trans (many_all (P := fun e : SE => e.tx.size ≤ lim) (row_txt lim) _ _ e he) hlim
          · have h1 := mem_flat he
            have h2 := congrArg List.length hb
            simp only [bytesSS, List.length_append] at h2
            have h3 : s0.bs.length = s0.bs.length := rfl
            omega
  · by_cases he : (readS lim s0).2.e ≠ 0
    · rw [if_pos he]; omega
    · rw [if_neg he] at h ⊢
      cases hf : fitFS 0 (readS lim s0).1 with
      | false => simp
      | true => rw [hf] at h; simp at h
end Go.Proofs.YthmmbopibpdpiaaGreatDoor

-- SqV
namespace Go.Proofs.YthmmbopibpdpiaaGreatDoor
open Go.RowKit Go.Maps

theorem row_new (w : World) (e : SE) : HasW (w.alloc (Obj.cells (rowC e).toArray 79)) (some ⟨w.heap.size, 0, none⟩) [e] := fun _ => ⟨w.heap.size, 0, rfl, (Array.getElem?_eq_some_iff.1 (World.alloc_heap_new w _)).1, fun j hj => by
  obtain rfl : j = 0 := by simpa using hj
  exact ⟨blk_cell (World.alloc_heap_new w (.cells (rowC e).toArray 79)) 0, blk_cell (World.alloc_heap_new w (.cells (rowC e).toArray 79)) 1, blk_cell (World.alloc_heap_new w (.cells (rowC e).toArray 79)) 2, blk_cell (World.alloc_heap_new w (.cells (rowC e).toArray 79)) 3⟩⟩
/-- What a call on the reader leaves. -/
theorem OwnW.kept {w W W' : World} {R n c : Nat} {A : Option Addr} {l : List SE} (h : OwnW w.heap.size W (.slice A n c) l) (hR : R < w.heap.size) (hg : W.grownBy W' (some R)) : OwnW w.heap.size W' (.slice A n c) l := by
  refine World.ownsRow.kept h hg ?_
  cases e : (Value.slice A n c).ownBlock with
  | none => exact .inl rfl
  | some x => exact .inr (fun e2 => by have := (World.ownsRow.lt h x e).1; have := Option.some.inj e2; omega)
set_option maxRecDepth 100000 in
set_option maxHeartbeats 8000000 in
theorem takeRows_any (lim : Nat) (hlim : lim ≤ 9223372036854775807) (R : Nat) (s0 : RdS) (w : World) (hbs : s0.bs.length ≤ 1000000) (h : RdQ w R lim s0) :
    Calls Tryz.prog 32 #[.pointer (some ⟨R, 0, none⟩)] w fun e W' => ∃ v, e = .returned v ∧ ((readS lim s0).2.e = 0 → OwnW w.heap.size W' v (readS lim s0).1) ∧ RdQ W' R lim (readS lim s0).2 ∧ w.grownBy W' (some R) := by
  have hR := h.lt
  have HU := Lib.hid (UintR_q h)
  obtain ⟨N, hN⟩ : ∃ N, N = (RdS.u s0).1 := ⟨_, rfl⟩
  obtain ⟨s1, hs1⟩ : ∃ s, s = (RdS.u s0).2 := ⟨_, rfl⟩
  have hN64 : N < 18446744073709551616 := by rw [hN]; exact RdS.u_lt _
  have hrd : readS lim s0 = manyR (rowR lim) N s1 := by rw [hN, hs1]; rfl
  rw [← hN, ← hs1] at HU
  rw [hrd]
  have hsb : s1.e = 0 → s1.bs.length ≤ 1000000 := fun he => by
    have he' : (uR s0).2.e = 0 := by
      show (RdS.u s0).2.e = 0
      rw [← hs1]
      exact he
    have hp := Puts.u s0 he'
    have h2 := congrArg List.length hp.2
    rw [List.length_append] at h2
    have h3 : (uR s0).2.bs = s1.bs := by rw [hs1]; rfl
    rw [h3] at h2
    have h4 : s0.bs.length = s0.bs.length := rfl
    omega
  have hn0 : 0 < N → s1.e = 0 := fun hp => Decidable.byContradiction fun he => by
    have h0 := u_zero (s := s0) (by rw [← hs1]; exact he)
    rw [← hN] at h0
    omega
  have HSB := Lib.hid (And.intro hsb (And.intro hR (And.intro hn0 hlim)))
  have HN := Lib.hid hN64
  have hNi : (N : Int) < 18446744073709551616 := by omega
  clear hN hs1 hrd hsb h hbs hR hN64 hn0 hlim
  go_enter Tryz.func32, Tryz.ntmps32
  go_wp2_with fail
  refine HU.out.mono ?_
  rintro e W1 ⟨rfl, hq1, hg1⟩
  have H1 := Lib.hid (And.intro hq1 hg1)
  clear hq1 hg1 HU
  go_wp2
  go_loopw [3, 7] (fun v i wr => ∃ (j : Nat) (A3 : Option Addr) (c3 : Nat), j ≤ N ∧ i = .int .u64 (j : Int) ∧ v = .slice A3 (manyR (rowR lim) j s1).1.length c3 ∧ Hid ((0 < N → (manyR (rowR lim) j s1).2.e = 0) ∧ OwnW w.heap.size wr v (manyR (rowR lim) j s1).1 ∧ RdQ wr R lim (manyR (rowR lim) j s1).2 ∧ w.grownBy wr (some R))) (fun _ i _ => N - (intOf i).toNat)
  case atStart => exact ⟨0, none, 0, Nat.zero_le _, rfl, rfl, Lib.hid ⟨HSB.out.2.2.1, OwnW.nil _ _, H1.out.1, H1.out.2⟩⟩
  case round =>
    obtain ⟨j, A3, c3, hj, rfl, rfl, HJ⟩ := hrel
    obtain ⟨lj, hlj⟩ : ∃ l, l = (manyR (rowR lim) j s1).1 := ⟨_, rfl⟩
    obtain ⟨sj, hsj⟩ : ∃ s, s = (manyR (rowR lim) j s1).2 := ⟨_, rfl⟩
    rw [← hlj, ← hsj] at HJ
    rw [← hlj]
    have HLS := Lib.hid (And.intro hlj hsj)
    clear hlj hsj
    by_cases hlt : j < N
    · have hji : (j : Int) < (N : Int) := by omega
      have hU1 := UintR_q HJ.out.2.2.1
      obtain ⟨cl, hcl⟩ : ∃ k, k = sj.u.1 := ⟨_, rfl⟩
      rw [← hcl] at hU1
      have HU1 := Lib.hid hU1
      have HCL := Lib.hid hcl
      clear hU1 hcl
      go_wp2_with fail
      refine HU1.out.mono ?_
      rintro e W2 ⟨rfl, hq2, hg2⟩
      have hU2 := UintR_q hq2
      obtain ⟨sq, hsq⟩ : ∃ k, k = sj.u.2.u.1 := ⟨_, rfl⟩
      rw [← hsq] at hU2
      have HU2 := Lib.hid hU2
      have HSQ := Lib.hid hsq
      have HG2 := Lib.hid hg2
      clear hU2 hsq hg2 hq2 HU1
      go_wp2_with fail
      refine HU2.out.mono ?_
      rintro e W3 ⟨rfl, hq3, hg3⟩
      have hU3 := UintR_q hq3
      obtain ⟨cd, hcd⟩ : ∃ k, k = sj.u.2.u.2.u.1 := ⟨_, rfl⟩
      rw [← hcd] at hU3
      have HU3 := Lib.hid hU3
      have HCD := Lib.hid hcd
      have HG3 := Lib.hid hg3
      clear hU3 hcd hg3 hq3 HU2
      go_wp2_with fail
      refine HU3.out.mono ?_
      rintro e W4 ⟨rfl, hq4, hg4⟩
      have hT4 := TextR_q hq4 (by have := HSB.out.2.2.2; omega)
      obtain ⟨tx, htx⟩ : ∃ k, k = str (sj.u.2.u.2.u.2.t lim).1 := ⟨_, rfl⟩
      rw [← htx] at hT4
      have HT4 := Lib.hid hT4
      have HTX := Lib.hid htx
      have HG4 := Lib.hid hg4
      clear hT4 htx hg4 hq4 HU3
      go_wp2_with fail
      refine HT4.out.mono ?_
      rintro e W5 ⟨rfl, hq5, hg5⟩
      obtain ⟨q, hq⟩ : ∃ q, q = W5.heap.size := ⟨_, rfl⟩
      obtain ⟨W6, hW6⟩ : ∃ W6, W6 = W5.alloc (Obj.cells #[.int .u64 (cl : Int), .int .u64 (sq : Int), .int .u64 (cd : Int), .string tx] 79) := ⟨_, rfl⟩
      have hB6 : Below W5.heap.size W5 W6 := by rw [hW6]; exact (Below.refl _ W5).alloc (Nat.le_refl _) _
      have k6 : W6.heap[q]? = some (.cells #[.int .u64 (cl : Int), .int .u64 (sq : Int), .int .u64 (cd : Int), .string tx] 79 (0, 0)) := by rw [hW6, hq]; exact World.alloc_heap_new W5 _
      have hrd6 := hq5.below hB6
      have hgA := grownBy_trans (grownBy_trans (grownBy_trans (grownBy_trans HJ.out.2.2.2 HG2.out) HG3.out) HG4.out) hg5
      have hgr : w.grownBy W6 (some R) := grownBy_trans hgA (by have := grownBy_of_below (r := some R) hB6; exact this)
      have hRw := HSB.out.2.1
      have own6 : OwnW w.heap.size W6 (.slice A3 lj.length c3) lj := OwnW.below ((((HJ.out.2.1.kept hRw HG2.out).kept hRw HG3.out).kept hRw HG4.out).kept hRw hg5) hB6
      have hpe : rowR lim sj = (⟨cl, sq, cd, tx⟩, (sj.u.2.u.2.u.2.t lim).2) := by rw [rowR_eq, HCL.out, HSQ.out, HCD.out, HTX.out]; rfl
      obtain ⟨s6, hs6⟩ : ∃ s, s = (sj.u.2.u.2.u.2.t lim).2 := ⟨_, rfl⟩
      rw [← hs6] at hrd6 hpe
      have HE := Lib.hid (ErrR_q hrd6)
      have c0 : W6.cell? ⟨q, 0, none⟩ = some (.int .u64 (cl : Int)) := by simpa using blk_cell k6 0
      have c1 : W6.cell? ⟨q, 1, none⟩ = some (.int .u64 (sq : Int)) := by simpa using blk_cell k6 1
      have c2 : W6.cell? ⟨q, 2, none⟩ = some (.int .u64 (cd : Int)) := by simpa using blk_cell k6 2
      have c3' : W6.cell? ⟨q, 3, none⟩ = some (.string tx) := by simpa using blk_cell k6 3
      have H6 := Lib.hid (And.intro own6 (And.intro hrd6 (And.intro hgr (And.intro hpe k6))))
      clear hg5 hq5 hB6 k6 hrd6 hgr hgA own6 hpe hs6 HT4 hRw
      go_upto_region 5 with (fail)
      rw [← hq, ← hW6]
      clear hq hW6
      go_wp2_with fail
      refine HE.out.mono ?_
      rintro e W7 ⟨rfl, rfl⟩
      have hsj : (manyR (rowR lim) j s1).2.e = 0 := by rw [← HLS.out.2]; exact HJ.out.1 (by omega)
      have hsn := many_snoc (f := rowR lim) j s1 hsj
      rw [← HLS.out.1, ← HLS.out.2, H6.out.2.2.2.1] at hsn
      by_cases he6 : s6.e = 0
      · rw [if_neg (by simpa using he6)] at hsn
        have HSN := Lib.hid hsn
        have hll : lj.length ≤ 250000 := by
          have h1 := Puts.many (Puts.row lim) j s1 hsj
          have h2 := congrArg List.length h1.2.1
          rw [List.length_append, ← HLS.out.1] at h2
          have h3 := ones_flat lj
          have h4 := HSB.out.1 h1.1
          omega
        have hlj : lj.length + 1 = (lj ++ [(⟨cl, sq, cd, tx⟩ : SE)]).length := by simp
        have HS6 := Lib.hid he6
        have he6i : (s6.e : Int) = 0 := by omega
        rw [he6i]
        have hbA : Below W6.heap.size W6 (W6.alloc (Obj.cells #[.int .u64 (cl : Int), .int .u64 (sq : Int), .int .u64 (cd : Int), .string tx] 79)) := (Below.refl _ W6).alloc (Nat.le_refl _) _
        have hgA : w.grownBy (W6.alloc (Obj.cells #[.int .u64 (cl : Int), .int .u64 (sq : Int), .int .u64 (cd : Int), .string tx] 79)) (some R) := grownBy_trans H6.out.2.2.1 (by have := grownBy_of_below (r := some R) hbA; exact this)
        have HA := Lib.hid (And.intro (OwnW.below H6.out.1 hbA) (And.intro (row_new W6 ⟨cl, sq, cd, tx⟩) (And.intro (H6.out.2.1.below hbA) hgA)))
        have hszw : w.heap.size ≤ (W6.alloc (Obj.cells #[.int .u64 (cl : Int), .int .u64 (sq : Int), .int .u64 (cd : Int), .string tx] 79)).heap.size := hgA.size
        have hadd := u64_succ hlt HN.out
        have hlen2 : lj.length + 1 ≤ 1000000 := by omega
        have HLJ := Lib.hid hlj
        clear hbA hgA hsn hsj he6 he6i hll hlj
        go_wp2_with (first
          | (at_builtin; refine wpList_append_W rfl (.tmp 21) (.tmp 23) rfl w.heap.size _ lj rfl HA.out.1 (some ⟨W6.heap.size, 0, none⟩) 1 1 [⟨cl, sq, cd, tx⟩] rfl rfl (by simp) HA.out.2.1 hlen2 hszw ?_; intro v5 W8 hown hg; have H8 := Lib.hid (And.intro hown hg); obtain ⟨A5, c5, rfl, hc5⟩ := hown.form; rw [← HLJ.out]; clear hown hg)
          | fail)
        refine ⟨⟨j + 1, A5, c5, by omega, by congr 1, by rw [HSN.out, ← HLJ.out], Lib.hid ?_⟩, by simp only [intOf]; omega⟩
        rw [HSN.out]
        have hs8 : SameT [79] (W6.alloc (Obj.cells #[.int .u64 (cl : Int), .int .u64 (sq : Int), .int .u64 (cd : Int), .string tx] 79)) W8 := SameT.grown H8.out.2 (OwnW.typed HA.out.1)
        refine ⟨fun _ => HS6.out, ?_, HA.out.2.2.1.sameK hs8 (by decide) (by decide), HA.out.2.2.2.andThen H8.out.2 (fun x hx => .inl (HA.out.1.lt x hx).1)⟩
        have := H8.out.1
        rw [← HLJ.out] at this
        exact this
      · rw [if_pos he6] at hsn
        have hst := many_stop (f := rowR lim) (j + 1) N s1 (by omega) (by rw [hsn]; exact he6) (HSB.out.2.2.1 (by omega))
        have hne : ¬ (s6.e : Int) = 0 := by omega
        have hneb : ((s6.e : Int) == 0) = false := by simpa using hne
        have HST := Lib.hid (hst.trans hsn)
        have HE6 := Lib.hid he6
        obtain ⟨E, hE⟩ : ∃ E : Int, E = (s6.e : Int) := ⟨_, rfl⟩
        rw [← hE] at hne hneb ⊢
        have hnb : (E != 0) = true := by simp [hne]
        clear hst hsn hsj he6 hE c0 c1 c2 c3'
        go_wp2
        go_ret
        exact ⟨_, rfl, fun h => absurd (by rw [HST.out] at h; exact h) HE6.out, by rw [HST.out]; exact H6.out.2.1, H6.out.2.2.1⟩
    · have hji : ¬ (j : Int) < (N : Int) := by omega
      obtain rfl : j = N := by omega
      go_wp2
      go_ret
      exact ⟨_, rfl, fun _ => by rw [← HLS.out.1]; exact HJ.out.2.1, by rw [← HLS.out.2]; exact HJ.out.2.2.1, HJ.out.2.2.2⟩
end Go.Proofs.YthmmbopibpdpiaaGreatDoor

-- SqZ
namespace Go.Proofs.YthmmbopibpdpiaaGreatDoor
open Go.RowKit Go.Maps

set_option maxRecDepth 100000 in
set_option maxHeartbeats 4000000 in
theorem fit_anyS (A : Option Addr) (L c : Nat) (l : List SE) (w : World) (hL : L = l.length) (hLm : L ≤ 1000000) (hA : HasW w A l) :
    Calls Tryz.prog 33 #[.slice A L c] w fun e W' => e = .returned (.bool (fitFS 0 l)) ∧ Below w.heap.size w W' := by
  obtain ⟨r, hr⟩ : ∃ r, r = fitFS 0 l := ⟨_, rfl⟩
  rw [← hr]
  have HR := Lib.hid hr
  have HL := Lib.hid hL
  have HA := Lib.hid hA
  have hLi : (L : Int) ≤ 1000000 := by omega
  clear hL hA hr
  go_enter Tryz.func33, Tryz.ntmps33
  go_wp2
  go_loopw [3, 8] (fun t i wr => ∃ (j T : Nat), j ≤ L ∧ i = .int .i64 (j : Int) ∧ t = .int .u64 (T : Int) ∧ Hid (r = fitFS T (l.drop j)) ∧ Hid (Below w.heap.size w wr)) (fun _ i _ => L - (intOf i).toNat)
  case atStart => exact ⟨0, 0, Nat.zero_le _, rfl, rfl, HR, Lib.hid (Below.refl _ _)⟩
  case round =>
    obtain ⟨j, T, hj, rfl, rfl, HF, HB⟩ := hrel
    by_cases hlt : j < L
    · have hji : (j : Int) < L := by omega
      have hj1 : j < l.length := by have := HL.out; omega
      obtain ⟨b, o, e1, l1, f1⟩ := HA.out (by rintro rfl; simp at hj1)
      subst e1
      obtain ⟨g1, g2, g3, g4⟩ := f1 j hj1
      have hfj : r = (decide (T < l[j].cl) && decide (l[j].cl ≤ 4294967295) && decide (l[j].sq ≤ 4294967295) && decide (l[j].cd ≤ 3) && fitFS l[j].cl (l.drop (j + 1))) := by
        rw [HF.out, List.drop_eq_getElem_cons hj1]
        rfl
      obtain ⟨⟨cl, sq, cd, tx⟩, he⟩ : ∃ e, e = l[j] := ⟨_, rfl⟩
      rw [← he] at g1 g2 g3 g4 hfj
      simp only at g1 g2 g3 g4 hfj
      have x1 := (HB.out.cell (p := ⟨b, o + j * 4, none⟩) l1).trans g1
      have x2 := (HB.out.cell (p := ⟨b, o + j * 4 + 1, none⟩) l1).trans g2
      have x3 := (HB.out.cell (p := ⟨b, o + j * 4 + 2, none⟩) l1).trans g3
      have x4 := (HB.out.cell (p := ⟨b, o + j * 4 + 3, none⟩) l1).trans g4
      have HFJ := Lib.hid hfj
      obtain ⟨q, hq⟩ : ∃ q, q = wr.heap.size := ⟨_, rfl⟩
      obtain ⟨W1, hW1⟩ : ∃ W1, W1 = wr.alloc (Obj.cells #[.int .u64 (cl : Int), .int .u64 (sq : Int), .int .u64 (cd : Int), .string tx] 79) := ⟨_, rfl⟩
      have hB1 : Below wr.heap.size wr W1 := by rw [hW1]; exact (Below.refl _ wr).alloc (Nat.le_refl _) _
      have k1 : W1.heap[q]? = some (.cells #[.int .u64 (cl : Int), .int .u64 (sq : Int), .int .u64 (cd : Int), .string tx] 79 (0, 0)) := by rw [hW1, hq]; exact World.alloc_heap_new wr _
      have c0 : W1.cell? ⟨q, 0, none⟩ = some (.int .u64 (cl : Int)) := by simpa using blk_cell k1 0
      have c1 : W1.cell? ⟨q, 1, none⟩ = some (.int .u64 (sq : Int)) := by simpa using blk_cell k1 1
      have c2 : W1.cell? ⟨q, 2, none⟩ = some (.int .u64 (cd : Int)) := by simpa using blk_cell k1 2
      have HB1 := Lib.hid (HB.out.trans (Below.mono hB1 HB.out.size))
      clear f1 g1 g2 g3 g4 l1 he hfj hB1 k1
      go_upto_region 5 with (fail)
      rw [← hq, ← hW1]
      clear x1 x2 x3 x4 hq hW1
      by_cases h1 : T < cl
      · have h1i : ¬ (cl : Int) ≤ (T : Int) := by omega
        by_cases h2 : cl ≤ 4294967295
        · have h2i : ¬ (4294967295 : Int) < (cl : Int) := by omega
          by_cases h3 : sq ≤ 4294967295
          · have h3i : ¬ (4294967295 : Int) < (sq : Int) := by omega
            by_cases h4 : cd ≤ 3
            · have h4i : ¬ (3 : Int) < (cd : Int) := by omega
              have HFN : Hid (r = fitFS cl (l.drop (j + 1))) := Lib.hid (by rw [HFJ.out, decide_eq_true h1, decide_eq_true h2, decide_eq_true h3, decide_eq_true h4]; rfl)
              clear h1 h2 h3 h4
              go_wp2
              exact ⟨⟨j + 1, cl, by omega, by congr 1, rfl, HFN, HB1⟩, by simp only [intOf]; omega⟩
            · have h4i : (3 : Int) < (cd : Int) := by omega
              have hrf : r = false := by rw [HFJ.out, decide_eq_false h4]; simp
              subst hrf
              clear h1 h2 h3 h4
              go_wp2
              go_ret
              exact ⟨rfl, HB1.out⟩
          · have h3i : (4294967295 : Int) < (sq : Int) := by omega
            have hrf : r = false := by rw [HFJ.out, decide_eq_false h3]; simp
            subst hrf
            clear h1 h2 h3
            go_wp2
            go_ret
            exact ⟨rfl, HB1.out⟩
        · have h2i : (4294967295 : Int) < (cl : Int) := by omega
          have hrf : r = false := by rw [HFJ.out, decide_eq_false h2]; simp
          subst hrf
          clear h1 h2
          go_wp2
          go_ret
          exact ⟨rfl, HB1.out⟩
      · have h1i : (cl : Int) ≤ (T : Int) := by omega
        have hrf : r = false := by rw [HFJ.out, decide_eq_false h1]; simp
        subst hrf
        clear h1
        go_wp2
        go_ret
        exact ⟨rfl, HB1.out⟩
    · have hji : ¬ (j : Int) < L := by omega
      obtain rfl : j = L := by omega
      have hrt : r = true := by rw [HF.out, List.drop_of_length_le (by have := HL.out; omega)]; rfl
      subst hrt
      go_wp2
      go_ret
      exact ⟨rfl, HB.out⟩
end Go.Proofs.YthmmbopibpdpiaaGreatDoor
