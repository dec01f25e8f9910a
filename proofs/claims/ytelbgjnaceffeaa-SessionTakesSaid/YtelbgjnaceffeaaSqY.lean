/- Take of a table of sessions: its readings, in plain mathematics; rows of the package's rows. -/
import Derived.Test.YtelbgjnaceffeaaSqC
import Derived.Test.YtelbgjnaceffeaaSqL
import Derived.Test.YtelbgjnaceffeaaSsK
import Derived.Test.YtelbgjnaceffeaaRdT
import Derived.Test.YtelbgjnaceffeaaRdMath
import Derived.Test.YtelbgjnaceffeaaSameT
import Derived.Maps.AppendAt
namespace Go.Proofs.Ytelbgjnaceffeaa
open Go.RowKit Go.Maps

def HasW (w : World) (A : Option Addr) (l : List SE) : Prop := l ≠ [] → ∃ b o, A = some ⟨b, o, none⟩ ∧ b < w.heap.size ∧ ∀ j (h : j < l.length), w.cell? ⟨b, o + j * 4, none⟩ = some (.int .u64 (l[j].cl : Int)) ∧ w.cell? ⟨b, o + j * 4 + 1, none⟩ = some (.int .u64 (l[j].sq : Int)) ∧ w.cell? ⟨b, o + j * 4 + 2, none⟩ = some (.int .u64 (l[j].cd : Int)) ∧ w.cell? ⟨b, o + j * 4 + 3, none⟩ = some (.string l[j].tx)
def rowC (e : SE) : List Value := [.int .u64 (e.cl : Int), .int .u64 (e.sq : Int), .int .u64 (e.cd : Int), .string e.tx]
def cellsW (l : List SE) : List Value := l.flatMap rowC
theorem cellsW_len : ∀ (l : List SE), (cellsW l).length = l.length * 4
  | [] => rfl
  | e :: l => by rw [cellsW, List.flatMap_cons, List.length_append]; have := cellsW_len l; rw [cellsW] at this; rw [this, List.length_cons]; simp [rowC]; omega
theorem cellsW_append (l m : List SE) : cellsW (l ++ m) = cellsW l ++ cellsW m := by simp [cellsW]
theorem cellsW_one (l : List SE) : ∀ u ∈ cellsW l, u.oneCell' = true := by
  intro u hu
  obtain ⟨e, _, h⟩ := List.mem_flatMap.1 hu
  simp only [rowC, List.mem_cons, List.not_mem_nil, or_false] at h
  rcases h with rfl | rfl | rfl | rfl <;> rfl
theorem cellsW_get : ∀ (l : List SE) (j : Nat) (h : j < l.length), (cellsW l)[j * 4]? = some (.int .u64 (l[j].cl : Int)) ∧ (cellsW l)[j * 4 + 1]? = some (.int .u64 (l[j].sq : Int)) ∧ (cellsW l)[j * 4 + 2]? = some (.int .u64 (l[j].cd : Int)) ∧ (cellsW l)[j * 4 + 3]? = some (.string l[j].tx)
  | [], j, h => absurd h (Nat.not_lt_zero _)
  | e :: l, 0, _ => ⟨rfl, rfl, rfl, rfl⟩
  | e :: l, j + 1, h => by
    have := cellsW_get l j (by simpa using h)
    have e2 : cellsW (e :: l) = .int .u64 (e.cl : Int) :: .int .u64 (e.sq : Int) :: .int .u64 (e.cd : Int) :: .string e.tx :: cellsW l := rfl
    rw [e2, show (j + 1) * 4 = j * 4 + 1 + 1 + 1 + 1 by omega]
    simp only [List.getElem?_cons_succ, List.getElem_cons_succ, show j * 4 + 1 + 1 + 1 + 1 + 1 = (j * 4 + 1) + 1 + 1 + 1 + 1 by omega, show j * 4 + 1 + 1 + 1 + 1 + 2 = (j * 4 + 2) + 1 + 1 + 1 + 1 by omega, show j * 4 + 1 + 1 + 1 + 1 + 3 = (j * 4 + 3) + 1 + 1 + 1 + 1 by omega]
    exact this
theorem infoW : (Try.prog.info? 55).map (fun i => (i.zero, i.size, i.bytes)) = some (some (.agg #[.int .u64 0, .int .u64 0, .int .u64 0, .string ⟨#[]⟩]), 4, 40) := by kernel_rfl
theorem infoW_parts : ∃ i, Try.prog.info? 55 = some i ∧ i.zero = some (.agg #[.int .u64 0, .int .u64 0, .int .u64 0, .string ⟨#[]⟩]) ∧ i.size = 4 ∧ i.bytes = 40 := by
  have h := infoW
  cases hi : Try.prog.info? 55 with
  | none => rw [hi] at h; cases h
  | some i => rw [hi] at h; simp at h; exact ⟨i, rfl, h.1, h.2.1, h.2.2⟩
/-- Rows that a call owns. -/
def OwnW (base : Nat) (w : World) (v : Value) (l : List SE) : Prop := w.ownsRow base 55 4 v l.length (cellsW l)
theorem OwnW.form {base : Nat} {w : World} {v : Value} {l : List SE} (h : OwnW base w v l) : ∃ A c, v = .slice A l.length c ∧ l.length ≤ c := by
  rcases h.2 with ⟨rfl, h0⟩ | ⟨g, cap, cur, rfl, _, _, hn, _⟩
  · exact ⟨none, 0, by rw [h0], by omega⟩
  · exact ⟨_, _, rfl, hn⟩
theorem OwnW.below {base : Nat} {w w' : World} {v : Value} {l : List SE} (h : OwnW base w v l) (hb : Below w.heap.size w w') : OwnW base w' v l := by
  refine World.ownsRow.kept h (grownBy_of_below (r := none) hb) ?_
  cases v.ownBlock with
  | none => exact .inl rfl
  | some x => exact .inr (by simp)
theorem OwnW.has {base : Nat} {w : World} {A : Option Addr} {n c : Nat} {l : List SE} (h : OwnW base w (.slice A n c) l) : HasW w A l := fun hl => by
  have hl' : 0 < l.length := List.length_pos_iff.2 hl
  rcases h.2 with ⟨e, h0⟩ | ⟨g, cap, cur, e, _, hg, hn, _⟩
  · omega
  · cases e
    refine ⟨g, 0, rfl, (Array.getElem?_eq_some_iff.1 hg).1, fun j hj => ?_⟩
    have c0 := World.ownsRow.cells h (g := g) rfl (j * 4) _ (cellsW_get l j hj).1
    have c1 := World.ownsRow.cells h (g := g) rfl (j * 4 + 1) _ (cellsW_get l j hj).2.1
    have c2 := World.ownsRow.cells h (g := g) rfl (j * 4 + 2) _ (cellsW_get l j hj).2.2.1
    have c3 := World.ownsRow.cells h (g := g) rfl (j * 4 + 3) _ (cellsW_get l j hj).2.2.2
    rw [addr_add] at c0 c1 c2 c3
    exact ⟨c0, by rw [Nat.add_assoc]; exact c1, by rw [Nat.add_assoc]; exact c2, by rw [Nat.add_assoc]; exact c3⟩
theorem OwnW.nil (base : Nat) (w : World) : OwnW base w (.slice none 0 0) [] := World.ownsRow_nil _ _ _ _
theorem OwnW.typed {b : Nat} {w : World} {v : Value} {l : List SE} (h : OwnW b w v l) : ∀ r, v.ownBlock = some r → ∃ cs, w.heap[r]? = some (.cells cs 55 (0, 0)) := fun r e => by
  rcases h.2 with ⟨rfl, _⟩ | ⟨g, cap, cur, rfl, _, hg, _⟩
  · cases e
  · cases e; exact ⟨_, hg⟩
theorem OwnW.same {T : List TypeId} {b : Nat} {w w' : World} {v : Value} {l : List SE} (h : OwnW b w v l) (hs : SameT T w w') (ht : 55 ∉ T) : OwnW b w' v l := by
  refine ⟨h.1, ?_⟩
  rcases h.2 with h2 | ⟨g, cap, cur, e, hb, hg, rest⟩
  · exact .inl h2
  · exact .inr ⟨g, cap, cur, e, hb, hs _ _ _ ht hg, rest⟩
/-- An append of a row to rows that the call owns. -/
theorem wpList_append_W {ops : Array Oper} {rest : List Oper} {o : Oper} {a : Act} {w : World} {Q : Exit → Act → World → Prop} (hgd : o.guard = none) (s x : Operand)
    (ho : o.op = .call { callee := .builtin .append, args := #[s, x], argTypes := #[50, 50] }) (base : Nat) (v : Value) (l : List SE) (hs : a.eval s = v) (hown : OwnW base w v l)
    (A : Option Addr) (m c : Nat) (l2 : List SE) (hx : a.eval x = .slice A m c) (hm : m = l2.length) (h0 : l2 ≠ []) (hA : HasW w A l2) (hlen : l.length + m ≤ 1000000) (hbase : base ≤ w.heap.size)
    (h : ∀ v' w', OwnW base w' v' (l ++ l2) → w.grownBy w' v.ownBlock → wpList Try.prog ops Q rest (a.put o.dst v') w') : wpList Try.prog ops Q (o :: rest) a w := by
  obtain ⟨i, hi, hz, hsz, hby⟩ := infoW_parts
  obtain ⟨b, o', rfl, hb, hc⟩ := hA h0
  refine wpList_append_own_at w hgd s x 50 ho base 55 i _ 4 40 Try.underlying50 hi hz hsz hby rfl (by omega) v l.length (cellsW l) hs hown ⟨b, o', none⟩ m c (cellsW l2) hx (by rw [cellsW_len, hm]) (fun j u hj => ?_) (cellsW_one l2) (by simp only [maxLen]; omega) (by omega) hbase ?_
  · have hjl : j < l2.length * 4 := by rw [← cellsW_len]; exact (List.getElem?_eq_some_iff.1 hj).1
    rw [addr_add]
    have hc' := hc (j / 4) (by omega)
    have hg := cellsW_get l2 (j / 4) (by omega)
    have h4 : j % 4 = 0 ∨ j % 4 = 1 ∨ j % 4 = 2 ∨ j % 4 = 3 := by omega
    rcases h4 with h2 | h2 | h2 | h2
    · have e : j = j / 4 * 4 := by omega
      rw [e, hg.1] at hj
      rw [e, ← hj]
      exact hc'.1
    · have e : j = j / 4 * 4 + 1 := by omega
      rw [e, hg.2.1] at hj
      rw [e, ← hj, ← Nat.add_assoc]
      exact hc'.2.1
    · have e : j = j / 4 * 4 + 2 := by omega
      rw [e, hg.2.2.1] at hj
      rw [e, ← hj, ← Nat.add_assoc]
      exact hc'.2.2.1
    · have e : j = j / 4 * 4 + 3 := by omega
      rw [e, hg.2.2.2] at hj
      rw [e, ← hj, ← Nat.add_assoc]
      exact hc'.2.2.2
  · intro v' w' h1 h2 _ _
    refine h v' w' ?_ h2
    unfold OwnW
    rw [cellsW_append, List.length_append, ← hm]
    exact h1
/-- A row is read. -/
def rowR (lim : Nat) : RdS → SE × RdS := bindR uR fun c => bindR uR fun s => bindR uR fun d => bindR (tR lim) fun t => pureR ⟨c, s, d, t⟩
def readS (lim : Nat) : RdS → List SE × RdS := bindR uR fun n => manyR (rowR lim) n
theorem rowR_eq (lim : Nat) (s : RdS) : rowR lim s = (⟨s.u.1, s.u.2.u.1, s.u.2.u.2.u.1, ⟨(s.u.2.u.2.u.2.t lim).1.toArray⟩⟩, (s.u.2.u.2.u.2.t lim).2) := rfl
theorem Errs.row (lim : Nat) : Errs (rowR lim) := Errs.bind Errs.u fun _ => Errs.bind Errs.u fun _ => Errs.bind Errs.u fun _ => Errs.bind (Errs.t lim) fun _ => Errs.pure _
theorem Puts.row (lim : Nat) : Puts (rowR lim) oneS := fun s h => by
  have h4 := Puts.t lim (uR (uR (uR s).2).2).2 h
  have h3 := Puts.u (uR (uR s).2).2 h4.1
  have h2 := Puts.u (uR s).2 h3.1
  have h1 := Puts.u s h2.1
  refine ⟨h1.1, ?_⟩
  rw [h1.2, h2.2, h3.2, h4.2]
  show _ = oneS ⟨(uR s).1, (uR (uR s).2).1, (uR (uR (uR s).2).2).1, (tR lim (uR (uR (uR s).2).2).2).1⟩ ++ (tR lim (uR (uR (uR s).2).2).2).2.bs
  simp only [oneS, List.append_assoc]
theorem Errs.readS (lim : Nat) : Errs (readS lim) := Errs.bind Errs.u fun n => Errs.many (Errs.row lim) n
theorem many_stop {α : Type} {f : RdS → α × RdS} : ∀ (j n : Nat) (s : RdS), j ≤ n → (manyR f j s).2.e ≠ 0 → s.e = 0 → manyR f n s = manyR f j s
  | 0, n, s, _, h, h0 => absurd h0 h
  | j + 1, 0, s, h, _, _ => absurd h (by omega)
  | j + 1, n + 1, s, hj, h, _ => by
    unfold manyR at h ⊢
    by_cases he : (f s).2.e ≠ 0
    · rw [if_pos he, if_pos he]
    · rw [if_neg he] at h ⊢
      rw [if_neg he]
      rw [many_stop j n _ (by omega) h (Decidable.not_not.1 he)]
theorem many_snoc {α : Type} {f : RdS → α × RdS} : ∀ (j : Nat) (s : RdS), (manyR f j s).2.e = 0 → manyR f (j + 1) s = if (f (manyR f j s).2).2.e ≠ 0 then ((manyR f j s).1, (f (manyR f j s).2).2) else ((manyR f j s).1 ++ [(f (manyR f j s).2).1], (f (manyR f j s).2).2)
  | 0, s, _ => rfl
  | j + 1, s, h => by
    by_cases he : (f s).2.e ≠ 0
    · unfold manyR at h
      rw [if_pos he] at h
      exact absurd h he
    · have e1 : manyR f (j + 1) s = ((f s).1 :: (manyR f j (f s).2).1, (manyR f j (f s).2).2) := by
        rw [manyR, if_neg he]
      have e2 : manyR f (j + 1 + 1) s = ((f s).1 :: (manyR f (j + 1) (f s).2).1, (manyR f (j + 1) (f s).2).2) := by
        rw [manyR, if_neg he]
      rw [e1] at h ⊢
      rw [e2, many_snoc j (f s).2 h]
      by_cases h2 : (f (manyR f j (f s).2).2).2.e ≠ 0
      · rw [if_pos h2, if_pos h2]
      · rw [if_neg h2, if_neg h2]
        rfl
theorem many_all {α : Type} {f : RdS → α × RdS} {P : α → Prop} (h : ∀ s, P (f s).1) : ∀ (n : Nat) (s : RdS), ∀ x ∈ (manyR f n s).1, P x
  | 0, _, x, hx => by cases hx
  | n + 1, s, x, hx => by
    unfold manyR at hx
    by_cases he : (f s).2.e ≠ 0
    · rw [if_pos he] at hx; cases hx
    · rw [if_neg he] at hx
      rcases List.mem_cons.1 hx with rfl | hx
      · exact h s
      · exact many_all h n _ x hx
theorem t_len (lim : Nat) (s : RdS) : (s.t lim).1.length ≤ lim := by
  unfold RdS.t
  split
  · split
    · simp
    · split
      · simp
      · rename_i h1 _
        simp only [List.length_take]
        omega
  · simp
theorem row_txt (lim : Nat) (s : RdS) : (rowR lim s).1.tx.size ≤ lim := by
  rw [rowR_eq]
  exact t_len lim _
theorem oneS_len (e : SE) : 4 ≤ (oneS e).length := by
  have h1 : 0 < (vb e.cl).length := List.length_pos_iff.2 (vb_ne _)
  have h2 : 0 < (vb e.sq).length := List.length_pos_iff.2 (vb_ne _)
  have h3 : 0 < (vb e.cd).length := List.length_pos_iff.2 (vb_ne _)
  have h4 : 0 < (vb e.tx.size).length := List.length_pos_iff.2 (vb_ne _)
  unfold oneS txt
  simp only [List.length_append]
  omega
theorem ones_flat : ∀ l : List SE, l.length * 4 ≤ (l.flatMap oneS).length
  | [] => Nat.le_refl _
  | e :: l => by
    have := ones_flat l
    have := oneS_len e
    rw [List.flatMap_cons, List.length_append, List.length_cons]
    omega
/-- Whether rows may be those of a table, behind a client. -/
def fitF (last : Nat) : List SE → Bool
  | [] => true
  | e :: r => decide (last < e.cl) && decide (e.cl ≤ 4294967295) && decide (e.sq ≤ 4294967295) && decide (e.cd ≤ 3) && fitF e.cl r
theorem fit_sorted : ∀ (l : List SE) (last : Nat), fitF last l = true → SortedE l ∧ (∀ e ∈ l, last < e.cl) ∧ ∀ e ∈ l, e.cl < 4294967296 ∧ e.sq < 4294967296 ∧ e.cd < 256
  | [], _, _ => ⟨List.Pairwise.nil, fun p hp => (by cases hp), fun p hp => (by cases hp)⟩
  | e :: r, last, h => by
    unfold fitF at h
    simp only [Bool.and_eq_true, decide_eq_true_eq] at h
    obtain ⟨⟨⟨⟨h1, h2⟩, h3⟩, h4⟩, h5⟩ := h
    obtain ⟨i1, i2, i3⟩ := fit_sorted r e.cl h5
    refine ⟨List.pairwise_cons.2 ⟨i2, i1⟩, fun q hq => ?_, fun q hq => ?_⟩
    · rcases List.mem_cons.1 hq with e' | e'
      · rw [e']; exact h1
      · exact Nat.lt_trans h1 (i2 q e')
    · rcases List.mem_cons.1 hq with e' | e'
      · rw [e']; exact ⟨by omega, by omega, by omega⟩
      · exact i3 q e'
/-- Sorted entries set one by one. -/
theorem set_take {l : List SE} (hs : SortedE l) {j : Nat} (hj : j < l.length) : setS (l.take j) l[j] = l.take (j + 1) := by
  have hlt : ∀ x ∈ l.take j, x.cl < l[j].cl := fun x hx => by
    obtain ⟨i, hi, e⟩ := List.mem_iff_getElem.1 hx
    have hi' : i < j := by rw [List.length_take] at hi; omega
    rw [List.getElem_take] at e
    have := List.pairwise_iff_getElem.1 hs i j (by omega) hj hi'
    rw [e] at this
    exact this
  unfold setS
  rw [List.take_succ_eq_append_getElem hj]
  congr 1
  · rw [List.filter_eq_self]
    exact fun x hx => decide_eq_true (hlt x hx)
  · congr 1
    rw [List.filter_eq_nil_iff]
    intro x hx
    have := hlt x hx
    simp
    omega
/-- What Take comes to. -/
theorem takeS_of (lim : Nat) (hlim : lim ≤ 1000) (bs : List UInt8) (hbs : bs.length ≤ 20000) : TakeS bs (readS lim ⟨0, bs⟩).1 (readS lim ⟨0, bs⟩).2.bs (if (readS lim ⟨0, bs⟩).2.e ≠ 0 then (readS lim ⟨0, bs⟩).2.e else if fitF 0 (readS lim ⟨0, bs⟩).1 then 0 else 11) := by
  have her := Errs.readS lim ⟨0, bs⟩ (.inl rfl)
  have hput : ∀ s, (readS lim s).2.e = 0 → s.e = 0 ∧ s.bs = bytesSS (readS lim s).1 ++ (readS lim s).2.bs := fun s h => by
    obtain ⟨k1, k2, k3⟩ := Puts.many (Puts.row lim) _ _ h
    obtain ⟨k4, k5⟩ := Puts.u s k1
    refine ⟨k4, ?_⟩
    rw [k5, k2]
    show vb (uR s).1 ++ _ = _
    unfold bytesSS
    rw [show (readS lim s).1.length = (uR s).1 from k3, List.append_assoc]
    rfl
  refine ⟨fun h => ?_, fun h => ?_⟩
  · by_cases he : (readS lim ⟨0, bs⟩).2.e ≠ 0
    · rw [if_pos he] at h; exact absurd h he
    · rw [if_neg he] at h
      have he0 := Decidable.not_not.1 he
      cases hf : fitF 0 (readS lim ⟨0, bs⟩).1 with
      | false => rw [hf] at h; simp at h
      | true =>
        obtain ⟨f1, f2, f3⟩ := fit_sorted _ _ hf
        have hb := (hput _ he0).2
        refine ⟨⟨?_, fun e he => ⟨(f3 e he).1, (f3 e he).2.1, (f3 e he).2.2, ?_⟩⟩, hb⟩
        · have h1 := ones_flat (readS lim ⟨0, bs⟩).1
          have h2 := congrArg List.length hb
          simp only [bytesSS, List.length_append] at h2
          omega
        · exact Nat.le_trans (many_all (P := fun e : SE => e.tx.size ≤ lim) (row_txt lim) _ _ e he) hlim
  · by_cases he : (readS lim ⟨0, bs⟩).2.e ≠ 0
    · rw [if_pos he]; omega
    · rw [if_neg he] at h ⊢
      cases hf : fitF 0 (readS lim ⟨0, bs⟩).1 with
      | false => simp
      | true => rw [hf] at h; simp at h
end Go.Proofs.Ytelbgjnaceffeaa
