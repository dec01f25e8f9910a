/- Take: its readings, in plain mathematics; rows of the package's pairs. Take: takePairs, pairsFit, then the pairs one by one. takePairs: the pairs that a reader reads. Take; Put and Take as the walks want them. -/
import Derived.Test.YthmmbopibpdpiaaGreatDoorMKqA
import Derived.Test.YthmmbopibpdpiaaGreatDoorMKvL
import Derived.Test.YthmmbopibpdpiaaGreatDoorMRdM
import Derived.Maps.AppendAt
import Derived.Test.YthmmbopibpdpiaaGreatDoorMKqR
import Derived.Test.YthmmbopibpdpiaaGreatDoorMRdE
-- KqY
namespace Go.Proofs.YthmmbopibpdpiaaGreatDoor
open Go.RowKit

theorem infoKp : (Tryz.prog.info? 73).map (fun i => (i.zero, i.size, i.bytes)) = some (some (.agg #[.string ⟨#[]⟩, .string ⟨#[]⟩]), 2, 32) := by kernel_rfl
theorem infoKp_parts : ∃ i, Tryz.prog.info? 73 = some i ∧ i.zero = some (.agg #[.string ⟨#[]⟩, .string ⟨#[]⟩]) ∧ i.size = 2 ∧ i.bytes = 32 := by
  have h := infoKp
  cases hi : Tryz.prog.info? 73 with
  | none => rw [hi] at h; cases h
  | some i => rw [hi] at h; simp at h; exact ⟨i, rfl, h.1, h.2.1, h.2.2⟩
/-- Pairs that a call owns. -/
def OwnK (base : Nat) (w : World) (v : Value) (l : List PV) : Prop := w.ownsRow base 73 2 v l.length (cellsP l)
theorem OwnK.form {base : Nat} {w : World} {v : Value} {l : List PV} (h : OwnK base w v l) : ∃ A c, v = .slice A l.length c ∧ l.length ≤ c := by
  rcases h.2 with ⟨rfl, h0⟩ | ⟨g, cap, cur, rfl, _, _, hn, _⟩
  · exact ⟨none, 0, by rw [h0], by omega⟩
  · exact ⟨_, _, rfl, hn⟩
theorem OwnK.below {base : Nat} {w w' : World} {v : Value} {l : List PV} (h : OwnK base w v l) (hb : Below w.heap.size w w') : OwnK base w' v l := by
  refine World.ownsRow.kept h (grownBy_of_below (r := none) hb) ?_
  cases v.ownBlock with
  | none => exact .inl rfl
  | some x => exact .inr (by simp)
theorem OwnK.has {base : Nat} {w : World} {A : Option Addr} {n c : Nat} {l : List PV} (h : OwnK base w (.slice A n c) l) : HasP w A l := fun hl => by
  have hl' : 0 < l.length := List.length_pos_iff.2 hl
  rcases h.2 with ⟨e, h0⟩ | ⟨g, cap, cur, e, _, hg, hn, _⟩
  · omega
  · cases e
    refine ⟨g, 0, rfl, (Array.getElem?_eq_some_iff.1 hg).1, fun j hj => ?_⟩
    have c0 := World.ownsRow.cells h (g := g) rfl (j * 2) _ (cellsP_get l j hj).1
    have c1 := World.ownsRow.cells h (g := g) rfl (j * 2 + 1) _ (cellsP_get l j hj).2
    rw [addr_add] at c0 c1
    exact ⟨c0, by rw [Nat.add_assoc]; exact c1⟩
theorem OwnK.nil (base : Nat) (w : World) : OwnK base w (.slice none 0 0) [] := World.ownsRow_nil _ _ _ _
/-- An append of pairs to pairs that the call owns. -/
theorem wpList_append_K {ops : Array Oper} {rest : List Oper} {o : Oper} {a : Act} {w : World} {Q : Exit → Act → World → Prop} (hgd : o.guard = none) (s x : Operand)
    (ho : o.op = .call { callee := .builtin .append, args := #[s, x], argTypes := #[69, 69] }) (base : Nat) (v : Value) (l : List PV) (hs : a.eval s = v) (hown : OwnK base w v l)
    (A : Option Addr) (m c : Nat) (l2 : List PV) (hx : a.eval x = .slice A m c) (hm : m = l2.length) (hA : HasP w A l2) (hlen : l.length + m ≤ 1000000) (hbase : base ≤ w.heap.size)
    (h : ∀ v' w', OwnK base w' v' (l ++ l2) → w.grownBy w' v.ownBlock → wpList Tryz.prog ops Q rest (a.put o.dst v') w') : wpList Tryz.prog ops Q (o :: rest) a w := by
  obtain ⟨i, hi, hz, hsz, hby⟩ := infoKp_parts
  by_cases h0 : l2 = []
  · subst h0
    obtain rfl : m = 0 := hm
    refine wpList_plain hgd fun K hK => ?_
    have hrun : (Builtin.append_ #[69, 69] o.type #[v, .slice A 0 c]).run Tryz.prog w = .ok v w := by
      have hfc : ∀ k, (Builtin.firstCells 2 0 (.slice A 0 k)).run Tryz.prog w = .ok #[] w := fun k => by
        cases A <;> simp [Builtin.firstCells, loadCells, loadCellsFrom]
      rcases hown.2 with ⟨rfl, _⟩ | ⟨g, cap, cur, rfl, _, hg, hnc, _⟩
      · simp [Builtin.append_, run_underlying Tryz.underlying69, sizeOf, typeInfo, hi, Builtin.lenOf, hsz, hfc]
      · simp [Builtin.append_, run_underlying Tryz.underlying69, sizeOf, typeInfo, hi, Builtin.lenOf, hsz, hfc, hnc, storeCells]
    unfold Oper.wp execOp
    simp only [ho, resolve, invoke, builtin, Sem.run_bind, Sem.run_pure, Result.andThen_ok, List.map_toArray, List.map_cons, List.map_nil, hs, hx, hrun]
    exact hK _ _ (h v w (by rw [List.append_nil]; exact hown) ⟨rfl, rfl, rfl, Nat.le_refl _, fun _ _ _ => rfl⟩)
  · obtain ⟨b, o', rfl, hb, hc⟩ := hA h0
    refine wpList_append_own_at w hgd s x 69 ho base 73 i _ 2 32 Tryz.underlying69 hi hz hsz hby rfl (by omega) v l.length (cellsP l) hs hown ⟨b, o', none⟩ m c (cellsP l2) hx (by rw [cellsP_len, hm]) (fun j u hj => ?_) (cellsP_one l2) (by simp only [maxLen]; omega) (by omega) hbase ?_
    · have hjl : j < l2.length * 2 := by rw [← cellsP_len]; exact (List.getElem?_eq_some_iff.1 hj).1
      rw [addr_add]
      rcases Nat.mod_two_eq_zero_or_one j with h2 | h2
      · have e : j = j / 2 * 2 := by omega
        have hc' := hc (j / 2) (by omega)
        have hg := cellsP_get l2 (j / 2) (by omega)
        rw [e, hg.1] at hj
        rw [e, ← hj]
        exact hc'.1
      · have e : j = j / 2 * 2 + 1 := by omega
        have hc' := hc (j / 2) (by omega)
        have hg := cellsP_get l2 (j / 2) (by omega)
        rw [e, hg.2] at hj
        rw [e, ← hj, ← Nat.add_assoc]
        exact hc'.2
    · intro v' w' h1 h2 _ _
      refine h v' w' ?_ h2
      unfold OwnK
      rw [cellsP_append, List.length_append, ← hm]
      exact h1
theorem OwnK.mono {b b' : Nat} {w : World} {v : Value} {l : List PV} (h : OwnK b w v l) (hb : b' ≤ b) : OwnK b' w v l := by
  refine ⟨h.1, ?_⟩
  rcases h.2 with h2 | ⟨g, cap, cur, e, h1, h2⟩
  · exact .inl h2
  · exact .inr ⟨g, cap, cur, e, Nat.le_trans hb h1, h2⟩
/-- A pair is read. -/
def pairR (lim : Nat) : RdS → PV × RdS := bindR (tR lim) fun k => bindR (tR lim) fun v => pureR (k, v)
def readP (lim : Nat) : RdS → List PV × RdS := bindR uR fun n => manyR (pairR lim) n
theorem pairR_eq (lim : Nat) (s : RdS) : pairR lim s = ((⟨(s.t lim).1.toArray⟩, ⟨((s.t lim).2.t lim).1.toArray⟩), ((s.t lim).2.t lim).2) := rfl
theorem Stays.pair (lim : Nat) : Stays (pairR lim) := Stays.bind (Stays.t lim) fun _ => Stays.bind (Stays.t lim) fun _ => Stays.pure _
theorem Errs.pair (lim : Nat) : Errs (pairR lim) := Errs.bind (Errs.t lim) fun _ => Errs.bind (Errs.t lim) fun _ => Errs.pure _
theorem Good.pair {lim : Nat} {p : PV} (h1 : p.1.size ≤ lim) (h2 : p.2.size ≤ lim) (hl : lim < 18446744073709551616) : Good (pairR lim) (pairB p) p :=
  Good.bind (Good.t h1 hl) (Good.bindNil (Good.t h2 hl) (Good.pure _) fun _ => Stays.pure _) fun _ => Stays.bind (Stays.t lim) fun _ => Stays.pure _
theorem Puts.pair (lim : Nat) : Puts (pairR lim) pairB := fun s h => by
  have h2 := Puts.t lim (tR lim s).2 h
  have h1 := Puts.t lim s h2.1
  refine ⟨h1.1, ?_⟩
  rw [h1.2, h2.2]
  show _ = pairB ((tR lim s).1, (tR lim (tR lim s).2).1) ++ (tR lim (tR lim s).2).2.bs
  rw [pairB, List.append_assoc]
theorem Errs.read (lim : Nat) : Errs (readP lim) := Errs.bind Errs.u fun n => Errs.many (Errs.pair lim) n
theorem pairB_len (p : PV) : 2 ≤ (pairB p).length := by
  have h1 : 0 < (vb p.1.size).length := List.length_pos_iff.2 (vb_ne _)
  have h2 : 0 < (vb p.2.size).length := List.length_pos_iff.2 (vb_ne _)
  unfold pairB txt
  simp only [List.length_append]
  omega
theorem pairs_flat : ∀ l : List PV, l.length * 2 ≤ (l.flatMap pairB).length
  | [] => Nat.le_refl _
  | p :: l => by
    have := pairs_flat l
    have := pairB_len p
    rw [List.flatMap_cons, List.length_append, List.length_cons]
    omega
/-- Whether pairs may be those of a state, behind a key. -/
def fitF (last : ByteArray) : List PV → Bool
  | [] => true
  | p :: r => ltB last p.1 && decide (p.1.size ≤ 32) && decide (p.2.size ≤ 64) && fitF p.1 r
theorem fit_sorted : ∀ (l : List PV) (last : ByteArray), fitF last l = true → SortedP l ∧ (∀ p ∈ l, ltB last p.1 = true) ∧ ∀ p ∈ l, p.1.size ≤ 32 ∧ p.2.size ≤ 64
  | [], _, _ => ⟨List.Pairwise.nil, fun p hp => (by cases hp), fun p hp => (by cases hp)⟩
  | p :: r, last, h => by
    unfold fitF at h
    simp only [Bool.and_eq_true, decide_eq_true_eq] at h
    obtain ⟨⟨⟨h1, h2⟩, h3⟩, h4⟩ := h
    obtain ⟨i1, i2, i3⟩ := fit_sorted r p.1 h4
    refine ⟨List.pairwise_cons.2 ⟨i2, i1⟩, fun q hq => ?_, fun q hq => ?_⟩
    · rcases List.mem_cons.1 hq with e | e
      · rw [e]; exact h1
      · exact ltB_trans h1 (i2 q e)
    · rcases List.mem_cons.1 hq with e | e
      · rw [e]; exact ⟨h2, h3⟩
      · exact i3 q e
theorem fit_of : ∀ (l : List PV) (last : ByteArray), SortedP l → (∀ p ∈ l, ltB last p.1 = true) → (∀ p ∈ l, p.1.size ≤ 32 ∧ p.2.size ≤ 64) → fitF last l = true
  | [], _, _, _, _ => rfl
  | p :: r, last, hs, hl, hz => by
    have hs' := List.pairwise_cons.1 hs
    have hp := List.mem_cons_self (a := p) (l := r)
    unfold fitF
    rw [hl p hp, decide_eq_true (hz p hp).1, decide_eq_true (hz p hp).2, fit_of r p.1 hs'.2 hs'.1 (fun q hq => hz q (List.mem_cons_of_mem _ hq))]
    rfl
theorem empty_lt {k : ByteArray} (h : 1 ≤ k.size) : ltB ⟨#[]⟩ k = true := by
  unfold ltB
  rw [ByteArray.toList_eq, ByteArray.toList_eq]
  cases hc : k.data.toList with
  | nil =>
    have : k.data.size = 0 := by rw [← Array.length_toList, hc]; rfl
    exact absurd h (by rw [show k.size = k.data.size from rfl, this]; decide)
  | cons a r => rfl
/-- Sorted pairs put one by one. -/
theorem put_take {l : List PV} (hs : SortedP l) {j : Nat} (hj : j < l.length) : withP (l.take j) l[j].1 l[j].2 = l.take (j + 1) := by
  have s1 : SortedP (l.take j) := List.Pairwise.sublist (List.take_sublist _ _) hs
  refine SortedP.ext (s1.with_ _ _) (List.Pairwise.sublist (List.take_sublist _ _) hs) fun k => ?_
  rw [lookP_with, List.take_succ_eq_append_getElem hj, lookP_append, lookP_cons, lookP_nil]
  by_cases h : k = l[j].1
  · rw [if_pos h, if_pos h.symm]
    have : lookP (l.take j) k = none := lookP_no fun p hp => by
      obtain ⟨i, hi, e⟩ := List.mem_iff_getElem.1 hp
      have hi' : i < j := by rw [List.length_take] at hi; omega
      rw [List.getElem_take] at e
      have := List.pairwise_iff_getElem.1 hs i j (by omega) hj hi'
      rw [e] at this
      exact fun e2 => absurd this (by rw [e2, h, ltB_irr]; decide)
    rw [this]
    rfl
  · rw [if_neg h, if_neg (fun e => h e.symm), Option.or_none]
/-- What Take comes to. -/
theorem takeO_of (lim : Nat) (s0 : RdS) (h0 : s0.e = 0 ∨ s0.e = 10 ∨ s0.e = 11) : TakeO s0.bs (readP lim s0).1 (readP lim s0).2.bs (if (readP lim s0).2.e ≠ 0 then (readP lim s0).2.e else if fitF ⟨#[]⟩ (readP lim s0).1 then 0 else 11) := by
  have her := Errs.read lim s0 h0
  have hput : ∀ s, (readP lim s).2.e = 0 → s.e = 0 ∧ s.bs = bytesP (readP lim s).1 ++ (readP lim s).2.bs := fun s h => by
    obtain ⟨k1, k2, k3⟩ := Puts.many (Puts.pair lim) _ _ h
    obtain ⟨k4, k5⟩ := Puts.u s k1
    refine ⟨k4, ?_⟩
    rw [k5, k2]
    show vb (uR s).1 ++ _ = _
    unfold bytesP
    rw [show (readP lim s).1.length = (uR s).1 from k3, List.append_assoc]
    rfl
  refine ⟨fun h => ?_, fun h => ?_⟩
  · by_cases he : (readP lim s0).2.e ≠ 0
    · rw [if_pos he] at h; exact absurd h he
    · rw [if_neg he] at h
      have he0 := Decidable.not_not.1 he
      cases hf : fitF ⟨#[]⟩ (readP lim s0).1 with
      | false => rw [hf] at h; simp at h
      | true =>
        obtain ⟨f1, f2, f3⟩ := fit_sorted _ _ hf
        have hb := (hput _ he0).2
        refine ⟨f1, fun hl => ⟨?_, fun p hp => ⟨by have := (f3 p hp).1; omega, by have := (f3 p hp).2; omega⟩⟩, hb⟩
        have h1 := pairs_flat (readP lim s0).1
        have h2 := congrArg List.length hb
        simp only [bytesP, List.length_append] at h2
        omega
  · by_cases he : (readP lim s0).2.e ≠ 0
    · rw [if_pos he]; omega
    · rw [if_neg he] at h ⊢
      cases hf : fitF ⟨#[]⟩ (readP lim s0).1 with
      | false => simp
      | true => rw [hf] at h; simp at h
theorem takeR_of (lim : Nat) (h64 : 64 ≤ lim) (hlim : lim ≤ 9223372036854775807) (bs : List UInt8) : TakeR bs (readP lim ⟨0, bs⟩).1 (readP lim ⟨0, bs⟩).2.bs (if (readP lim ⟨0, bs⟩).2.e ≠ 0 then (readP lim ⟨0, bs⟩).2.e else if fitF ⟨#[]⟩ (readP lim ⟨0, bs⟩).1 then 0 else 11) := by
  refine ⟨(takeO_of lim ⟨0, bs⟩ (.inl rfl)).ok, (takeO_of lim ⟨0, bs⟩ (.inl rfl)).no, fun m hm hz hn hb => ?_⟩
  · have hread : readP lim ⟨0, bs⟩ = (m, ⟨0, []⟩) := by
      have hg := Good.many (f := pairR lim) (E := pairB) m (fun p hp => Good.pair (by have := (hz p hp).2.1; omega) (by have := (hz p hp).2.2; omega) (by omega))
      have hu := (Good.u (n := m.length) (by omega)).all (m.flatMap pairB)
      show manyR (pairR lim) (uR ⟨0, bs⟩).1 (uR ⟨0, bs⟩).2 = _
      rw [hb]
      unfold bytesP
      rw [hu]
      have := hg.all []
      rw [List.append_nil] at this
      exact this
    rw [hread]
    have hf : fitF ⟨#[]⟩ m = true := fit_of m _ hm (fun p hp => empty_lt (hz p hp).1) (fun p hp => ⟨(hz p hp).2.1, (hz p hp).2.2⟩)
    simp [hf]
theorem takeR_at (lim : Nat) (h64 : 64 ≤ lim) (hlim : lim ≤ 9223372036854775807) (s0 : RdS) (hz : s0.e = 0) : TakeR s0.bs (readP lim s0).1 (readP lim s0).2.bs (if (readP lim s0).2.e ≠ 0 then (readP lim s0).2.e else if fitF ⟨#[]⟩ (readP lim s0).1 then 0 else 11) := by
  obtain ⟨e, bs⟩ := s0
  simp only at hz
  subst hz
  exact takeR_of lim h64 hlim bs
end Go.Proofs.YthmmbopibpdpiaaGreatDoor

-- KqZ
namespace Go.Proofs.YthmmbopibpdpiaaGreatDoor
open Go.RowKit Go.Maps

theorem leq_lt (a b : ByteArray) : (Op.bytesLess a.toList b.toList || a.toList == b.toList) = !ltB b a := by
  by_cases h : a = b
  · subst h
    rw [ltB_irr]
    simp
  · have hne : (a.toList == b.toList) = false := by simpa using fun e => h (toList_inj9.1 e)
    rw [hne, Bool.or_false]
    show ltB a b = _
    cases hab : ltB a b with
    | true =>
      cases hba : ltB b a with
      | false => rfl
      | true => have := ltB_trans hab hba; rw [ltB_irr] at this; cases this
    | false => rw [ltB_tot h hab]; rfl
theorem run_leq (t : TypeId) (w : World) (a b : ByteArray) : (binOp .leq t (.string a) (.string b)).run Tryz.prog w = .ok (.bool (!ltB b a)) w := by
  rw [show binOp .leq t (.string a) (.string b) = pure (.bool (Op.bytesLess a.toList b.toList || a.toList == b.toList)) by simp [binOp, Op.stringOp], leq_lt]
  rfl
set_option maxRecDepth 100000 in
set_option maxHeartbeats 4000000 in
theorem fit_any (A : Option Addr) (L c : Nat) (l : List PV) (w : World) (hL : L = l.length) (hLm : L ≤ 1000000) (hA : HasP w A l) :
    Calls Tryz.prog 30 #[.slice A L c] w fun e W' => e = .returned (.bool (fitF ⟨#[]⟩ l)) ∧ Below w.heap.size w W' := by
  obtain ⟨r, hr⟩ : ∃ r, r = fitF ⟨#[]⟩ l := ⟨_, rfl⟩
  rw [← hr]
  have HR := Lib.hid hr
  have HL := Lib.hid hL
  have HA := Lib.hid hA
  have hLi : (L : Int) ≤ 1000000 := by omega
  clear hL hA hr
  go_enter Tryz.func30, Tryz.ntmps30
  go_wp2
  go_loopw [3, 8] (fun t i wr => ∃ (j : Nat) (T : ByteArray), j ≤ L ∧ i = .int .i64 (j : Int) ∧ t = .string T ∧ Hid (r = fitF T (l.drop j)) ∧ Hid (Below w.heap.size w wr)) (fun _ i _ => L - (intOf i).toNat)
  case atStart => exact ⟨0, ⟨#[]⟩, Nat.zero_le _, rfl, rfl, HR, Lib.hid (Below.refl _ _)⟩
  case round =>
    obtain ⟨j, T, hj, rfl, rfl, HF, HB⟩ := hrel
    by_cases hlt : j < L
    · have hji : (j : Int) < L := by omega
      have hj1 : j < l.length := by have := HL.out; omega
      obtain ⟨b, o, e1, l1, f1⟩ := HA.out (by rintro rfl; simp at hj1)
      subst e1
      obtain ⟨g1, g2⟩ := f1 j hj1
      obtain ⟨k, hk⟩ : ∃ k, k = l[j].1 := ⟨_, rfl⟩
      obtain ⟨v, hv⟩ : ∃ v, v = l[j].2 := ⟨_, rfl⟩
      rw [← hk] at g1
      rw [← hv] at g2
      have x1 := (HB.out.cell (p := ⟨b, o + j * 2, none⟩) l1).trans g1
      have x2 := (HB.out.cell (p := ⟨b, o + j * 2 + 1, none⟩) l1).trans g2
      have hfj : r = (ltB T k && decide (k.size ≤ 32) && decide (v.size ≤ 64) && fitF k (l.drop (j + 1))) := by
        rw [HF.out, List.drop_eq_getElem_cons hj1, hk, hv]
        rfl
      have HFJ := Lib.hid hfj
      obtain ⟨q, hq⟩ : ∃ q, q = wr.heap.size := ⟨_, rfl⟩
      obtain ⟨W1, hW1⟩ : ∃ W1, W1 = wr.alloc (Obj.cells #[.string k, .string v] 73) := ⟨_, rfl⟩
      have hB1 : Below wr.heap.size wr W1 := by rw [hW1]; exact (Below.refl _ wr).alloc (Nat.le_refl _) _
      have k1 : W1.heap[q]? = some (.cells #[.string k, .string v] 73 (0, 0)) := by rw [hW1, hq]; exact World.alloc_heap_new wr _
      have c0 : W1.cell? ⟨q, 0, none⟩ = some (.string k) := by simpa using blk_cell k1 0
      have c1 : W1.cell? ⟨q, 1, none⟩ = some (.string v) := by simpa using blk_cell k1 1
      have HB1 := Lib.hid (HB.out.trans (Below.mono hB1 HB.out.size))
      have hleq := run_leq 9 W1 k T
      clear f1 g1 g2 l1 hk hv hfj hB1 k1
      go_upto_region 5 with (fail)
      rw [← hq, ← hW1]
      clear x1 x2 hq hW1
      cases ht : ltB T k with
      | false =>
        rw [ht] at hleq
        have hrf : r = false := by rw [HFJ.out, ht]; rfl
        subst hrf
        clear ht
        go_wp2
        go_ret
        exact ⟨rfl, HB1.out⟩
      | true =>
        rw [ht] at hleq
        have HT := Lib.hid ht
        clear ht
        by_cases hk2 : k.size ≤ 32
        · have hk2i : ¬ (32 : Int) < (k.size : Int) := by omega
          by_cases hv2 : v.size ≤ 64
          · have hv2i : ¬ (64 : Int) < (v.size : Int) := by omega
            have HFN : Hid (r = fitF k (l.drop (j + 1))) := Lib.hid (by rw [HFJ.out, HT.out, decide_eq_true hk2, decide_eq_true hv2]; rfl)
            clear hk2 hv2
            go_wp2
            exact ⟨⟨j + 1, k, by omega, by congr 1, rfl, HFN, HB1⟩, by simp only [intOf]; omega⟩
          · have hv2i : (64 : Int) < (v.size : Int) := by omega
            have hrf : r = false := by rw [HFJ.out, decide_eq_false hv2]; simp
            subst hrf
            clear hk2 hv2
            go_wp2
            go_ret
            exact ⟨rfl, HB1.out⟩
        · have hk2i : (32 : Int) < (k.size : Int) := by omega
          have hrf : r = false := by rw [HFJ.out, decide_eq_false hk2]; simp
          subst hrf
          clear hk2
          go_wp2
          go_ret
          exact ⟨rfl, HB1.out⟩
    · have hji : ¬ (j : Int) < L := by omega
      obtain rfl : j = L := by omega
      have hrt : r = true := by rw [HF.out, List.drop_of_length_le (by have := HL.out; omega)]; rfl
      subst hrt
      go_wp2
      go_ret
      exact ⟨rfl, HB.out⟩
end Go.Proofs.YthmmbopibpdpiaaGreatDoor

-- KqV
namespace Go.Proofs.YthmmbopibpdpiaaGreatDoor
open Go.RowKit Go.Maps

theorem OwnK.typed {b : Nat} {w : World} {v : Value} {l : List PV} (h : OwnK b w v l) : ∀ r, v.ownBlock = some r → ∃ cs, w.heap[r]? = some (.cells cs 73 (0, 0)) := fun r e => by
  rcases h.2 with ⟨rfl, _⟩ | ⟨g, cap, cur, rfl, _, hg, _⟩
  · cases e
  · cases e; exact ⟨_, hg⟩
theorem pair_new (w : World) (k z : ByteArray) : HasP (w.alloc (Obj.cells #[.string k, .string z] 73)) (some ⟨w.heap.size, 0, none⟩) [(k, z)] := fun _ => ⟨w.heap.size, 0, rfl, (Array.getElem?_eq_some_iff.1 (World.alloc_heap_new w _)).1, fun j hj => by
  obtain rfl : j = 0 := by simpa using hj
  exact ⟨blk_cell (World.alloc_heap_new w (.cells #[.string k, .string z] 73)) 0, blk_cell (World.alloc_heap_new w (.cells #[.string k, .string z] 73)) 1⟩⟩
set_option maxRecDepth 100000 in
set_option maxHeartbeats 4000000 in
theorem takePairs_any (lim : Nat) (hlim : lim ≤ 9223372036854775807) (R : Nat) (s0 : RdS) (w : World) (hbs : s0.bs.length ≤ 1000000) (h : RdQ w R lim s0) :
    Calls Tryz.prog 28 #[.pointer (some ⟨R, 0, none⟩)] w fun e W' => ∃ v, e = .returned v ∧ ((readP lim s0).2.e = 0 → OwnK w.heap.size W' v (readP lim s0).1) ∧ RdQ W' R lim (readP lim s0).2 ∧ w.grownBy W' (some R) := by
  have hR := h.lt
  have HU := Lib.hid (UintR_q h)
  obtain ⟨N, hN⟩ : ∃ N, N = (RdS.u s0).1 := ⟨_, rfl⟩
  obtain ⟨s1, hs1⟩ : ∃ s, s = (RdS.u s0).2 := ⟨_, rfl⟩
  have hN64 : N < 18446744073709551616 := by rw [hN]; exact RdS.u_lt _
  have hrd : readP lim s0 = manyR (pairR lim) N s1 := by rw [hN, hs1]; rfl
  rw [← hN, ← hs1] at HU
  rw [hrd]
  have hsb : s1.e = 0 → s1.bs.length ≤ 1000000 := fun he => by
    have he' : (uR s0).2.e = 0 := by
      show (RdS.u s0).2.e = 0
      rw [← hs1]
      exact he
    have hp := Puts.u s0 he'
    have h2 := congrArg List.length hp.2
    rw [List.length_append] at h2
    have h3 : (uR s0).2.bs = s1.bs := by rw [hs1]; rfl
    rw [h3] at h2
    have h4 : s0.bs.length = s0.bs.length := rfl
    omega
  have hn0 : 0 < N → s1.e = 0 := fun hp => Decidable.byContradiction fun he => by
    have h0 := u_zero (s := s0) (by rw [← hs1]; exact he)
    rw [← hN] at h0
    omega
  have HSB := Lib.hid (And.intro hsb (And.intro hR (And.intro hn0 hlim)))
  have HN := Lib.hid hN64
  have hNi : (N : Int) < 18446744073709551616 := by omega
  clear hN hs1 hrd hsb h hbs hR hN64 hn0 hlim
  go_enter Tryz.func28, Tryz.ntmps28
  go_wp2_with fail
  refine HU.out.mono ?_
  rintro e W1 ⟨rfl, hq1, hg1⟩
  have H1 := Lib.hid (And.intro hq1 hg1)
  clear hq1 hg1 HU
  go_wp2
  go_loopw [3, 7] (fun v i wr => ∃ (j : Nat) (A3 : Option Addr) (c3 : Nat), j ≤ N ∧ i = .int .u64 (j : Int) ∧ v = .slice A3 (manyR (pairR lim) j s1).1.length c3 ∧ Hid ((0 < N → (manyR (pairR lim) j s1).2.e = 0) ∧ OwnK w.heap.size wr v (manyR (pairR lim) j s1).1 ∧ RdQ wr R lim (manyR (pairR lim) j s1).2 ∧ w.grownBy wr (some R))) (fun _ i _ => N - (intOf i).toNat)
  case atStart => exact ⟨0, none, 0, Nat.zero_le _, rfl, rfl, Lib.hid ⟨HSB.out.2.2.1, OwnK.nil _ _, H1.out.1, H1.out.2⟩⟩
  case round =>
    obtain ⟨j, A3, c3, hj, rfl, rfl, HJ⟩ := hrel
    obtain ⟨lj, hlj⟩ : ∃ l, l = (manyR (pairR lim) j s1).1 := ⟨_, rfl⟩
    obtain ⟨sj, hsj⟩ : ∃ s, s = (manyR (pairR lim) j s1).2 := ⟨_, rfl⟩
    rw [← hlj, ← hsj] at HJ
    rw [← hlj]
    have HLS := Lib.hid (And.intro hlj hsj)
    clear hlj hsj
    by_cases hlt : j < N
    · have hji : (j : Int) < (N : Int) := by omega
      have hT1 := TextR_q HJ.out.2.2.1 HSB.out.2.2.2
      obtain ⟨k, hk⟩ : ∃ k, k = str (sj.t lim).1 := ⟨_, rfl⟩
      rw [← hk] at hT1
      have HT1 := Lib.hid hT1
      have HK := Lib.hid hk
      clear hT1 hk
      go_wp2_with fail
      refine HT1.out.mono ?_
      rintro e W2 ⟨rfl, hq2, hg2⟩
      have hT2 := TextR_q hq2 HSB.out.2.2.2
      obtain ⟨z, hz⟩ : ∃ z, z = str (((sj.t lim).2).t lim).1 := ⟨_, rfl⟩
      rw [← hz] at hT2
      have HT2 := Lib.hid hT2
      have HZ := Lib.hid hz
      have HG2 := Lib.hid hg2
      clear hT2 hz hg2 hq2
      go_wp2_with fail
      refine HT2.out.mono ?_
      rintro e W3 ⟨rfl, hq3, hg3⟩
      obtain ⟨q, hq⟩ : ∃ q, q = W3.heap.size := ⟨_, rfl⟩
      obtain ⟨W4, hW4⟩ : ∃ W4, W4 = W3.alloc (Obj.cells #[.string k, .string z] 73) := ⟨_, rfl⟩
      have hB4 : Below W3.heap.size W3 W4 := by rw [hW4]; exact (Below.refl _ W3).alloc (Nat.le_refl _) _
      have k4 : W4.heap[q]? = some (.cells #[.string k, .string z] 73 (0, 0)) := by rw [hW4, hq]; exact World.alloc_heap_new W3 _
      have hrd4 := hq3.below hB4
      have hgr : w.grownBy W4 (some R) := grownBy_trans (grownBy_trans (grownBy_trans HJ.out.2.2.2 HG2.out) hg3) (by have := grownBy_of_below (r := some R) hB4; exact this)
      have own4 : OwnK w.heap.size W4 (.slice A3 lj.length c3) lj := by
        have hb : ∀ x, (Value.slice A3 lj.length c3).ownBlock = some x → x ≠ R := fun x e e2 => by
          have := (HJ.out.2.1.lt x e).1
          have := HSB.out.2.1
          omega
        have o2 := World.ownsRow.kept HJ.out.2.1 HG2.out (by
          cases e : (Value.slice A3 lj.length c3).ownBlock with
          | none => exact .inl rfl
          | some x => exact .inr (fun e2 => hb x e (Option.some.inj e2)))
        have o3 := World.ownsRow.kept o2 hg3 (by
          cases e : (Value.slice A3 lj.length c3).ownBlock with
          | none => exact .inl rfl
          | some x => exact .inr (fun e2 => hb x e (Option.some.inj e2)))
        exact OwnK.below o3 hB4
      have hpe : pairR lim sj = ((k, z), ((sj.t lim).2.t lim).2) := by rw [pairR_eq, HK.out, HZ.out]; rfl
      obtain ⟨s4, hs4⟩ : ∃ s, s = ((sj.t lim).2.t lim).2 := ⟨_, rfl⟩
      rw [← hs4] at hrd4 hpe
      have HE := Lib.hid (ErrR_q hrd4)
      have c0 : W4.cell? ⟨q, 0, none⟩ = some (.string k) := by simpa using blk_cell k4 0
      have c1 : W4.cell? ⟨q, 1, none⟩ = some (.string z) := by simpa using blk_cell k4 1
      have H4 := Lib.hid (And.intro own4 (And.intro hrd4 (And.intro hgr (And.intro hpe k4))))
      clear hg3 hq3 hB4 k4 hrd4 hgr own4 hpe hs4 HT1 HT2
      go_upto_region 5 with (fail)
      rw [← hq, ← hW4]
      clear hq hW4
      go_wp2_with fail
      refine HE.out.mono ?_
      rintro e W5 ⟨rfl, rfl⟩
      have hsj : (manyR (pairR lim) j s1).2.e = 0 := by rw [← HLS.out.2]; exact HJ.out.1 (by omega)
      have hsn := many_snoc (f := pairR lim) j s1 hsj
      rw [← HLS.out.1, ← HLS.out.2, H4.out.2.2.2.1] at hsn
      by_cases he4 : s4.e = 0
      · rw [if_neg (by simpa using he4)] at hsn
        have HSN := Lib.hid hsn
        have hll : lj.length ≤ 500000 := by
          have h1 := Puts.many (Puts.pair lim) j s1 hsj
          have h2 := congrArg List.length h1.2.1
          rw [List.length_append, ← HLS.out.1] at h2
          have h3 := pairs_flat lj
          have h4 := HSB.out.1 h1.1
          omega
        have hlj : lj.length + 1 = (lj ++ [(k, z)]).length := by simp
        have HS4 := Lib.hid he4
        have he4i : (s4.e : Int) = 0 := by omega
        rw [he4i]
        have hbA : Below W4.heap.size W4 (W4.alloc (Obj.cells #[.string k, .string z] 73)) := (Below.refl _ W4).alloc (Nat.le_refl _) _
        have hgA : w.grownBy (W4.alloc (Obj.cells #[.string k, .string z] 73)) (some R) := grownBy_trans H4.out.2.2.1 (by have := grownBy_of_below (r := some R) hbA; exact this)
        have HA := Lib.hid (And.intro (OwnK.below H4.out.1 hbA) (And.intro (pair_new W4 k z) (And.intro (H4.out.2.1.below hbA) hgA)))
        have hszw : w.heap.size ≤ (W4.alloc (Obj.cells #[.string k, .string z] 73)).heap.size := hgA.size
        have hadd := u64_succ hlt HN.out
        have hlen2 : lj.length + 1 ≤ 1000000 := by omega
        have HLJ := Lib.hid hlj
        clear hbA hgA hsn hsj he4 he4i hll hlj
        go_wp2_with (first
          | (at_builtin; refine wpList_append_K rfl (.tmp 17) (.tmp 19) rfl w.heap.size _ lj rfl HA.out.1 (some ⟨W4.heap.size, 0, none⟩) 1 1 [(k, z)] rfl rfl HA.out.2.1 hlen2 hszw ?_; intro v5 W5 hown hg; have H5 := Lib.hid (And.intro hown hg); obtain ⟨A5, c5, rfl, hc5⟩ := hown.form; rw [← HLJ.out]; clear hown hg)
          | fail)
        refine ⟨⟨j + 1, A5, c5, by omega, by congr 1, by rw [HSN.out, ← HLJ.out], Lib.hid ?_⟩, by simp only [intOf]; omega⟩
        rw [HSN.out]
        have hs5 : SameT [73] (W4.alloc (Obj.cells #[.string k, .string z] 73)) W5 := SameT.grown H5.out.2 HA.out.1.typed
        refine ⟨fun _ => HS4.out, ?_, HA.out.2.2.1.sameK hs5 (by decide) (by decide), HA.out.2.2.2.andThen H5.out.2 (fun x hx => .inl (HA.out.1.lt x hx).1)⟩
        have := H5.out.1
        rw [← HLJ.out] at this
        exact this
      · rw [if_pos he4] at hsn
        have hst := many_stop (f := pairR lim) (j + 1) N s1 (by omega) (by rw [hsn]; exact he4) (HSB.out.2.2.1 (by omega))
        have hne : ¬ (s4.e : Int) = 0 := by omega
        have hneb : ((s4.e : Int) == 0) = false := by simpa using hne
        have HST := Lib.hid (hst.trans hsn)
        have HE4 := Lib.hid he4
        obtain ⟨E, hE⟩ : ∃ E : Int, E = (s4.e : Int) := ⟨_, rfl⟩
        rw [← hE] at hne hneb ⊢
        have hnb : (E != 0) = true := by simp [hne]
        clear hst hsn hsj he4 hE c0 c1
        go_wp2
        go_ret
        exact ⟨_, rfl, fun h => absurd (by rw [HST.out] at h; exact h) HE4.out, by rw [HST.out]; exact H4.out.2.1, H4.out.2.2.1⟩
    · have hji : ¬ (j : Int) < (N : Int) := by omega
      obtain rfl : j = N := by omega
      go_wp2
      go_ret
      exact ⟨_, rfl, fun _ => by rw [← HLS.out.1]; exact HJ.out.2.1, by rw [← HLS.out.2]; exact HJ.out.2.2.1, HJ.out.2.2.2⟩
end Go.Proofs.YthmmbopibpdpiaaGreatDoor

-- KqG
namespace Go.Proofs.YthmmbopibpdpiaaGreatDoor
open Go.RowKit Go.Maps

theorem Chg.sameT {W W' : World} {S : Nat} {p : Option Nat} {l l' : List PV} (h : StQ W S p l) (hc : Chg W W' S p l') : SameT [92] W W' := fun i cs t ht hi => (hc.only.block i (Array.getElem?_eq_some_iff.1 hi).1 (fun e => by
  rcases e with e | e
  · have := h.cell
    rw [← e, hi] at this
    have h2 := Option.some.inj this
    injection h2 with _ h3 _
    exact ht (by rw [h3]; simp)
  · obtain ⟨es, clock, hb⟩ := h.map.blk e
    rw [hi] at hb
    cases hb)).trans hi
theorem OwnK.same {T : List TypeId} {b : Nat} {w w' : World} {v : Value} {l : List PV} (h : OwnK b w v l) (hs : SameT T w w') (ht : 73 ∉ T) : OwnK b w' v l := by
  refine ⟨h.1, ?_⟩
  rcases h.2 with h2 | ⟨g, cap, cur, e, hb, hg, rest⟩
  · exact .inl h2
  · exact .inr ⟨g, cap, cur, e, hb, hs _ _ _ ht hg, rest⟩
set_option maxRecDepth 100000 in
set_option maxHeartbeats 4000000 in
theorem take_any (lim : Nat) (hlim : lim ≤ 9223372036854775807) (R : Nat) (s0 : RdS) (h0 : s0.e = 0 ∨ s0.e = 10 ∨ s0.e = 11) (w : World) (hbs : s0.bs.length ≤ 1000000) (h : RdQ w R lim s0) :
    Calls Tryz.prog 12 #[.pointer (some ⟨R, 0, none⟩)] w fun e W' => ∃ (n : Nat) (l : List PV) (rest : List UInt8), (TakeO s0.bs l rest n ∧ (64 ≤ lim → s0.e = 0 → TakeR s0.bs l rest n)) ∧ w.grownBy W' (some R) ∧
    ((n = 0 ∧ ∃ F S, e = .returned (.tuple #[.pointer (some ⟨S, 0, none⟩), .int .i64 0]) ∧ PlQ F W' S l ∧ (∀ k, F k → w.heap.size ≤ k) ∧ RdQ W' R lim ⟨0, rest⟩) ∨ (n ≠ 0 ∧ e = .returned (.tuple #[.pointer none, .int .i64 (n : Int)]))) := by
  have HTR := Lib.hid (And.intro (takeO_of lim s0 h0) (fun (h64 : 64 ≤ lim) (hz : s0.e = 0) => takeR_at lim h64 hlim s0 hz))
  have HTP := Lib.hid (takePairs_any lim hlim R s0 w hbs h)
  have hRw := h.lt
  obtain ⟨l, hl⟩ : ∃ l, l = (readP lim s0).1 := ⟨_, rfl⟩
  obtain ⟨s, hs⟩ : ∃ s, s = (readP lim s0).2 := ⟨_, rfl⟩
  rw [← hl, ← hs] at HTR HTP
  have hlen : s.e = 0 → l.length ≤ 500000 := fun he => by
    have h1 := Puts.many (Puts.pair lim) (uR s0).1 (uR s0).2 (show (readP lim s0).2.e = 0 by rw [← hs]; exact he)
    have h2 := Puts.u s0 h1.1
    have h3 := congrArg List.length h1.2.1
    have h4 := congrArg List.length h2.2
    rw [List.length_append] at h3 h4
    have h5 := pairs_flat (manyR (pairR lim) (uR s0).1 (uR s0).2).1
    have h6 : l = (manyR (pairR lim) (uR s0).1 (uR s0).2).1 := hl
    rw [h6]
    have h7 : s0.bs.length = s0.bs.length := rfl
    omega
  have HLN := Lib.hid (And.intro hlen hRw)
  clear hl hs hlen h hbs hRw hlim h0
  go_enter Tryz.func12, Tryz.ntmps12
  go_wp2_with fail
  refine HTP.out.mono ?_
  rintro e W1 ⟨v, rfl, ho1, hq1, hg1⟩
  have HE := Lib.hid (ErrR_q hq1)
  have H1 := Lib.hid (And.intro ho1 (And.intro hq1 hg1))
  clear ho1 hq1 hg1 HTP
  go_wp2_with fail
  refine HE.out.mono ?_
  rintro e W2 ⟨rfl, rfl⟩
  by_cases he : s.e = 0
  · have hei : (s.e : Int) = 0 := by omega
    rw [hei]
    have HOW := Lib.hid (H1.out.1 he)
    obtain ⟨A1, c1, rfl, hc1⟩ := HOW.out.form
    obtain ⟨L, hL⟩ : ∃ L, L = l.length := ⟨_, rfl⟩
    rw [← hL] at hc1 ⊢
    have hL5 : L ≤ 500000 := by rw [hL]; exact HLN.out.1 he
    have hLi : (L : Int) ≤ 500000 := by omega
    have HL := Lib.hid hL
    have HFT := Lib.hid (fit_any A1 L c1 l W1 hL (by omega) HOW.out.has)
    have HSE := Lib.hid he
    obtain ⟨f, hf⟩ : ∃ f, f = fitF ⟨#[]⟩ l := ⟨_, rfl⟩
    rw [← hf] at HFT
    have HF := Lib.hid hf
    clear hei hL hL5 he hf HE hc1
    go_wp2_with fail
    refine HFT.out.mono ?_
    rintro e W3 ⟨rfl, hb3⟩
    have own3 := OwnK.below HOW.out hb3
    have rd3 := H1.out.2.1.below hb3
    have gr3 : w.grownBy W3 (some R) := grownBy_trans H1.out.2.2 (by have := grownBy_of_below (r := some R) hb3; exact this)
    have H3 := Lib.hid (And.intro (show OwnK w.heap.size W3 (.slice A1 l.length c1) l from own3) (And.intro rd3 gr3))
    clear hb3 own3 rd3 gr3 HFT
    cases f with
    | false =>
      go_wp2
      go_ret2
      refine ⟨11, l, s.bs, ?_, H3.out.2.2, .inr ⟨by decide, rfl⟩⟩
      have := HTR.out
      rw [if_neg (by simpa using HSE.out), ← HF.out] at this
      exact this
    | true =>
      obtain ⟨f1, f2, f3⟩ := fit_sorted _ _ HF.out.symm
      have HFS := Lib.hid (And.intro f1 f3)
      clear f1 f2 f3
      go_wp2_with fail
      refine (new_any W3).mono ?_
      rintro e W4 ⟨rfl, hw4⟩
      have hb4 : Below W3.heap.size W3 W4 := by rw [hw4]; exact (Below.refl _ W3).alloc (Nat.le_refl _) _
      have st4 : StQ W4 W3.heap.size none [] := by rw [hw4]; exact ⟨World.alloc_heap_new W3 _, rfl⟩
      obtain ⟨S, hS⟩ : ∃ S, S = W3.heap.size := ⟨_, rfl⟩
      rw [← hS] at st4 ⊢
      have H4 := Lib.hid (And.intro st4 (And.intro (OwnK.below H3.out.1 hb4) (And.intro (H3.out.2.1.below hb4) (And.intro (show w.grownBy W4 (some R) from grownBy_trans H3.out.2.2 (by have := grownBy_of_below (r := some R) hb4; exact this)) (show w.heap.size ≤ S by rw [hS]; exact H3.out.2.2.size)))))
      clear hb4 st4 hw4 hS
      go_wp2
      go_loopw [22] (fun i wr => ∃ j : Nat, j ≤ L ∧ i = .int .i64 (j : Int) ∧ Hid ((∃ p, StQ wr S p (l.take j) ∧ ∀ b, p = some b → w.heap.size ≤ b) ∧ OwnK w.heap.size wr (.slice A1 l.length c1) l ∧ RdQ wr R lim s ∧ w.grownBy wr (some R))) (fun i _ => L - (intOf i).toNat)
      case atStart => exact ⟨0, Nat.zero_le _, rfl, Lib.hid ⟨⟨none, H4.out.1, fun b e => (by cases e)⟩, H4.out.2.1, H4.out.2.2.1, H4.out.2.2.2.1⟩⟩
      case round =>
        obtain ⟨j, hj, rfl, HJ⟩ := hrel
        by_cases hlt : j < L
        · have hji : (j : Int) < L := by omega
          have hj1 : j < l.length := by have := HL.out; omega
          obtain ⟨b, o, e1, l1, f1⟩ := (OwnK.has HJ.out.2.1) (by rintro rfl; simp at hj1)
          subst e1
          obtain ⟨g1, g2⟩ := f1 j hj1
          obtain ⟨k, hk⟩ : ∃ k, k = l[j].1 := ⟨_, rfl⟩
          obtain ⟨z, hz⟩ : ∃ z, z = l[j].2 := ⟨_, rfl⟩
          rw [← hk] at g1
          rw [← hz] at g2
          obtain ⟨q, hq⟩ : ∃ q, q = wr.heap.size := ⟨_, rfl⟩
          obtain ⟨W5, hW5⟩ : ∃ W5, W5 = wr.alloc (Obj.cells #[.string k, .string z] 73) := ⟨_, rfl⟩
          have hB5 : Below wr.heap.size wr W5 := by rw [hW5]; exact (Below.refl _ wr).alloc (Nat.le_refl _) _
          have k5 : W5.heap[q]? = some (.cells #[.string k, .string z] 73 (0, 0)) := by rw [hW5, hq]; exact World.alloc_heap_new wr _
          have c0 : W5.cell? ⟨q, 0, none⟩ = some (.string k) := by simpa using blk_cell k5 0
          have c1' : W5.cell? ⟨q, 1, none⟩ = some (.string z) := by simpa using blk_cell k5 1
          obtain ⟨p, st, hp⟩ := HJ.out.1
          have st5 := st.below hB5
          have hzz := HFS.out.2 l[j] (List.getElem_mem hj1)
          rw [← hk, ← hz] at hzz
          have HST := Lib.hid (set_any st5 (by rw [List.length_take]; omega) k z (by simp only [maxLen]; omega) (by simp only [maxLen]; omega))
          have hpt : withP (l.take j) k z = l.take (j + 1) := by rw [hk, hz]; exact put_take HFS.out.1 hj1
          rw [hpt] at HST
          have H5 := Lib.hid (And.intro st5 (And.intro hp (And.intro (OwnK.below HJ.out.2.1 hB5) (And.intro (HJ.out.2.2.1.below hB5) (show w.grownBy W5 (some R) from grownBy_trans HJ.out.2.2.2 (by have := grownBy_of_below (r := some R) hB5; exact this))))))
          clear f1 l1 hk hz hB5 k5 st hp st5 hzz hpt
          go_upto_region 11 with (fail)
          rw [← hq, ← hW5]
          clear g1 g2 hq hW5
          go_wp2_with fail
          refine HST.out.mono ?_
          rintro e W6 ⟨rfl, h6⟩
          have hs6 := Chg.sameT H5.out.1 h6
          obtain ⟨p', st6, hp'⟩ := h6.ex
          have hg6 : w.grownBy W6 (some R) := ⟨h6.only.os.trans H5.out.2.2.2.2.os, h6.only.tape.trans H5.out.2.2.2.2.tape, h6.only.output.trans H5.out.2.2.2.2.output, Nat.le_trans H5.out.2.2.2.2.size h6.only.size, fun x hx hne => (h6.only.block x (Nat.lt_of_lt_of_le hx H5.out.2.2.2.2.size) (fun e => by
            rcases e with e | e
            · have := H4.out.2.2.2.2; omega
            · have := H5.out.2.1 x e; omega)).trans (H5.out.2.2.2.2.block x hx hne)⟩
          have H6 := Lib.hid (And.intro (show ∃ p, StQ W6 S p (l.take (j + 1)) ∧ ∀ b, p = some b → w.heap.size ≤ b from ⟨p', st6, fun x e => by
            rcases hp' x e with e' | e'
            · exact H5.out.2.1 x e'
            · exact Nat.le_trans H5.out.2.2.2.2.size e'⟩) (And.intro (OwnK.same H5.out.2.2.1 hs6 (by decide)) (And.intro (H5.out.2.2.2.1.sameK hs6 (by decide) (by decide)) hg6)))
          clear h6 hs6 st6 hp' hg6 HST
          go_wp2
          exact ⟨⟨j + 1, by omega, by congr 1, H6⟩, by simp only [intOf]; omega⟩
        · have hji : ¬ (j : Int) < L := by omega
          obtain rfl : j = L := by omega
          obtain ⟨⟨p, st, hp⟩, _, hrd, hgr⟩ := HJ.out
          rw [List.take_of_length_le (by have := HL.out; omega)] at st
          have HF9 := Lib.hid (And.intro st (And.intro hp (And.intro hrd hgr)))
          clear st hp hrd hgr
          go_wp2
          go_ret2
          refine ⟨0, l, s.bs, ?_, HF9.out.2.2.2, .inl ⟨rfl, _, S, rfl, PlQ.mk HF9.out.1 HFS.out.1, fun k hk => ?_, ?_⟩⟩
          · have := HTR.out
            rw [if_neg (by simpa using HSE.out), ← HF.out] at this
            exact this
          · rcases hk with e | e
            · rw [e]; exact H4.out.2.2.2.2
            · exact HF9.out.2.1 k e
          · have hr := HF9.out.2.2.1
            have he0 := HSE.out
            obtain ⟨se, sb⟩ := s
            simp only at he0
            subst he0
            exact hr
  · have hne : ¬ (s.e : Int) = 0 := by omega
    have hneb : ((s.e : Int) == 0) = false := by simpa using hne
    have HSE := Lib.hid he
    obtain ⟨E, hE⟩ : ∃ E, E = s.e := ⟨_, rfl⟩
    rw [← hE] at hne hneb ⊢
    have hnb : ((E : Int) != 0) = true := by simp; omega
    have HE' := Lib.hid hE
    clear he hE HE
    go_wp2
    go_ret2
    refine ⟨s.e, l, s.bs, ?_, H1.out.2.2, .inr ⟨HSE.out, by rw [← HE'.out]; rfl⟩⟩
    have := HTR.out
    rw [if_pos HSE.out] at this
    exact this
end Go.Proofs.YthmmbopibpdpiaaGreatDoor
