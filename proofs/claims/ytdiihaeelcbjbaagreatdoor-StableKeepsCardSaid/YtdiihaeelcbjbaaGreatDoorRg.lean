/- Open statements told briefly: what each slot comes to as a list of values, an invariant of the world, and for each operation that only reads the equation of its run. -/
import Derived.Test.YtdiihaeelcbjbaaGreatDoorMBaseO
import Derived.Test.YtdiihaeelcbjbaaGreatDoorMStep
import Derived.Orders
namespace Go.Proofs.YtdiihaeelcbjbaaGreatDoor
open Go.RowKit

/-- The operations of a function's region. -/
def regIn (id : Nat) : Code → Option (List Oper)
  | .region i ops _ => cond (Nat.beq i id) (some ops.toList) none
  | .seq a b => match regIn id a with
    | some o => some o
    | none => regIn id b
  | .cond _ a b => match regIn id a with
    | some o => some o
    | none => regIn id b
  | .block _ b => regIn id b
  | .loop b => regIn id b
  | .scope b => regIn id b
  | .rangeFunc _ _ a b => match regIn id a with
    | some o => some o
    | none => regIn id b
  | _ => none
def opsOf (f : Func) (id : Nat) : List Oper := match f.body with
  | some c => match regIn id c with
    | some o => o
    | none => []
  | none => []
def nthO : List Oper → Nat → Option Oper
  | [], _ => none
  | o :: _, 0 => some o
  | _ :: l, n + 1 => nthO l n
theorem nthO_eq : ∀ (ops : List Oper) (j : Nat), nthO ops j = ops.toArray[j]?
  | [], j => by simp [nthO]
  | o :: l, 0 => by simp [nthO]
  | o :: l, j + 1 => by
    have := nthO_eq l j
    simp [nthO] at this ⊢
    exact this
def nth : List Value → Nat → Value
  | [], _ => undef
  | v :: _, 0 => v
  | _ :: l, n + 1 => nth l n
def dstIs (ops : List Oper) (j t : Nat) : Bool := match nthO ops j with
  | some o => match o.dst with
    | some d => Nat.beq d t
    | none => false
  | none => false
/-- The operation that fills a slot, among those that an operation waits for. -/
def srcL (ops : List Oper) (t : Nat) : List Edge → Option Nat
  | [] => none
  | e :: l => cond (Region.binds .any e && dstIs ops e.on t) (some e.on) (srcL ops t l)
def look (t : Nat) : List (Nat × Value) → Value
  | [] => undef
  | (s, v) :: l => cond (Nat.beq s t) v (look t l)
/-- An operand's value. -/
def rho (ops : List Oper) (fr : List (Nat × Value)) (V : List Value) (af : Array Edge) : Operand → Value
  | .tmp t => match srcL ops t af.toList with
    | some j => nth V j
    | none => look t fr
  | x => ({ tmps := #[], defers := [] } : Act).eval x
def FrOk (a : Act) : List (Nat × Value) → Prop
  | [] => True
  | (t, v) :: l => a.tmps.getD t undef = v ∧ FrOk a l
/-- An operation that only reads: what it comes to. -/
def Ob (P : Program) (ops : List Oper) (fr : List (Nat × Value)) (V : List Value) (w : World) (i : Nat) (o : Oper) : Prop := (execOp (rho ops fr V o.after) o).run P w = .ok (.value (nth V i)) w
def Gate (V : List Value) (i : Nat) (g : Option (Nat × Bool)) (X : Prop) : Prop := match g with
  | none => X
  | some (g, b) => match nth V g with
    | .bool c => cond (c == b) X (nth V i = undef)
    | v => v = undef ∧ nth V i = undef
def Obs (P : Program) (all : List Oper) (fr : List (Nat × Value)) (V : List Value) (L : Nat → Bool) (w : World) (key : List Nat) : Nat → List Oper → Prop
  | _, [] => True
  | i, o :: l => cond (key.contains i) True (L i = false → Gate V i o.guard (Ob P all fr V w i o)) ∧ Obs P all fr V L w key (i + 1) l
theorem Obs.get {P : Program} {all : List Oper} {fr : List (Nat × Value)} {V : List Value} {L : Nat → Bool} {w : World} {key : List Nat} {o : Oper} (l : List Oper) : ∀ (b i : Nat), Obs P all fr V L w key b l → nthO l i = some o → key.contains (b + i) = false → L (b + i) = false → Gate V (b + i) o.guard (Ob P all fr V w (b + i) o) := by
  induction l with
  | nil => intro b i _ ho; cases ho
  | cons x l ih =>
    intro b i h ho hk hl
    cases i with
    | zero =>
      have e : x = o := Option.some.inj ho
      subst e
      have h1 := h.1
      rw [Nat.add_zero] at hk hl ⊢
      rw [hk] at h1
      exact h1 hl
    | succ i =>
      have e : b + (i + 1) = b + 1 + i := by omega
      rw [e] at hk hl ⊢
      exact ih (b + 1) i h.2 ho hk hl
def plainOp (o : Op) : Bool := match o with
  | .defer _ => false
  | .select .. => false
  | _ => true
def coverX (ops : List Oper) (fr : List (Nat × Value)) (af : List Edge) : Operand → Bool
  | .tmp t => (srcL ops t af).isSome || (fr.any (fun p => Nat.beq p.1 t) && ops.all fun o => match o.dst with
    | some d => !Nat.beq d t
    | none => true)
  | _ => true
/-- As coverX; a slot that is filled later on may be read too. -/
def coverY (ops : List Oper) (fr : List (Nat × Value)) (i : Nat) (af : List Edge) (x : Operand) : Bool := coverX ops fr af x || match x with
  | .tmp t => fr.any (fun p => Nat.beq p.1 t) && ops.zipIdx.all fun (o, z) => match o.dst with
    | some d => !Nat.beq d t || (Nat.beq z i || reachB ops 30 z i)
    | none => true
  | _ => false
def guardOk (ops : List Oper) (af : List Edge) : Option (Nat × Bool) → Bool
  | none => true
  | some (g, _) => af.any (fun e => Region.binds .any e && Nat.beq e.on g) && match nthO ops g with
    | some o => o.dst.isSome
    | none => false
def readsOk (all : List Oper) (fr : List (Nat × Value)) (key : List Nat) : Nat → List Oper → Bool
  | _, [] => true
  | i, o :: l => (key.contains i || (plainOp o.op && o.op.operands.toList.all (coverY all fr i o.after.toList) && guardOk all o.after.toList o.guard)) && readsOk all fr key (i + 1) l
def dstsOk (N : Nat) (ops : List Oper) : Bool := let l := ops.filterMap (·.dst); l.all (fun d => decide (d < N)) && decide l.Nodup
/-- What is looked at once for a region. -/
def regOk (N : Nat) (ops : List Oper) (fr : List (Nat × Value)) (key : List Nat) : Bool := backwards ops && (dstsOk N ops && readsOk ops fr key 0 ops)
theorem dst_mem {d : Nat} {o : Oper} : ∀ {ops : List Oper} {i : Nat}, nthO ops i = some o → o.dst = some d → d ∈ ops.filterMap (·.dst)
  | x :: l, 0, h, hd => by
    cases h
    rw [List.filterMap_cons, hd]
    exact List.mem_cons_self
  | x :: l, i + 1, h, hd => by
    have := dst_mem (ops := l) h hd
    rw [List.filterMap_cons]
    split
    · exact this
    · exact List.mem_cons_of_mem _ this
theorem dst_inj {d : Nat} {o o' : Oper} : ∀ {ops : List Oper} {i j : Nat}, (ops.filterMap (·.dst)).Nodup → nthO ops i = some o → o.dst = some d → nthO ops j = some o' → o'.dst = some d → i = j
  | x :: l, 0, 0, _, _, _, _, _ => rfl
  | x :: l, 0, j + 1, hn, hi, hd, hj, hd' => by
    cases hi
    rw [List.filterMap_cons, hd] at hn
    exact absurd (dst_mem (ops := l) (i := j) hj hd') (List.nodup_cons.1 hn).1
  | x :: l, i + 1, 0, hn, hi, hd, hj, hd' => by
    cases hj
    rw [List.filterMap_cons, hd'] at hn
    exact absurd (dst_mem (ops := l) (i := i) hi hd) (List.nodup_cons.1 hn).1
  | x :: l, i + 1, j + 1, hn, hi, hd, hj, hd' => by
    have hn' : (l.filterMap (·.dst)).Nodup := by
      rw [List.filterMap_cons] at hn
      split at hn
      · exact hn
      · exact (List.nodup_cons.1 hn).2
    rw [dst_inj (ops := l) hn' hi hd hj hd']
theorem nthO_mem {o : Oper} : ∀ {ops : List Oper} {i : Nat}, nthO ops i = some o → o ∈ ops
  | x :: l, 0, h => by cases h; exact List.mem_cons_self
  | x :: l, i + 1, h => List.mem_cons_of_mem _ (nthO_mem (ops := l) h)
/-- The frame, and the slots of what has been carried out. -/
structure RU (ops : List Oper) (a : Act) (V : List Value) (L : Nat → Bool) (a' : Act) : Prop where
  frm : Frm ops a a'
  val : ∀ j o d, nthO ops j = some o → o.dst = some d → L j = true → a'.tmps.getD d undef = nth V j
  old : ∀ t, (∀ j o, nthO ops j = some o → o.dst = some t → L j = false) → a'.tmps.getD t undef = a.tmps.getD t undef
section
variable {P : Program} {ops : List Oper} {a a' : Act} {V V' : List Value} {L : Nat → Bool} {N i : Nat} {o : Oper} {v : Value} {fr : List (Nat × Value)} {key : List Nat} {w : World}
theorem RU.put (h : RU ops a V L a') (hN : a.tmps.size = N) (hd : dstsOk N ops = true) (ho : nthO ops i = some o) (hv : o.dst.isSome = true → nth V' i = v) (hag : ∀ j, L j = true → nth V' j = nth V j) : RU ops a V' (fun j => L j || j == i) (a'.put o.dst v) := by
  obtain ⟨hf, hval, hold⟩ := h
  have hd2 := Bool.and_eq_true _ _ ▸ hd
  have hnd : (ops.filterMap (·.dst)).Nodup := by simpa using hd2.2
  refine ⟨⟨size_put.trans hf.size, defers_put.trans hf.defers, fun s hs => ?_⟩, fun j o' d hj hd' hl => ?_, fun t ht => ?_⟩
  · cases hod : o.dst with
    | none => exact hf.old s hs
    | some d =>
      rw [getD_put_ne (fun e => hs o (nthO_mem ho) (by rw [hod, e]))]
      exact hf.old s hs
  · by_cases hji : j = i
    · subst hji
      rw [ho] at hj
      cases hj
      rw [hd', getD_put_same ?_]
      · exact (hv (by rw [hd']; rfl)).symm
      · rw [hf.size, hN]
        have := List.all_eq_true.1 hd2.1 d (dst_mem ho hd')
        simpa using this
    · have hlj : L j = true := by simpa [hji] using hl
      rw [hag j hlj, ← hval j o' d hj hd' hlj]
      cases hod : o.dst with
      | none => rfl
      | some d0 => exact getD_put_ne fun e => hji (by subst e; exact dst_inj hnd hj hd' ho hod)
  · have h1 := hold t fun j o' hj hd' => by
      have := ht j o' hj hd'
      simp only [Bool.or_eq_false_iff] at this
      exact this.1
    cases hod : o.dst with
    | none => exact h1
    | some d0 =>
      rw [getD_put_ne fun e => ?_]
      · exact h1
      · have := ht i o ho (by rw [hod, e])
        simp at this
theorem look_eq : ∀ {fr : List (Nat × Value)} {t : Nat}, FrOk a fr → fr.any (fun p => Nat.beq p.1 t) = true → a.tmps.getD t undef = look t fr
  | (s, v) :: l, t, h, hm => by
    unfold look
    cases hb : Nat.beq s t with
    | true =>
      have : s = t := Nat.eq_of_beq_eq_true hb
      subst this
      exact h.1
    | false =>
      refine look_eq (fr := l) h.2 ?_
      simpa [hb] using hm
theorem srcL_spec {t j : Nat} : ∀ {af : List Edge}, srcL ops t af = some j → (∃ e ∈ af, e.on = j ∧ Region.binds .any e = true) ∧ dstIs ops j t = true
  | e :: l, h => by
    unfold srcL at h
    cases hb : (Region.binds .any e && dstIs ops e.on t) with
    | true =>
      rw [hb] at h
      cases h
      have := Bool.and_eq_true _ _ ▸ hb
      exact ⟨⟨e, List.mem_cons_self, rfl, this.1⟩, this.2⟩
    | false =>
      rw [hb] at h
      obtain ⟨⟨e', h1, h2⟩, h3⟩ := srcL_spec (af := l) h
      exact ⟨⟨e', List.mem_cons_of_mem _ h1, h2⟩, h3⟩
theorem rho_eq (h : RU ops a V L a') (hfr : FrOk a fr) (hpre : ∀ e ∈ o.after, Region.binds .any e = true → L e.on = true) {x : Operand} (hc : coverX ops fr o.after.toList x = true) : a'.eval x = rho ops fr V o.after x := by
  cases x with
  | tmp t =>
    show a'.tmps.getD t undef = match srcL ops t o.after.toList with
      | some j => nth V j
      | none => look t fr
    cases hs : srcL ops t o.after.toList with
    | some j =>
      obtain ⟨⟨e, he, rfl, hb⟩, hd⟩ := srcL_spec hs
      have hl := hpre e (by simpa using he) hb
      unfold dstIs at hd
      cases ho : nthO ops e.on with
      | none => rw [ho] at hd; cases hd
      | some o' =>
        rw [ho] at hd
        dsimp only at hd
        cases hdd : o'.dst with
        | none => rw [hdd] at hd; cases hd
        | some d =>
          rw [hdd] at hd
          have : d = t := Nat.eq_of_beq_eq_true hd
          subst this
          exact h.val e.on o' d ho hdd hl
    | none =>
      unfold coverX at hc
      dsimp only at hc
      rw [hs] at hc
      have hc' : (fr.any (fun p => Nat.beq p.1 t) && ops.all fun o => match o.dst with
        | some d => !Nat.beq d t
        | none => true) = true := by simpa using hc
      have h2 := Bool.and_eq_true _ _ ▸ hc'
      rw [h.frm.old t fun o' ho' e => ?_]
      · exact look_eq hfr h2.1
      · have := List.all_eq_true.1 h2.2 o' ho'
        rw [e] at this
        simp at this
  | _ => rfl
theorem rho_eqY (h : RU ops a V L a') (hfr : FrOk a fr) (hpre : ∀ e ∈ o.after, Region.binds .any e = true → L e.on = true) (hcl : ∀ j o' e, ops.toArray[j]? = some o' → L j = true → e ∈ o'.after → Region.binds .any e = true → L e.on = true) (hli : L i = false) {x : Operand} (hc : coverY ops fr i o.after.toList x = true) : a'.eval x = rho ops fr V o.after x := by
  unfold coverY at hc
  cases hcx : coverX ops fr o.after.toList x with
  | true => exact rho_eq h hfr hpre hcx
  | false =>
    rw [hcx, Bool.false_or] at hc
    cases x with
    | tmp t =>
      have hc' : (fr.any (fun p => Nat.beq p.1 t) && ops.zipIdx.all fun (o, z) => match o.dst with
        | some d => !Nat.beq d t || (Nat.beq z i || reachB ops 30 z i)
        | none => true) = true := hc
      have h2 := Bool.and_eq_true _ _ ▸ hc'
      have hs : srcL ops t o.after.toList = none := by
        cases hs : srcL ops t o.after.toList with
        | none => rfl
        | some j =>
          unfold coverX at hcx
          dsimp only at hcx
          rw [hs] at hcx
          simp at hcx
      show a'.tmps.getD t undef = match srcL ops t o.after.toList with
        | some j => nth V j
        | none => look t fr
      rw [hs, h.old t fun j o' ho' hd' => ?_]
      · exact look_eq hfr h2.1
      · have hm : (o', j) ∈ ops.zipIdx := by
          rw [nthO_eq] at ho'
          have h3 : ops[j]? = some o' := by simpa using ho'
          rw [List.mem_zipIdx_iff_getElem?]
          exact h3
        have h4 := List.all_eq_true.1 h2.2 (o', j) hm
        dsimp only at h4
        rw [hd'] at h4
        simp only [Nat.beq_refl, Bool.not_true, Bool.false_or, Bool.or_eq_true] at h4
        rcases h4 with h4 | h4
        · rw [Nat.eq_of_beq_eq_true h4]; exact hli
        · exact not_yetF hcl 30 h4 hli
    | _ => cases hc
/-- An operation whose run is known. -/
theorem step_runW {F : Fence} (hF : ∀ f, F.fn f) {n : Nat} {Q : Exit → Act → World → Prop} {K : Act → World → Prop} {ops : Array Oper} (hi : ops[i]? = some o) (hw : Region.wanted o (yielded ops a.tmps) = true) (hnd : plainOp o.op = true) (hrun : (execOp a.eval o).run P w = .ok (.value v) w) (h : K (a.put o.dst v) w) : wpOpIn F n P ops Q i K a w := by
  unfold wpOpIn
  simp only [hi, hw, if_true]
  refine ⟨fun f _ => hF f, ?_⟩
  rw [Oper.semAt_plain _ _ _ (by intro c e; rw [e] at hnd; cases hnd), hrun]
  exact h
theorem wanted_no {ops : Array Oper} {og : Oper} {a : Act} {g d : Nat} {b : Bool} (hg : o.guard = some (g, b)) (hog : ops[g]? = some og) (hd : og.dst = some d) (h : a.tmps.getD d undef = undef) : Region.wanted o (yielded ops a.tmps) = false := by
  have hn : yielded ops a.tmps g = none := by
    simp only [yielded, hog, hd, Option.bind_some]
    rw [Array.getD_eq_getD_getElem?] at h
    cases hx : a.tmps[d]? with
    | none => rfl
    | some x => rw [hx] at h; simp at h; subst h; rfl
  simp [Region.wanted, hg, hn]
theorem step_offF {F : Fence} (hF : ∀ f, F.fn f) {n : Nat} {Q : Exit → Act → World → Prop} {K : Act → World → Prop} {ops : Array Oper} (hi : ops[i]? = some o) (hw : Region.wanted o (yielded ops a.tmps) = false) (h : K (a.put o.dst undef) w) : wpOpIn F n P ops Q i K a w := by
  unfold wpOpIn
  simp only [hi, hw]
  exact ⟨fun f _ => hF f, h⟩
/-- An operation that only reads. -/
theorem step_read {F : Fence} (hF : ∀ f, F.fn f) {n : Nat} {Q : Exit → Act → World → Prop} {K : Act → World → Prop} (h : RU ops a V L a') (hcl : ∀ j o' e, ops.toArray[j]? = some o' → L j = true → e ∈ o'.after → Region.binds .any e = true → L e.on = true) (hli : L i = false) (hfr : FrOk a fr) (ho : nthO ops i = some o) (hr : plainOp o.op = true ∧ o.op.operands.toList.all (coverY ops fr i o.after.toList) = true ∧ guardOk ops o.after.toList o.guard = true) (hpre : ∀ e ∈ o.after, Region.binds .any e = true → L e.on = true) (hob : Gate V i o.guard (Ob P ops fr V w i o)) (hK : K (a'.put o.dst (nth V i)) w) : wpOpIn F n P ops.toArray Q i K a' w := by
  have hi : ops.toArray[i]? = some o := by rw [← nthO_eq]; exact ho
  have hex : execOp a'.eval o = execOp (rho ops fr V o.after) o := execOp_congr o (fun cs b e => by rw [e] at hr; cases hr.1) fun x hx => rho_eqY h hfr hpre hcl hli (List.all_eq_true.1 hr.2.1 x (by simpa using hx))
  cases hg : o.guard with
  | none =>
    rw [hg] at hob
    have hob' : Ob P ops fr V w i o := hob
    unfold Ob at hob'
    exact step_runW hF hi (by simp [Region.wanted, hg]) hr.1 (by rw [hex]; exact hob') hK
  | some p =>
    obtain ⟨g, b⟩ := p
    have h3 := hr.2.2
    rw [hg] at hob h3
    have h4 := Bool.and_eq_true _ _ ▸ h3
    obtain ⟨e, he, hb⟩ := List.any_eq_true.1 h4.1
    have hb2 := Bool.and_eq_true _ _ ▸ hb
    have hlg : L g = true := by
      rw [← Nat.eq_of_beq_eq_true hb2.2]
      exact hpre e (by simpa using he) hb2.1
    cases hog : nthO ops g with
    | none => rw [hog] at h4; cases h4.2
    | some og =>
      rw [hog] at h4
      dsimp only at h4
      cases hdg : og.dst with
      | none => rw [hdg] at h4; cases h4.2
      | some d =>
        have hv := h.val g og d hog hdg hlg
        have hog' : ops.toArray[g]? = some og := by rw [← nthO_eq]; exact hog
        have hoff : ∀ {hw : Region.wanted o (yielded ops.toArray a'.tmps) = false}, nth V i = undef → wpOpIn F n P ops.toArray Q i K a' w := fun {hw} e => by
          rw [e] at hK
          exact step_offF hF hi hw hK
        unfold Gate at hob
        simp only at hob
        split at hob
        · rename_i c hc
          rw [hc] at hv
          by_cases hcb : c = b
          · subst hcb
            have hob' : Ob P ops fr V w i o := by simpa using hob
            exact step_runW hF hi (wanted_on hg hog' hdg hv) hr.1 (by rw [hex]; exact hob') hK
          · have hbn : (c == b) = false := by simp [hcb]
            rw [hbn] at hob
            have hcn : c = !b := by cases c <;> cases b <;> simp_all
            subst hcn
            exact hoff (hw := wanted_off hg hog' hdg hv) hob
        · exact hoff (hw := wanted_no hg hog' hdg (hv.trans hob.1)) hob.2
theorem readsOk_get : ∀ {l : List Oper} {b i : Nat}, readsOk ops fr key b l = true → nthO l i = some o → key.contains (b + i) = false → plainOp o.op = true ∧ o.op.operands.toList.all (coverY ops fr (b + i) o.after.toList) = true ∧ guardOk ops o.after.toList o.guard = true
  | x :: l, b, 0, h, ho, hk => by
    cases ho
    have h1 := (Bool.and_eq_true _ _ ▸ h).1
    rw [Nat.add_zero] at hk
    rw [hk, Bool.false_or] at h1
    have h2 := Bool.and_eq_true _ _ ▸ h1
    have h3 := Bool.and_eq_true _ _ ▸ h2.1
    exact ⟨h3.1, h3.2, h2.2⟩
  | x :: l, b, i + 1, h, ho, hk => by
    have h1 := (Bool.and_eq_true _ _ ▸ h).2
    have e : b + (i + 1) = b + 1 + i := by omega
    rw [e] at hk ⊢
    exact readsOk_get (l := l) (b := b + 1) h1 ho hk
end
/-- Every operation that is carried out has had those that it waits for. -/
def Closed (ops : List Oper) (L : Nat → Bool) : Prop := ∀ j o' e, ops.toArray[j]? = some o' → L j = true → e ∈ o'.after → Region.binds .any e = true → L e.on = true
/-- How far a region is. -/
def RI {U : Type} (ops : List Oper) (a : Act) (V : U → List Value) (ws : (Nat → Bool) → U → World → Prop) (L : Nat → Bool) (a' : Act) (w' : World) : Prop := ∃ u, RU ops a (V u) L a' ∧ ws L u w'
def Keys (G : Nat → Prop) : List Nat → Prop
  | [] => True
  | i :: l => G i ∧ Keys G l
theorem Keys.get {G : Nat → Prop} : ∀ {l : List Nat} {i : Nat}, Keys G l → l.contains i = true → G i
  | x :: l, i, h, hm => by
    by_cases e : i = x
    · subst e; exact h.1
    · exact Keys.get (l := l) h.2 (by simpa [e] using hm)
/-- What is left to show of an operation that turns the world. -/
def KeyG {U : Type} (F : Fence) (n : Nat) (P : Program) (ops : List Oper) (a : Act) (V : U → List Value) (ws : (Nat → Bool) → U → World → Prop) (Q : Exit → Act → World → Prop) (i : Nat) : Prop :=
  ∀ o, nthO ops i = some o → ∀ L u a' w', L i = false → (∀ e ∈ o.after, Region.binds .any e = true → L e.on = true) → Closed ops L → RU ops a (V u) L a' → ws L u w' →
    (∀ u' v w'', (o.dst.isSome = true → nth (V u') i = v) → (∀ j, L j = true → nth (V u') j = nth (V u) j) → ws (fun j => L j || j == i) u' w'' → RI ops a V ws (fun j => L j || j == i) (a'.put o.dst v) w'') →
    wpOpIn F n P ops.toArray Q i (RI ops a V ws (fun j => L j || j == i)) a' w'
def outs : List Oper → List Value → List (Nat × Value)
  | o :: l, v :: vs => match o.dst with
    | some d => (d, v) :: outs l vs
    | none => outs l vs
  | _, _ => []
theorem outs_val {a' : Act} : ∀ {ops : List Oper} {V : List Value}, (∀ j o d, nthO ops j = some o → o.dst = some d → a'.tmps.getD d undef = nth V j) → ∀ p ∈ outs ops V, a'.tmps.getD p.1 undef = p.2
  | o :: l, v :: vs, h, p, hp => by
    have ih := outs_val (ops := l) (V := vs) (fun j o' d hj hd => h (j + 1) o' d hj hd)
    unfold outs at hp
    cases hd : o.dst with
    | none => rw [hd] at hp; exact ih p hp
    | some d =>
      rw [hd] at hp
      rcases List.mem_cons.1 hp with rfl | hp
      · exact h 0 o d rfl hd
      · exact ih p hp
  | [], V, _, p, hp => by cases V <;> cases hp
  | o :: l, [], _, p, hp => by cases hp
theorem outs_cover : ∀ {ops : List Oper} {V : List Value}, ops.length ≤ V.length → coversB ops (outs ops V) = true
  | [], _, _ => rfl
  | o :: l, [], h => by simp at h
  | o :: l, v :: vs, h => by
    have ih := outs_cover (ops := l) (V := vs) (by simpa using h)
    unfold coversB at ih ⊢
    rw [List.all_cons]
    unfold outs
    cases hd : o.dst with
    | none => simpa using ih
    | some d =>
      simp only [Bool.and_eq_true]
      refine ⟨by simp, List.all_eq_true.2 fun x hx => ?_⟩
      have := List.all_eq_true.1 ih x hx
      cases hx : x.dst with
      | none => rfl
      | some e =>
        rw [hx] at this
        simp only [List.any_cons, Bool.or_eq_true]
        exact .inr this
theorem outs_fits {N : Nat} : ∀ {ops : List Oper} {V : List Value}, (ops.filterMap (·.dst)).all (fun d => decide (d < N)) = true → fitsB N (outs ops V) = true
  | [], V, _ => by cases V <;> rfl
  | o :: l, [], _ => rfl
  | o :: l, v :: vs, h => by
    unfold outs
    rw [List.filterMap_cons] at h
    cases hd : o.dst with
    | none =>
      rw [hd] at h
      exact outs_fits (ops := l) (V := vs) h
    | some d =>
      rw [hd] at h
      simp only [List.all_cons, Bool.and_eq_true] at h
      show (decide (d < N) && fitsB N (outs l vs)) = true
      rw [h.1, outs_fits (ops := l) (V := vs) h.2]
      rfl
/-- A region that draws its order. -/
theorem region_f {F : Fence} (hF : ∀ f, F.fn f) {n : Nat} {U : Type} {P : Program} {id : Nat} {a : Act} {w : World} {Q : Exit → Act → World → Prop} (N : Nat) (ops : List Oper) (fr : List (Nat × Value)) (key : List Nat) (V : U → List Value) (ws : (Nat → Bool) → U → World → Prop) (u0 : U)
    (hm : P.follows .mixedOrders = true) (hk : regOk N ops fr key = true) (hN : a.tmps.size = N) (hfr : FrOk a fr) (hlen : ∀ u, ops.length ≤ (V u).length) (h0 : ws (fun _ => false) u0 w.drew)
    (hsame : ∀ L u w' i, key.contains i = false → ws L u w' → ws (fun j => L j || j == i) u w')
    (hobs : ∀ L u w', ws L u w' → Closed ops L → Obs P ops fr (V u) L w' key 0 ops)
    (hkey : Keys (KeyG F n P ops a V ws Q) key)
    (hQ : ∀ L u w', (∀ j, j < ops.length → L j = true) → ws L u w' → Q .normal (puts (outs ops (V u)) a) w') :
    (Code.region id ops.toArray true).wpIn F n P Q a w := by
  have hk1 := Bool.and_eq_true _ _ ▸ hk
  have hk2 := Bool.and_eq_true _ _ ▸ hk1.2
  have hd2 := Bool.and_eq_true _ _ ▸ hk2.1
  refine wpIn_region_by hm hk1.1 (RI ops a V ws) ⟨u0, ⟨⟨rfl, rfl, fun _ _ => rfl⟩, (fun _ _ _ _ _ h => by cases h), fun _ _ => rfl⟩, h0⟩ ?_ ?_
  · rintro L a' w' i o ⟨u, hR, hW⟩ ho hli hpre hcl
    rw [← nthO_eq] at ho
    have hput : ∀ u' v w'', (o.dst.isSome = true → nth (V u') i = v) → (∀ j, L j = true → nth (V u') j = nth (V u) j) → ws (fun j => L j || j == i) u' w'' → RI ops a V ws (fun j => L j || j == i) (a'.put o.dst v) w'' :=
      fun u' v w'' h1 h2 h3 => ⟨u', hR.put hN hk2.1 ho h1 h2, h3⟩
    cases hc : key.contains i with
    | true => exact Keys.get hkey hc o ho L u a' w' hli hpre hcl hR hW hput
    | false =>
      have hob := Obs.get ops 0 i (hobs L u w' hW hcl) ho (by rw [Nat.zero_add]; exact hc) (by rw [Nat.zero_add]; exact hli)
      rw [Nat.zero_add] at hob
      exact step_read hF hR hcl hli hfr ho (by have hx := readsOk_get (i := i) (b := 0) hk2.2 ho (by rw [Nat.zero_add]; exact hc); rw [Nat.zero_add] at hx; exact hx) hpre hob (hput u _ w' (fun _ => rfl) (fun _ _ => rfl) (hsame L u w' i hc hW))
  · rintro L a' w' ⟨u, hR, hW⟩ hl
    have hlj : ∀ j o, nthO ops j = some o → L j = true := fun j o ho => hl j (by
      rw [nthO_eq] at ho
      have := (Array.getElem?_eq_some_iff.1 ho).1
      simpa using this)
    rw [hR.frm.puts (outs ops (V u)) (outs_val fun j o d ho hd => hR.val j o d ho hd (hlj j o ho)) (outs_cover (hlen u)) (by rw [hN]; exact outs_fits hd2.1)]
    exact hQ L u w' hl hW
/-- A region that draws its order. -/
theorem region_c {U : Type} {P : Program} {id : Nat} {a : Act} {w : World} {Q : Exit → Act → World → Prop} (N : Nat) (ops : List Oper) (fr : List (Nat × Value)) (key : List Nat) (V : U → List Value) (ws : (Nat → Bool) → U → World → Prop) (u0 : U)
    (hm : P.follows .mixedOrders = true) (hk : regOk N ops fr key = true) (hN : a.tmps.size = N) (hfr : FrOk a fr) (hlen : ∀ u, ops.length ≤ (V u).length) (h0 : ws (fun _ => false) u0 w.drew)
    (hsame : ∀ L u w' i, key.contains i = false → ws L u w' → ws (fun j => L j || j == i) u w')
    (hobs : ∀ L u w', ws L u w' → Closed ops L → Obs P ops fr (V u) L w' key 0 ops)
    (hkey : Keys (KeyG Fence.wide 1 P ops a V ws Q) key)
    (hQ : ∀ L u w', (∀ j, j < ops.length → L j = true) → ws L u w' → Q .normal (puts (outs ops (V u)) a) w') :
    (Code.region id ops.toArray true).wp P Q a w :=
  (wpIn_wide (n := 1)).1 (region_f (fun _ => trivial) N ops fr key V ws u0 hm hk hN hfr hlen h0 hsame hobs hkey hQ)
theorem key_ne {key : List Nat} {i k : Nat} (h : key.contains i = false) (hk : key.contains k = true) : (k == i) = false := by
  cases e : (k == i) with
  | false => rfl
  | true =>
    rw [eq_of_beq e, h] at hk
    cases hk
/-- What a slot comes to: a value, or what holds of it. -/
inductive VP where
  | eq (v : Value)
  | pr (p : Value → World → Prop)
def vv (u : Nat → Value) : Nat → List VP → List Value
  | _, [] => []
  | j, .eq v :: l => v :: vv u (j + 1) l
  | j, .pr _ :: l => u j :: vv u (j + 1) l
def prAt : List VP → Nat → Value → World → Prop
  | [], _, _, _ => True
  | .eq x :: _, 0, v, _ => v = x
  | .pr p :: _, 0, v, w => p v w
  | _ :: l, n + 1, v, w => prAt l n v w
def Stab (Rl : World → World → Prop) : List VP → Prop
  | [] => True
  | .eq _ :: l => Stab Rl l
  | .pr p :: l => (∀ v w w', p v w → Rl w w' → p v w') ∧ Stab Rl l
theorem Stab.get {Rl : World → World → Prop} {w w' : World} (hr : Rl w w') : ∀ {vs : List VP} {j : Nat} {v : Value}, Stab Rl vs → prAt vs j v w → prAt vs j v w'
  | [], _, _, _, _ => trivial
  | .eq _ :: _, 0, _, _, h => h
  | .pr _ :: _, 0, _, hs, h => hs.1 _ _ _ h hr
  | .eq _ :: l, j + 1, _, hs, h => Stab.get (vs := l) (j := j) hr hs h
  | .pr _ :: l, j + 1, _, hs, h => Stab.get (vs := l) (j := j) hr hs.2 h
theorem vv_nth {u u' : Nat → Value} {i : Nat} : ∀ {vs : List VP} {b j : Nat}, (∀ k, k ≠ i → u' k = u k) → b + j ≠ i → nth (vv u' b vs) j = nth (vv u b vs) j
  | [], _, _, _, _ => rfl
  | .eq _ :: _, _, 0, _, _ => rfl
  | .pr _ :: _, b, 0, h, hn => h b hn
  | .eq _ :: l, b, j + 1, h, hn => vv_nth (vs := l) h (by omega)
  | .pr _ :: l, b, j + 1, h, hn => vv_nth (vs := l) h (by omega)
theorem vv_at {u : Nat → Value} {v : Value} {w : World} : ∀ {vs : List VP} {b j : Nat}, prAt vs j v w → u (b + j) = v → j < vs.length → nth (vv u b vs) j = v
  | .eq _ :: _, _, 0, h, _, _ => h.symm
  | .pr _ :: _, b, 0, _, e, _ => e
  | .eq _ :: l, b, j + 1, h, e, hl => vv_at (vs := l) (b := b + 1) h (by rw [← e]; congr 1; omega) (by simpa using hl)
  | .pr _ :: l, b, j + 1, h, e, hl => vv_at (vs := l) (b := b + 1) h (by rw [← e]; congr 1; omega) (by simpa using hl)
theorem vv_len {u : Nat → Value} : ∀ {vs : List VP} {b : Nat}, (vv u b vs).length = vs.length
  | [], _ => rfl
  | .eq _ :: l, b => by simp [vv, vv_len (vs := l)]
  | .pr _ :: l, b => by simp [vv, vv_len (vs := l)]
def dstsAll (ops : List Oper) : Bool := ops.all fun o => o.dst.isSome
def eqAt : List VP → Nat → Bool
  | .eq _ :: _, 0 => true
  | _ :: l, n + 1 => eqAt l n
  | _, _ => false
theorem eqAt_pr {u : Nat → Value} {w : World} : ∀ {vs : List VP} {b j : Nat}, eqAt vs j = true → prAt vs j (nth (vv u b vs) j) w
  | .eq _ :: _, _, 0, _ => rfl
  | .eq _ :: l, b, j + 1, h => eqAt_pr (vs := l) (b := b + 1) h
  | .pr _ :: l, b, j + 1, h => eqAt_pr (vs := l) (b := b + 1) h
  | [], _, _, h => by cases h
  | .pr _ :: _, _, 0, h => by cases h
/-- Those that only read come to a value. -/
def eqsOk (vs : List VP) (key : List Nat) (n : Nat) : Bool := (List.range n).all fun j => key.contains j || eqAt vs j
def KeyV (F : Fence) (n : Nat) (P : Program) (ops : List Oper) (a : Act) (vs : List VP) (Rl : World → World → Prop) (w0 : World) (Q : Exit → Act → World → Prop) (i : Nat) : Prop :=
  ∀ o d, nthO ops i = some o → o.dst = some d → ∀ a' w', Frm ops a a' → Rl w0 w' → (∀ j o' d', hasEdge o j = true → nthO ops j = some o' → o'.dst = some d' → prAt vs j (a'.tmps.getD d' undef) w') →
    wpOpIn F n P ops.toArray Q i (fun a'' w'' => ∃ v, a'' = a'.put (some d) v ∧ prAt vs i v w'' ∧ Rl w' w'') a' w'
/-- A region that draws its order, every operation of which fills a slot: by what each slot comes to. -/
theorem region_v {P : Program} {id : Nat} {a : Act} {w : World} {Q : Exit → Act → World → Prop} (N : Nat) (ops : List Oper) (fr : List (Nat × Value)) (key : List Nat) (vs : List VP) (Rl : World → World → Prop) (hr : ∀ w, Rl w w) (ht : ∀ {x y z}, Rl x y → Rl y z → Rl x z)
    (hm : P.follows .mixedOrders = true) (hk : (regOk N ops fr key && dstsAll ops) = true) (hk2 : eqsOk vs key ops.length = true) (hN : a.tmps.size = N) (hfr : FrOk a fr) (hlen : ops.length = vs.length) (hst : Stab Rl vs)
    (hobs : ∀ u w', Rl w.drew w' → ∀ L, Obs P ops fr (vv u 0 vs) L w' key 0 ops)
    (hkey : Keys (KeyV Fence.wide 1 P ops a vs Rl w.drew Q) key)
    (hQ : ∀ u w', Rl w.drew w' → (∀ j, j < ops.length → prAt vs j (nth (vv u 0 vs) j) w') → Q .normal (puts (outs ops (vv u 0 vs)) a) w') :
    (Code.region id ops.toArray true).wp P Q a w := by
  have hk1 := Bool.and_eq_true _ _ ▸ hk
  have hlt : ∀ {j o}, nthO ops j = some o → j < ops.length := fun {j o} ho => by
    rw [nthO_eq] at ho
    have := (Array.getElem?_eq_some_iff.1 ho).1
    simpa using this
  have hds : ∀ {j o}, nthO ops j = some o → ∃ d, o.dst = some d := fun {j o} ho => by
    have := List.all_eq_true.1 hk1.2 o (nthO_mem ho)
    exact Option.isSome_iff_exists.1 this
  refine region_c (U := Nat → Value) N ops fr key (fun u => vv u 0 vs) (fun L u w' => Rl w.drew w' ∧ ∀ j, L j = true → j < ops.length → prAt vs j (nth (vv u 0 vs) j) w') (fun _ => undef) hm hk1.1 hN hfr (fun u => by rw [vv_len, hlen]; exact Nat.le_refl _) ⟨hr _, fun _ h => by cases h⟩ ?_ ?_ ?_ ?_
  · rintro L u w' i hi ⟨h1, h2⟩
    refine ⟨h1, fun j hj hjl => ?_⟩
    by_cases e : j = i
    · subst e
      have := List.all_eq_true.1 hk2 j (List.mem_range.2 hjl)
      rw [hi, Bool.false_or] at this
      exact eqAt_pr this
    · exact h2 j (by simpa [e] using hj) hjl
  · rintro L u w' ⟨h1, _⟩ _
    exact hobs u w' h1 L
  · have hall : ∀ {l : List Nat}, Keys (KeyV Fence.wide 1 P ops a vs Rl w.drew Q) l → Keys (KeyG Fence.wide 1 P ops a (fun u => vv u 0 vs) (fun L u w' => Rl w.drew w' ∧ ∀ j, L j = true → j < ops.length → prAt vs j (nth (vv u 0 vs) j) w') Q) l := by
      intro l
      induction l with
      | nil => exact fun _ => trivial
      | cons i l ih =>
        refine fun h => ⟨?_, ih h.2⟩
        rintro o ho L u a' w' hLi hpre hcl hR ⟨h1, h2⟩ fin
        obtain ⟨d, hd⟩ := hds ho
        refine wpOpIn_mono ?_ (h.1 o d ho hd a' w' hR.frm h1 fun j o' d' he hj hd' => ?_)
        · rintro a'' w'' ⟨v, rfl, hp, hw⟩
          rw [← hd]
          have hag : ∀ k, k ≠ i → (fun k => if k = i then v else u k) k = u k := fun k hk => if_neg hk
          have hat : nth (vv (fun k => if k = i then v else u k) 0 vs) i = v := vv_at hp (by rw [Nat.zero_add]; exact if_pos rfl) (by rw [← hlen]; exact hlt ho)
          refine fin (fun k => if k = i then v else u k) v w'' (fun _ => hat) (fun j hj => vv_nth hag (by rw [Nat.zero_add]; rintro rfl; rw [hLi] at hj; cases hj)) ⟨ht h1 hw, fun j hj hjl => ?_⟩
          by_cases e : j = i
          · subst e
            rw [hat]
            exact hp
          · rw [vv_nth hag (by rw [Nat.zero_add]; exact e)]
            exact hst.get hw (h2 j (by simpa [e] using hj) hjl)
        · have hlj := edge_ofF hpre j he
          rw [hR.val j o' d' hj hd' hlj]
          exact h2 j hlj (hlt hj)
    exact hall hkey
  · rintro L u w' hl ⟨h1, h2⟩
    exact hQ u w' h1 fun j hj => h2 j (hl j hj) hj
theorem Obs.all {P : Program} {fr : List (Nat × Value)} {V : List Value} {L : Nat → Bool} {w : World} {key : List Nat} {all : List Oper} : ∀ {l : List Oper} {b : Nat}, (∀ i, i < l.length → key.contains (b + i) = false → L (b + i) = true) → Obs P all fr V L w key b l
  | [], _, _ => trivial
  | o :: l, b, h => by
    refine ⟨?_, Obs.all (l := l) (b := b + 1) fun i hi hk => by
      have e : b + 1 + i = b + (i + 1) := by omega
      rw [e] at hk ⊢
      exact h (i + 1) (by simpa using hi) hk⟩
    cases hc : key.contains b with
    | true => trivial
    | false =>
      intro hl
      have := h 0 (by simp) (by simpa using hc)
      rw [Nat.add_zero, hl] at this
      cases this
def waitsAll (ops : List Oper) (z : Nat) : Bool := match nthO ops z with
  | some o => o.dst.isNone && plainOp o.op && (match o.guard with | none => true | some _ => false) && (List.range z).all (hasEdge o)
  | none => false
/-- A region that draws its order and ends in an operation that waits for all others and fills no slot. -/
theorem region_s {F : Fence} (hF : ∀ f, F.fn f) {n : Nat} {P : Program} {id : Nat} {a : Act} {w : World} {Q : Exit → Act → World → Prop} (N z : Nat) (ops : List Oper) (fr : List (Nat × Value)) (key : List Nat) (vs : List VP) (Rl : World → World → Prop) (Sx : World → World → Prop) (hr : ∀ w, Rl w w) (ht : ∀ {x y z}, Rl x y → Rl y z → Rl x z)
    (hm : P.follows .mixedOrders = true) (hk : (regOk N ops fr (z :: key) && waitsAll ops z) = true) (hk2 : (eqsOk vs (z :: key) ops.length && (key.all fun i => decide (i < z) && match nthO ops i with | some o => o.dst.isSome | none => false)) = true) (hN : a.tmps.size = N) (hfr : FrOk a fr) (hlz : ops.length = z + 1) (hlen : ops.length = vs.length) (hst : Stab Rl vs)
    (hobs : ∀ u w', Rl w.drew w' → ∀ L, Obs P ops fr (vv u 0 vs) L w' (z :: key) 0 ops)
    (hkey : Keys (KeyV F n P ops a vs Rl w.drew Q) key)
    (hlast : ∀ o, nthO ops z = some o → ∀ a' w', Frm ops a a' → Rl w.drew w' → (∀ j o' d', j < z → nthO ops j = some o' → o'.dst = some d' → prAt vs j (a'.tmps.getD d' undef) w') → ∃ W3, (execOp a'.eval o).run P w' = .ok .skip W3 ∧ Sx w' W3)
    (hQ : ∀ u w' W3, Rl w.drew w' → (∀ j, j < z → prAt vs j (nth (vv u 0 vs) j) w') → Sx w' W3 → Q .normal (puts (outs ops (vv u 0 vs)) a) W3) :
    (Code.region id ops.toArray true).wpIn F n P Q a w := by
  have hk1 := Bool.and_eq_true _ _ ▸ hk
  have hk3 := Bool.and_eq_true _ _ ▸ hk2
  have hlt : ∀ {j o}, nthO ops j = some o → j < ops.length := fun {j o} ho => by
    rw [nthO_eq] at ho
    have := (Array.getElem?_eq_some_iff.1 ho).1
    simpa using this
  obtain ⟨oz, hoz, hw1⟩ : ∃ oz, nthO ops z = some oz ∧ (oz.dst.isNone && plainOp oz.op && (match oz.guard with | none => true | some _ => false) && (List.range z).all (hasEdge oz)) = true := by
    have h := hk1.2
    unfold waitsAll at h
    cases e : nthO ops z with
    | none => rw [e] at h; cases h
    | some oz => rw [e] at h; exact ⟨oz, rfl, h⟩
  have hw2 := Bool.and_eq_true _ _ ▸ hw1
  have hw3 := Bool.and_eq_true _ _ ▸ hw2.1
  have hw4 := Bool.and_eq_true _ _ ▸ hw3.1
  have hzall : ∀ {L}, Closed ops L → L z = true → ∀ j, j < z → L j = true := fun {L} hcl hz j hj => by
    have he := List.all_eq_true.1 hw2.2 j (List.mem_range.2 hj)
    have hi : ops.toArray[z]? = some oz := by rw [← nthO_eq]; exact hoz
    exact edge_ofF (o := oz) (fun e h1 h2 => hcl z oz e hi hz h1 h2) j he
  have hkz : ∀ i, key.contains i = true → i < z := fun i hi => by
    have := List.all_eq_true.1 hk3.2 i (by simpa using hi)
    have := Bool.and_eq_true _ _ ▸ this
    simpa using this.1
  have hkd : ∀ i o, key.contains i = true → nthO ops i = some o → o.dst.isSome = true := fun i o hi ho => by
    have := List.all_eq_true.1 hk3.2 i (by simpa using hi)
    have := (Bool.and_eq_true _ _ ▸ this).2
    rw [ho] at this
    exact this
  refine region_f hF (U := Nat → Value) N ops fr (z :: key) (fun u => vv u 0 vs) (fun L u w' => (L z = false → Rl w.drew w' ∧ ∀ j, L j = true → j < z → prAt vs j (nth (vv u 0 vs) j) w') ∧ (L z = true → ∃ w1, Rl w.drew w1 ∧ (∀ j, j < z → prAt vs j (nth (vv u 0 vs) j) w1) ∧ Sx w1 w')) (fun _ => undef) hm hk1.1 hN hfr (fun u => by rw [vv_len, hlen]; exact Nat.le_refl _) ⟨fun _ => ⟨hr _, fun _ h => by cases h⟩, fun h => by cases h⟩ ?_ ?_ ⟨?_, ?_⟩ ?_
  · rintro L u w' i hi ⟨h1, h2⟩
    have hzi : (z == i) = false := key_ne hi (by simp)
    dsimp only
    rw [beq_noF hzi]
    refine ⟨fun hz => ⟨(h1 hz).1, fun j hj hjl => ?_⟩, h2⟩
    by_cases e : j = i
    · subst e
      have := List.all_eq_true.1 hk3.1 j (List.mem_range.2 (by omega))
      rw [hi, Bool.false_or] at this
      exact eqAt_pr this
    · exact (h1 hz).2 j (by simpa [e] using hj) hjl
  · rintro L u w' ⟨h1, _⟩ hcl
    cases hz : L z with
    | false => exact hobs u w' (h1 hz).1 L
    | true =>
      refine Obs.all fun i hi hc => ?_
      rw [Nat.zero_add] at hc ⊢
      have : i ≠ z := by
        rintro rfl
        simp at hc
      exact hzall hcl hz i (by omega)
  · rintro o ho L u a' w' hLi hpre hcl hR ⟨h1, _⟩ fin
    rw [hoz] at ho
    cases ho
    obtain ⟨hr1, hp1⟩ := h1 hLi
    have hallL : ∀ j, j < z → L j = true := fun j hj => edge_ofF hpre j (List.all_eq_true.1 hw2.2 j (List.mem_range.2 hj))
    obtain ⟨W3, hrun, hS⟩ := hlast oz hoz a' w' hR.frm hr1 fun j o' d' hj ho' hd' => by
      rw [hR.val j o' d' ho' hd' (hallL j hj)]
      exact hp1 j (hallL j hj) hj
    have hi : ops.toArray[z]? = some oz := by rw [← nthO_eq]; exact hoz
    have hnd : oz.dst = none := by simpa using hw4.1
    have hK := fin u undef W3 (fun h => by rw [hnd] at h; cases h) (fun _ _ => rfl) ⟨fun h => by simp at h, fun _ => ⟨w', hr1, fun j hj => hp1 j (hallL j hj) hj, hS⟩⟩
    unfold wpOpIn
    have hwant : Region.wanted oz (yielded ops.toArray a'.tmps) = true := by
      have := hw3.2
      cases hg : oz.guard with
      | none => simp [Region.wanted, hg]
      | some g => rw [hg] at this; cases this
    simp only [hi, hwant, if_true]
    refine ⟨fun f _ => hF f, ?_⟩
    rw [Oper.semAt_plain _ _ _ (by intro c e; have := hw4.2; rw [e] at this; cases this), hrun]
    exact hK
  · have hall : ∀ {l : List Nat}, (∀ i ∈ l, i < z ∧ ∀ o, nthO ops i = some o → o.dst.isSome = true) → Keys (KeyV F n P ops a vs Rl w.drew Q) l → Keys (KeyG F n P ops a (fun u => vv u 0 vs) (fun L u w' => (L z = false → Rl w.drew w' ∧ ∀ j, L j = true → j < z → prAt vs j (nth (vv u 0 vs) j) w') ∧ (L z = true → ∃ w1, Rl w.drew w1 ∧ (∀ j, j < z → prAt vs j (nth (vv u 0 vs) j) w1) ∧ Sx w1 w')) Q) l := by
      intro l
      induction l with
      | nil => exact fun _ _ => trivial
      | cons i l ih =>
        refine fun hb h => ⟨?_, ih (fun i hi => hb i (List.mem_cons_of_mem _ hi)) h.2⟩
        rintro o ho L u a' w' hLi hpre hcl hR ⟨h1, _⟩ fin
        have hiz : i < z := (hb i List.mem_cons_self).1
        have hz : L z = false := by
          cases e : L z with
          | false => rfl
          | true => rw [hzall hcl e i hiz] at hLi; cases hLi
        obtain ⟨hr1, h2⟩ := h1 hz
        have hzi : (z == i) = false := by simp; omega
        cases hd : o.dst with
        | none =>
          have := (hb i List.mem_cons_self).2 o ho
          rw [hd] at this
          cases this
        | some d =>
          refine wpOpIn_mono ?_ (h.1 o d ho hd a' w' hR.frm hr1 fun j o' d' he hj hd' => ?_)
          · rintro a'' w'' ⟨v, rfl, hp, hw⟩
            rw [← hd]
            have hag : ∀ k, k ≠ i → (fun k => if k = i then v else u k) k = u k := fun k hk => if_neg hk
            have hat : nth (vv (fun k => if k = i then v else u k) 0 vs) i = v := vv_at hp (by rw [Nat.zero_add]; exact if_pos rfl) (by rw [← hlen]; exact hlt ho)
            refine fin (fun k => if k = i then v else u k) v w'' (fun _ => hat) (fun j hj => vv_nth hag (by rw [Nat.zero_add]; rintro rfl; rw [hLi] at hj; cases hj)) ⟨fun _ => ⟨ht hr1 hw, fun j hj hjl => ?_⟩, fun hz2 => ?_⟩
            · by_cases e : j = i
              · subst e
                rw [hat]
                exact hp
              · rw [vv_nth hag (by rw [Nat.zero_add]; exact e)]
                exact hst.get hw (h2 j (by simpa [e] using hj) hjl)
            · have hz3 : (L z || z == i) = true := hz2
              rw [beq_noF hzi, hz] at hz3
              cases hz3
          · have hlj := edge_ofF hpre j he
            have hjz : j < z := by
              have h3 := hlt hj
              have : j ≠ z := by rintro rfl; rw [hz] at hlj; cases hlj
              omega
            rw [hR.val j o' d' hj hd' hlj]
            exact h2 j hlj hjz
    exact hall (fun i hi => ⟨hkz i (by simpa using hi), fun o ho => hkd i o (by simpa using hi) ho⟩) hkey
  · rintro L u w' hl ⟨_, h2⟩
    obtain ⟨w1, k1, k2, k3⟩ := h2 (hl z (by omega))
    exact hQ u w1 w' k1 k2 k3
section
variable {P : Program} {w : World} {ρ : Operand → Value} {d : Option Tmp} {ty : TypeId} {pos : String} {af : Array Edge} {g : Option (Nat × Bool)} {v : Value}
theorem ob_load {t : TypeId} {x : Operand} (h : (Instr.loadAt t (ρ x)).run P w = .ok v w) : (execOp ρ ⟨d, .load t x, ty, pos, af, g⟩).run P w = .ok (.value v) w := by simp [execOp, h]
theorem ob_fld {t : TypeId} {x : Operand} {k : Nat} (h : (Instr.fieldAt t (ρ x) k).run P w = .ok v w) : (execOp ρ ⟨d, .fieldAddr t x k, ty, pos, af, g⟩).run P w = .ok (.value v) w := by simp [execOp, h]
theorem ob_idx {t : TypeId} {x y : Operand} (h : (Instr.indexAt t (ρ x) (ρ y)).run P w = .ok v w) : (execOp ρ ⟨d, .indexAddr t x y, ty, pos, af, g⟩).run P w = .ok (.value v) w := by simp [execOp, h]
theorem ob_bin {op : BinOp} {t u : TypeId} {x y : Operand} (hg : (eqGuard op t x y (ρ x) (ρ y)).run P w = .ok () w) (h : (binOp op t (ρ x) (ρ y)).run P w = .ok v w) : (execOp ρ ⟨d, .binOp op t x y u, ty, pos, af, g⟩).run P w = .ok (.value v) w := by simp [execOp, hg, h]
theorem ob_un {op : UnOp} {t : TypeId} {x : Operand} (h : (Op.unary op (ρ x)).run P w = .ok v w) : (execOp ρ ⟨d, .unOp op t x, ty, pos, af, g⟩).run P w = .ok (.value v) w := by simp [execOp, h]
theorem ob_cv {t u : TypeId} {x : Operand} (h : (convert t u (ρ x)).run P w = .ok v w) : (execOp ρ ⟨d, .convert t u x, ty, pos, af, g⟩).run P w = .ok (.value v) w := by simp [execOp, h]
theorem ob_sl {t : TypeId} {x : Operand} {l h m : Option Operand} (hr : (Instr.sliceAt t (ρ x) (l.map ρ) (h.map ρ) (m.map ρ)).run P w = .ok v w) : (execOp ρ ⟨d, .slice t x l h m, ty, pos, af, g⟩).run P w = .ok (.value v) w := by simp [execOp, hr]
theorem ob_ext {x : Operand} {k : Nat} (h : (Instr.extract (ρ x) k).run P w = .ok v w) : (execOp ρ ⟨d, .extract x k, ty, pos, af, g⟩).run P w = .ok (.value v) w := by simp [execOp, h]
theorem ob_bd {t : TypeId} {ps : Array (Nat × Operand)} (h : (Instr.build t (ps.map fun (i, x) => (i, ρ x))).run P w = .ok v w) : (execOp ρ ⟨d, .build t ps, ty, pos, af, g⟩).run P w = .ok (.value v) w := by simp [execOp, h]
theorem ob_pick {c x y : Operand} {b : Bool} (hc : ρ c = .bool b) (h : (if b then ρ x else ρ y) = v) : (execOp ρ ⟨d, .pick c x y, ty, pos, af, g⟩).run P w = .ok (.value v) w := by cases b <;> simp_all [execOp, asBool]
theorem ob_len {t e : TypeId} (ht : P.underlying t = some (.slice e)) {x : Operand} {A : Option Addr} {L c : Nat} (hx : ρ x = .slice A L c) : (execOp ρ ⟨d, .call { callee := .builtin .len, args := #[x], argTypes := #[t] }, ty, pos, af, g⟩).run P w = .ok (.value (.int .i64 (L : Int))) w := by
  have hl : (Builtin.len_ #[t] ty #[.slice A L c]).run P w = .ok (.int .i64 (L : Int)) w := by
    simp [Builtin.len_, run_underlying ht]; rfl
  unfold execOp
  simp only [resolve, invoke, builtin, Sem.run_bind, Sem.run_pure, Result.andThen_ok, List.map_toArray, List.map_cons, List.map_nil, hx, hl]
end
end Go.Proofs.YtdiihaeelcbjbaaGreatDoor
