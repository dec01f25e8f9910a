/- Laws of our own for a statement whose order of evaluation is open: by an invariant over what has been carried out, in place of a walk through every order. -/
import Derived.OrdersIn
import Derived.OwnWalkIn
import Derived.Below
namespace Go.Proofs.Yteiednjhliobeaa
open Go.RowKit

/-- Every edge that binds leads back. -/
def backwards (ops : List Oper) : Bool := ops.zipIdx.all fun (o, i) => o.after.all fun e => !(Region.binds .any e) || decide (e.on < i)

theorem backwards_spec {ops : List Oper} (h : backwards ops = true) {i : Nat} {o : Oper} (ho : ops.toArray[i]? = some o) {e : Edge} (he : e ∈ o.after) (hbd : Region.binds .any e = true) : e.on < i := by
  unfold backwards at h
  rw [List.all_eq_true] at h
  have hm : (o, i) ∈ ops.zipIdx := by
    rw [List.mem_zipIdx_iff_getElem?]
    simpa using ho
  have := h _ hm
  simp only [Array.all_eq_true_iff_forall_mem] at this
  simpa [hbd] using this e he

section
variable {F : Fence} {n : Nat} {P : Program} {Q : Exit → Act → World → Prop} {ops : List Oper}

/-- What has been carried out, as a function. -/
def lst (listed : Array Bool) (j : Nat) : Bool := listed.getD j false

theorem lst_set {listed : Array Bool} {i : Nat} (hi : i < listed.size) (j : Nat) : lst (listed.setIfInBounds i true) j = (lst listed j || j == i) := by
  unfold lst
  by_cases h : j = i
  · subst h; simp [hi]
  · simp [Ne.symm h, h]

theorem wpAnyIn_by (hb : backwards ops = true) (Inv : (Nat → Bool) → Act → World → Prop)
    (hstep : ∀ L a w i o, Inv L a w → ops.toArray[i]? = some o → L i = false → (∀ e ∈ o.after, Region.binds .any e = true → L e.on = true) →
      (∀ j o' e, ops.toArray[j]? = some o' → L j = true → e ∈ o'.after → Region.binds .any e = true → L e.on = true) →
      wpOpIn F n P ops.toArray Q i (fun a' w' => Inv (fun j => L j || j == i) a' w') a w)
    (hdone : ∀ L a w, Inv L a w → (∀ j, j < ops.length → L j = true) → Q .normal a w) :
    ∀ (fuel : Nat) (listed : Array Bool) (a : Act) (w : World), listed.size = ops.length → (listed.toList.countP (!·)) ≤ fuel →
      (∀ j o' e, ops.toArray[j]? = some o' → lst listed j = true → e ∈ o'.after → Region.binds .any e = true → lst listed e.on = true) →
      Inv (lst listed) a w → wpAnyIn F n P .any ops.toArray Q fuel listed a w := by
  have hall : ∀ listed : Array Bool, listed.size = ops.length → Region.ready .any ops.toArray listed = [] → ∀ j, j < ops.length → lst listed j = true := by
    intro listed hs hr j
    induction j using Nat.strongRecOn with
    | ind j ih =>
      intro hj
      refine Classical.byContradiction fun hn => ?_
      have hmem : j ∈ Region.ready .any ops.toArray listed := by
        rw [mem_ready]
        obtain ⟨o, ho⟩ : ∃ o, ops.toArray[j]? = some o := ⟨ops[j], by simp [hj]⟩
        refine ⟨?_, o, ho, ?_⟩
        · have : listed.getD j true = listed.getD j false := by simp [Array.getD, hs, hj]
          rw [this]; simpa [lst] using hn
        · intro e he hbd
          have hlt := backwards_spec hb ho he hbd
          exact ih e.on hlt (by omega)
      rw [hr] at hmem
      cases hmem
  intro fuel
  induction fuel with
  | zero =>
    intro listed a w hs hc hcl hi
    have hlist : ∀ j, j < ops.length → lst listed j = true := by
      intro j hj
      have h0 : listed.toList.countP (!·) = 0 := by omega
      rw [List.countP_eq_zero] at h0
      have hm : listed[j]'(by omega) ∈ listed.toList := by simp
      have := h0 _ hm
      simp [lst, Array.getD, hs, hj] at this ⊢
      exact this
    refine ⟨?_, hdone _ a w hi hlist⟩
    apply List.eq_nil_iff_forall_not_mem.2
    intro j hj
    rw [mem_ready] at hj
    obtain ⟨hl, o, ho, _⟩ := hj
    have hj' : j < ops.length := by
      have := (Array.getElem?_eq_some_iff.1 ho).1
      simpa using this
    have := hlist j hj'
    simp [lst, Array.getD, hs, hj'] at this hl
    rw [this] at hl; cases hl
  | succ fuel ih =>
    intro listed a w hs hc hcl hi
    refine ⟨fun hr => hdone _ a w hi (hall listed hs hr), fun i hmem => ?_⟩
    rw [mem_ready] at hmem
    obtain ⟨hl, o, ho, hp⟩ := hmem
    have hi' : i < ops.length := by
      have := (Array.getElem?_eq_some_iff.1 ho).1
      simpa using this
    have hli : lst listed i = false := by
      have : listed.getD i true = listed.getD i false := by simp [Array.getD, hs, hi']
      unfold lst; rw [← this]; exact hl
    have hpre : ∀ e ∈ o.after, Region.binds .any e = true → lst listed e.on = true := fun e he hbd => hp e he hbd
    refine wpOpIn_mono (fun a' w' h => ?_) (hstep (lst listed) a w i o hi ho hli hpre hcl)
    have heq : (fun j => lst listed j || j == i) = lst (listed.setIfInBounds i true) := by
      funext j; rw [lst_set (by omega)]
    refine ih _ a' w' (by simpa using hs) ?_ ?_ (heq ▸ h)
    · have hset : (listed.setIfInBounds i true).toList = listed.toList.set i true := by simp
      rw [hset]
      have hget : listed.toList[i]'(by simp; omega) = false := by
        have := hli
        simp [lst, Array.getD, hs, hi'] at this
        simpa using this
      have := List.countP_set (p := fun b : Bool => !b) (l := listed.toList) (i := i) (a := true) (by simp; omega)
      rw [this, hget]
      show List.countP _ _ - 1 + 0 ≤ fuel
      omega
    · intro j o' e hj hlj he hbd
      rw [lst_set (by omega)] at hlj ⊢
      rcases Bool.or_eq_true _ _ ▸ hlj with h | h
      · rw [hcl j o' e hj h he hbd]; rfl
      · have : j = i := by simpa using h
        subst this
        rw [ho] at hj; cases hj
        rw [hpre e he hbd]; rfl

/-- A region that draws its order, by an invariant. -/
theorem wpIn_region_by {id : Nat} {a : Act} {w : World} (hm : P.follows .mixedOrders = true) (hb : backwards ops = true) (Inv : (Nat → Bool) → Act → World → Prop)
    (h0 : Inv (fun _ => false) a w.drew)
    (hstep : ∀ L a w i o, Inv L a w → ops.toArray[i]? = some o → L i = false → (∀ e ∈ o.after, Region.binds .any e = true → L e.on = true) →
      (∀ j o' e, ops.toArray[j]? = some o' → L j = true → e ∈ o'.after → Region.binds .any e = true → L e.on = true) →
      wpOpIn F n P ops.toArray Q i (fun a' w' => Inv (fun j => L j || j == i) a' w') a w)
    (hdone : ∀ L a w, Inv L a w → (∀ j, j < ops.length → L j = true) → Q .normal a w) :
    (Code.region id ops.toArray true).wpIn F n P Q a w := by
  have hl : lst (Array.replicate ops.toArray.size false) = fun _ => false := by
    funext j
    simp [lst, Array.getD]
  refine wpIn_region_any hm (wpAnyIn_by hb Inv hstep hdone _ _ a _ (by simp) ?_ ?_ ?_)
  · rw [Array.toList_replicate]; exact Nat.le_trans (List.countP_le_length) (by simp)
  · intro j o' e hj hlj
    rw [hl] at hlj; cases hlj
  · rw [hl]; exact h0

/-- One operation that makes no call of a Go function. -/
theorem step_run {ops : Array Oper} {i : Nat} {o : Oper} {a : Act} {w w' : World} {v : Value} {K : Act → World → Prop} (hi : ops[i]? = some o) (hw : Region.wanted o (yielded ops a.tmps) = true)
    (hnd : ∀ c, o.op ≠ .defer c) (hab : o.about P w a.eval = none) (hrun : (execOp a.eval o).run P w = .ok (.value v) w') (h : K (a.put o.dst v) w') : wpOpIn F n P ops Q i K a w := by
  unfold wpOpIn
  simp only [hi, hw, if_true]
  refine ⟨fun f hf => absurd (hab.symm.trans hf) (by simp), ?_⟩
  rw [Oper.semAt_plain F _ _ hnd, hrun]
  exact h

theorem step_skip {ops : Array Oper} {i : Nat} {o : Oper} {a : Act} {w w' : World} {K : Act → World → Prop} (hi : ops[i]? = some o) (hw : Region.wanted o (yielded ops a.tmps) = true)
    (hnd : ∀ c, o.op ≠ .defer c) (hab : o.about P w a.eval = none) (hrun : (execOp a.eval o).run P w = .ok .skip w') (h : K (a.put o.dst undef) w') : wpOpIn F n P ops Q i K a w := by
  unfold wpOpIn
  simp only [hi, hw, if_true]
  refine ⟨fun f hf => absurd (hab.symm.trans hf) (by simp), ?_⟩
  rw [Oper.semAt_plain F _ _ hnd, hrun]
  exact h

/-- A call of a Go function. -/
theorem step_call {ops : Array Oper} {i : Nat} {o : Oper} {a : Act} {w : World} {K : Act → World → Prop} {f : FuncId} {xs : Array Operand} {ts : Array TypeId} (hi : ops[i]? = some o) (hw : Region.wanted o (yielded ops a.tmps) = true)
    (ho : o.op = .call { callee := .value (.func f), args := xs, argTypes := ts }) (hF : F.fn f) (hd : F.depth.isSome = true → 1 ≤ n) (eg : ∀ args w, (callFunc f args).run P w = .ok (.enter f args) w)
    (hc : CallsIn F (n - 1) P f (xs.map a.eval) w fun e w' => ∃ v, e = .returned v ∧ K (a.put o.dst v) w') : wpOpIn F n P ops Q i K a w := by
  unfold wpOpIn
  simp only [hi, hw, if_true]
  have hres : (resolve a.eval { callee := .value (.func f), args := xs, argTypes := ts } o.type).run P w = .ok { target := .fn (.func f) #[], args := xs.map a.eval } w := by
    simp [resolve, Act.eval, Deferred.ofValue]
  refine ⟨fun g hg => ?_, ?_⟩
  · simp [Oper.about, ho, hres, Target.leads] at hg
    subst hg; exact hF
  · rw [Oper.semAt_plain F _ _ (by rw [ho]; intro c hc'; cases hc')]
    have hex : (execOp a.eval o).run P w = .ok (.enter f (xs.map a.eval)) w := by
      simp [execOp, ho, hres, invoke, eg]
    rw [hex]
    refine ⟨hd, hc.mono ?_⟩
    rintro e w' ⟨v, rfl, h⟩
    exact h

/-- Every operation fills a slot of its own. -/
def slotsOk (N : Nat) (ops : List Oper) : Bool :=
  ops.all (fun o => match o.dst with | some d => decide (d < N) | none => false) && decide ((ops.map (·.dst)).Nodup)

/-- Is there an edge from j to o? -/
def hasEdge (o : Oper) (j : Nat) : Bool := o.after.toList.any fun e => e.on == j && Region.binds .any e

theorem getD_put_same {a : Act} {d : Nat} {v : Value} (h : d < a.tmps.size) : (a.put (some d) v).tmps.getD d undef = v := by
  simp [Act.put, Array.getD, h]
theorem getD_put_ne {a : Act} {d s : Nat} {v : Value} (h : s ≠ d) : (a.put (some d) v).tmps.getD s undef = a.tmps.getD s undef := by
  simp [Act.put, Array.getD_eq_getD_getElem?, Array.getElem?_setIfInBounds, Ne.symm h]
theorem size_put {a : Act} {d : Option Nat} {v : Value} : (a.put d v).tmps.size = a.tmps.size := by
  cases d <;> simp [Act.put]
theorem defers_put {a : Act} {d : Option Nat} {v : Value} : (a.put d v).defers = a.defers := by
  cases d <;> rfl

/-- The frame a' is a but for the slots that the region fills. -/
structure Frm (ops : List Oper) (a a' : Act) : Prop where
  size : a'.tmps.size = a.tmps.size
  defers : a'.defers = a.defers
  old : ∀ s, (∀ o ∈ ops, o.dst ≠ some s) → a'.tmps.getD s undef = a.tmps.getD s undef

/-- A region that draws its order, every operation of which fills a slot of its own: by what each slot holds. -/
theorem wpIn_region_vals {id : Nat} {a : Act} {w : World} (N : Nat) (hN : a.tmps.size = N) (hm : P.follows .mixedOrders = true) (hb : backwards ops = true) (hs : slotsOk N ops = true)
    (Rl : World → World → Prop) (hr : ∀ w, Rl w w) (ht : ∀ {x y z}, Rl x y → Rl y z → Rl x z)
    (ψ : Nat → Value → World → Prop) (hψ : ∀ i v w w', ψ i v w → Rl w w' → ψ i v w')
    (hstep : ∀ i o d, ops.toArray[i]? = some o → o.dst = some d → ∀ a' w', Frm ops a a' → Rl w.drew w' →
      (∀ j o' d', hasEdge o j = true → ops.toArray[j]? = some o' → o'.dst = some d' → ψ j (a'.tmps.getD d' undef) w') →
      wpOpIn F n P ops.toArray Q i (fun a'' w'' => ∃ v, a'' = a'.put (some d) v ∧ ψ i v w'' ∧ Rl w' w'') a' w')
    (hdone : ∀ a' w', Frm ops a a' → Rl w.drew w' → (∀ j o' d', ops.toArray[j]? = some o' → o'.dst = some d' → ψ j (a'.tmps.getD d' undef) w') → Q .normal a' w') :
    (Code.region id ops.toArray true).wpIn F n P Q a w := by
  have hall : ∀ (i : Nat) (o : Oper), ops.toArray[i]? = some o → ∃ d, o.dst = some d ∧ d < N := by
    intro i o ho
    have h1 := (Bool.and_eq_true _ _ ▸ hs).1
    rw [List.all_eq_true] at h1
    have hmem : o ∈ ops := by simpa using List.mem_of_getElem? (by simpa using ho)
    have := h1 o hmem
    cases hd : o.dst with
    | none => rw [hd] at this; cases this
    | some d => rw [hd] at this; exact ⟨d, rfl, by simpa using this⟩
  have hinj : ∀ (i j : Nat) (o o' : Oper) (d : Nat), ops.toArray[i]? = some o → ops.toArray[j]? = some o' → o.dst = some d → o'.dst = some d → i = j := by
    intro i j o o' d hi hj hd hd'
    have h1 := (Bool.and_eq_true _ _ ▸ hs).2
    have hnd : (ops.map (·.dst)).Nodup := by simpa using h1
    have hi' : (ops.map (·.dst))[i]? = some (some d) := by simp at hi; simp [hi, hd]
    have hj' : (ops.map (·.dst))[j]? = some (some d) := by simp at hj; simp [hj, hd']
    have hlt : i < (ops.map (·.dst)).length := by
      rcases Nat.lt_or_ge i (ops.map (·.dst)).length with h | h
      · exact h
      · rw [List.getElem?_eq_none h] at hi'; cases hi'
    exact (List.getElem?_inj hlt hnd).1 (hi'.trans hj'.symm)
  refine wpIn_region_by hm hb (fun L a' w' => Frm ops a a' ∧ Rl w.drew w' ∧ ∀ j o' d', L j = true → ops.toArray[j]? = some o' → o'.dst = some d' → ψ j (a'.tmps.getD d' undef) w')
    ⟨⟨rfl, rfl, fun _ _ => rfl⟩, hr _, fun _ _ _ h => by cases h⟩ ?_ ?_
  · rintro L a' w' i o ⟨hF, hR, hL⟩ hi hli hpre hcl
    obtain ⟨d, hd, hdN⟩ := hall i o hi
    refine wpOpIn_mono ?_ (hstep i o d hi hd a' w' hF hR (fun j o' d' he hj hd' => hL j o' d' ?_ hj hd'))
    · rintro a'' w'' ⟨v, rfl, hv, hR'⟩
      refine ⟨⟨size_put.trans hF.size, defers_put.trans hF.defers, fun s hs' => ?_⟩, ht hR hR', fun j o' d' hj ho' hd' => ?_⟩
      · have hmem : o ∈ ops := by simpa using List.mem_of_getElem? (by simpa using hi)
        rw [getD_put_ne (fun e => hs' o hmem (by rw [hd, e]))]
        exact hF.old s hs'
      · by_cases hji : j = i
        · subst hji
          rw [hi] at ho'; cases ho'
          rw [hd] at hd'; cases hd'
          rw [getD_put_same (by rw [hF.size, hN]; exact hdN)]
          exact hv
        · have hne : d' ≠ d := fun e => hji (by subst e; exact hinj j i o' o d' ho' hi hd' hd)
          rw [getD_put_ne hne]
          have hlj : L j = true := by simpa [hji] using hj
          exact hψ j _ _ _ (hL j o' d' hlj ho' hd') hR'
    · unfold hasEdge at he
      rw [List.any_eq_true] at he
      obtain ⟨e, hem, he'⟩ := he
      have h1 : e.on = j ∧ Region.binds .any e = true := by simpa using he'
      rw [← h1.1]
      exact hpre e (by simpa using hem) h1.2
  · rintro L a' w' ⟨hF, hR, hL⟩ hl
    refine hdone a' w' hF hR (fun j o' d' hj hd' => hL j o' d' (hl j ?_) hj hd')
    have := (Array.getElem?_eq_some_iff.1 hj).1
    simpa using this
end
end Go.Proofs.Yteiednjhliobeaa
