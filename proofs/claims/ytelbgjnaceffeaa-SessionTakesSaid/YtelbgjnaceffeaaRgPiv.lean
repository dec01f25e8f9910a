/- A region that draws its order, with one operation that changes what the others found: all that leans on the world waits for it. -/
import Derived.Test.YtelbgjnaceffeaaMBase
namespace Go.Proofs.Ytelbgjnaceffeaa
open Go.RowKit

section
variable {F : Fence} {n : Nat} {P : Program} {ops : List Oper} {Q : Exit → Act → World → Prop}
/-- dep: the operations that wait for c, c among them. -/
def depOk (ops : List Oper) (c : Nat) (dep : Nat → Bool) : Bool :=
  (List.range ops.length).all fun i => !dep i || i == c || (match ops.toArray[i]? with | some o => o.after.toList.any (fun e => Region.binds .any e && dep e.on && decide (e.on < i)) | none => true)
theorem dep_done {c : Nat} {dep : Nat → Bool} (hd : depOk ops c dep = true) {L : Nat → Bool} (hcl : ∀ (j : Nat) (o' : Oper) e, ops.toArray[j]? = some o' → L j = true → e ∈ o'.after → Region.binds .any e = true → L e.on = true) :
    ∀ (k i : Nat) (o : Oper), i ≤ k → ops.toArray[i]? = some o → dep i = true → L i = true → L c = true := by
  intro k
  induction k with
  | zero =>
    intro i o hik ho hdi hli
    obtain rfl : i = 0 := by omega
    have hlt := (Array.getElem?_eq_some_iff.1 ho).1
    have h1 := List.all_eq_true.1 hd 0 (List.mem_range.2 (by simpa using hlt))
    rw [ho] at h1
    simp only [hdi, Bool.not_true, Bool.false_or] at h1
    rcases Bool.or_eq_true _ _ ▸ h1 with h2 | h2
    · have : 0 = c := by simpa using h2
      rw [← this]; exact hli
    · obtain ⟨e, _, he⟩ := List.any_eq_true.1 h2
      simp at he
  | succ k ih =>
    intro i o hik ho hdi hli
    have hlt := (Array.getElem?_eq_some_iff.1 ho).1
    have h1 := List.all_eq_true.1 hd i (List.mem_range.2 (by simpa using hlt))
    rw [ho] at h1
    simp only [hdi, Bool.not_true, Bool.false_or] at h1
    rcases Bool.or_eq_true _ _ ▸ h1 with h2 | h2
    · have : i = c := by simpa using h2
      rw [← this]; exact hli
    · obtain ⟨e, hem, he⟩ := List.any_eq_true.1 h2
      have he' : (Region.binds .any e = true ∧ dep e.on = true) ∧ e.on < i := by simpa using he
      have hlt2 : e.on < ops.toArray.size := Nat.lt_trans he'.2 hlt
      exact ih e.on _ (by omega) (Array.getElem?_eq_getElem hlt2) he'.1.2 (hcl i o e ho hli (by simpa using hem) he'.1.1)
theorem wpIn_region_piv {id : Nat} {a : Act} {w : World} (N : Nat) (hN : a.tmps.size = N) (hm : P.follows .mixedOrders = true) (hb : backwards ops = true) (hs : slotsOk N ops = true)
    (c : Nat) (dep : Nat → Bool) (hdep : depOk ops c dep = true) (I0 : World → Prop) (I1 : Nat → World → Prop) (Rl : Nat → World → World → Prop) (hI1 : ∀ M w w', I1 M w → Rl M w w' → I1 M w')
    (ψ : Nat → Nat → Value → World → Prop) (hψ : ∀ M i v w w', ψ M i v w → Rl M w w' → ψ M i v w') (hψ0 : ∀ M M' i v w w', i < ops.length → dep i = false → ψ M i v w → ψ M' i v w') (h0 : I0 w.drew)
    (hstep : ∀ i o d, ops.toArray[i]? = some o → o.dst = some d → i ≠ c → ∀ M a' w', Frm ops a a' → (I0 w' ∨ I1 M w') → (dep i = true → I1 M w') →
      (∀ j o' d', hasEdge o j = true → ops.toArray[j]? = some o' → o'.dst = some d' → ψ M j (a'.tmps.getD d' undef) w') →
      wpOpIn F n P ops.toArray Q i (fun a'' w'' => ∃ v, a'' = a'.put (some d) v ∧ ψ M i v w'' ∧ Rl M w' w'' ∧ (dep i = false → w'' = w')) a' w')
    (hpiv : ∀ o d, ops.toArray[c]? = some o → o.dst = some d → ∀ M a' w', Frm ops a a' → I0 w' →
      (∀ j o' d', hasEdge o j = true → ops.toArray[j]? = some o' → o'.dst = some d' → ψ M j (a'.tmps.getD d' undef) w') →
      wpOpIn F n P ops.toArray Q c (fun a'' w'' => ∃ v M', a'' = a'.put (some d) v ∧ ψ M' c v w'' ∧ I1 M' w'') a' w')
    (hc : c < ops.length)
    (hdone : ∀ M a' w', Frm ops a a' → I1 M w' → (∀ j o' d', ops.toArray[j]? = some o' → o'.dst = some d' → ψ M j (a'.tmps.getD d' undef) w') → Q .normal a' w') :
    (Code.region id ops.toArray true).wpIn F n P Q a w := by
  have hall : ∀ (i : Nat) (o : Oper), ops.toArray[i]? = some o → ∃ d, o.dst = some d ∧ d < N := by
    intro i o ho
    have h1 := (Bool.and_eq_true _ _ ▸ hs).1
    rw [List.all_eq_true] at h1
    have hmem : o ∈ ops := by simpa using List.mem_of_getElem? (by simpa using ho)
    have := h1 o hmem
    cases hd : o.dst with
    | none => rw [hd] at this; cases this
    | some d => rw [hd] at this; exact ⟨d, rfl, by simpa using this⟩
  have hinj : ∀ (i j : Nat) (o o' : Oper) (d : Nat), ops.toArray[i]? = some o → ops.toArray[j]? = some o' → o.dst = some d → o'.dst = some d → i = j := by
    intro i j o o' d hi hj hd hd'
    have h1 := (Bool.and_eq_true _ _ ▸ hs).2
    have hnd : (ops.map (·.dst)).Nodup := by simpa using h1
    have hi' : (ops.map (·.dst))[i]? = some (some d) := by simp at hi; simp [hi, hd]
    have hj' : (ops.map (·.dst))[j]? = some (some d) := by simp at hj; simp [hj, hd']
    have hlt : i < (ops.map (·.dst)).length := by
      rcases Nat.lt_or_ge i (ops.map (·.dst)).length with h | h
      · exact h
      · rw [List.getElem?_eq_none h] at hi'; cases hi'
    exact (List.getElem?_inj hlt hnd).1 (hi'.trans hj'.symm)
  refine wpIn_region_by hm hb (fun L a' w' => ∃ M, Frm ops a a' ∧ (L c = false → I0 w') ∧ (L c = true → I1 M w') ∧ ∀ j o' d', L j = true → ops.toArray[j]? = some o' → o'.dst = some d' → ψ M j (a'.tmps.getD d' undef) w')
    ⟨0, ⟨rfl, rfl, fun _ _ => rfl⟩, fun _ => h0, fun h => by simp at h, fun _ _ _ h => by cases h⟩ ?_ ?_
  · rintro L a' w' i o ⟨M, hF, hA, hB, hL⟩ hi hli hpre hcl
    obtain ⟨d, hd, hdN⟩ := hall i o hi
    have hmem : o ∈ ops := by simpa using List.mem_of_getElem? (by simpa using hi)
    have hedge : ∀ j o' d', hasEdge o j = true → ops.toArray[j]? = some o' → o'.dst = some d' → ψ M j (a'.tmps.getD d' undef) w' := fun j o' d' he hj hd' => hL j o' d' (by
      unfold hasEdge at he
      rw [List.any_eq_true] at he
      obtain ⟨e, hem, he'⟩ := he
      have h1 : e.on = j ∧ Region.binds .any e = true := by simpa using he'
      rw [← h1.1]
      exact hpre e (by simpa using hem) h1.2) hj hd'
    have hfrm : ∀ v, Frm ops a (a'.put (some d) v) := fun v => ⟨size_put.trans hF.size, defers_put.trans hF.defers, fun s hs' => by
      rw [getD_put_ne (fun e => hs' o hmem (by rw [hd, e]))]
      exact hF.old s hs'⟩
    have hnew : ∀ (M : Nat) (v : Value) (w'' : World), ψ M i v w'' → (∀ j o' d', j ≠ i → L j = true → ops.toArray[j]? = some o' → o'.dst = some d' → ψ M j (a'.tmps.getD d' undef) w'') → ∀ j o' d', (L j || j == i) = true → ops.toArray[j]? = some o' → o'.dst = some d' → ψ M j ((a'.put (some d) v).tmps.getD d' undef) w'' := by
      intro M v w'' hv hk j o' d' hj ho' hd'
      by_cases hji : j = i
      · subst hji
        rw [hi] at ho'; cases ho'
        rw [hd] at hd'; cases hd'
        rw [getD_put_same (by rw [hF.size, hN]; exact hdN)]
        exact hv
      · have hne : d' ≠ d := fun e => hji (by subst e; exact hinj j i o' o d' ho' hi hd' hd)
        rw [getD_put_ne hne]
        exact hk j o' d' hji (by simpa [hji] using hj) ho' hd'
    by_cases hic : i = c
    · subst hic
      refine wpOpIn_mono ?_ (hpiv o d hi hd M a' w' hF (hA hli) hedge)
      rintro a'' w'' ⟨v, M', rfl, hv, h1⟩
      refine ⟨M', hfrm v, fun h => by simp at h, fun _ => h1, hnew M' v w'' hv (fun j o' d' hji hlj ho' hd' => ?_)⟩
      have hjl : j < ops.length := by
        have := (Array.getElem?_eq_some_iff.1 ho').1
        simpa using this
      refine hψ0 M M' j _ w' _ hjl ?_ (hL j o' d' hlj ho' hd')
      cases hdj : dep j with
      | false => rfl
      | true =>
        have := dep_done hdep hcl j j o' (Nat.le_refl _) ho' hdj hlj
        rw [hli] at this; cases this
    · have hci : (c == i) = false := by simpa using fun e => hic (Eq.symm e)
      have hIor : I0 w' ∨ I1 M w' := by
        cases hlc : L c with
        | false => exact .inl (hA hlc)
        | true => exact .inr (hB hlc)
      have hdl : dep i = true → L c = true := fun hdi => by
        have hlt := (Array.getElem?_eq_some_iff.1 hi).1
        have h1 := List.all_eq_true.1 hdep i (List.mem_range.2 (by simpa using hlt))
        rw [hi] at h1
        simp only [hdi, Bool.not_true, Bool.false_or] at h1
        rcases Bool.or_eq_true _ _ ▸ h1 with h2 | h2
        · exact absurd (by simpa using h2) hic
        · obtain ⟨e, hem, he⟩ := List.any_eq_true.1 h2
          have he' : (Region.binds .any e = true ∧ dep e.on = true) ∧ e.on < i := by simpa using he
          have hlt2 : e.on < ops.toArray.size := Nat.lt_trans he'.2 hlt
          exact dep_done hdep hcl e.on e.on _ (Nat.le_refl _) (Array.getElem?_eq_getElem hlt2) he'.1.2 (hpre e (by simpa using hem) he'.1.1)
      refine wpOpIn_mono ?_ (hstep i o d hi hd hic M a' w' hF hIor (fun h => hB (hdl h)) hedge)
      rintro a'' w'' ⟨v, rfl, hv, hR', hsame⟩
      refine ⟨M, hfrm v, fun h => ?_, fun h => ?_, hnew M v w'' hv (fun j o' d' hji hlj ho' hd' => hψ M j _ _ _ (hL j o' d' hlj ho' hd') hR')⟩
      · simp only [hci, Bool.or_false] at h
        have hdf : dep i = false := by
          cases hdi : dep i with
          | false => rfl
          | true => rw [hdl hdi] at h; cases h
        rw [hsame hdf]
        exact hA h
      · simp only [hci, Bool.or_false] at h
        exact hI1 M _ _ (hB h) hR'
  · rintro L a' w' ⟨M, hF, hA, hB, hL⟩ hl
    refine hdone M a' w' hF (hB (hl c hc)) (fun j o' d' hj hd' => hL j o' d' (hl j ?_) hj hd')
    have := (Array.getElem?_eq_some_iff.1 hj).1
    simpa using this
end
end Go.Proofs.Ytelbgjnaceffeaa
