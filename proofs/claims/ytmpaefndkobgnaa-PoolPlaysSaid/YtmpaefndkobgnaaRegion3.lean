/- A law of our own for a statement whose order is open and whose calls change what they are called on: by what has been carried out so far. -/
import Derived.Test.YtmpaefndkobgnaaRegion
namespace Go.Proofs.Ytmpaefndkobgnaa
open Go.RowKit

section
variable {F : Fence} {n : Nat} {P : Program} {Q : Exit → Act → World → Prop} {ops : List Oper}

/-- What has been carried out, and i. -/
def andI (L : Nat → Bool) (i : Nat) : Nat → Bool := fun j => L j || j == i
theorem andI_self (L : Nat → Bool) (i : Nat) : andI L i i = true := by simp [andI]
theorem andI_old {L : Nat → Bool} {i j : Nat} (h : L j = true) : andI L i j = true := by simp [andI, h]

theorem wpIn_region_st {id : Nat} {a : Act} {w : World} (N : Nat) (hN : a.tmps.size = N) (hm : P.follows .mixedOrders = true) (hb : backwards ops = true) (hs : slotsOk N ops = true)
    (WS : (Nat → Bool) → World → Prop) (Ψ : (Nat → Bool) → Nat → Value → World → Prop) (h0 : WS (fun _ => false) w.drew)
    (hstep : ∀ L i o d a' w', ops.toArray[i]? = some o → o.dst = some d → L i = false → (∀ j, hasEdge o j = true → L j = true) → (∀ j o', ops.toArray[j]? = some o' → L j = true → ∀ k, hasEdge o' k = true → L k = true) → Frm ops a a' → WS L w' →
      (∀ j o' d', L j = true → ops.toArray[j]? = some o' → o'.dst = some d' → Ψ L j (a'.tmps.getD d' undef) w') →
      wpOpIn F n P ops.toArray Q i (fun a'' w'' => ∃ v, a'' = a'.put (some d) v ∧ Ψ (andI L i) i v w'' ∧ WS (andI L i) w'' ∧ ∀ j u, L j = true → Ψ L j u w' → Ψ (andI L i) j u w'') a' w')
    (hdone : ∀ L a' w', (∀ j, j < ops.length → L j = true) → Frm ops a a' → WS L w' → (∀ j o' d', ops.toArray[j]? = some o' → o'.dst = some d' → Ψ L j (a'.tmps.getD d' undef) w') → Q .normal a' w') :
    (Code.region id ops.toArray true).wpIn F n P Q a w := by
  have hall : ∀ (i : Nat) (o : Oper), ops.toArray[i]? = some o → ∃ d, o.dst = some d ∧ d < N := by
    intro i o ho
    have h1 := (Bool.and_eq_true _ _ ▸ hs).1
    rw [List.all_eq_true] at h1
    have hmem : o ∈ ops := by simpa using List.mem_of_getElem? (by simpa using ho)
    have := h1 o hmem
    cases hd : o.dst with
    | none => rw [hd] at this; cases this
    | some d => rw [hd] at this; exact ⟨d, rfl, by simpa using this⟩
  have hinj : ∀ (i j : Nat) (o o' : Oper) (d : Nat), ops.toArray[i]? = some o → ops.toArray[j]? = some o' → o.dst = some d → o'.dst = some d → i = j := by
    intro i j o o' d hi hj hd hd'
    have h1 := (Bool.and_eq_true _ _ ▸ hs).2
    have hnd : (ops.map (·.dst)).Nodup := by simpa using h1
    have hi' : (ops.map (·.dst))[i]? = some (some d) := by simp at hi; simp [hi, hd]
    have hj' : (ops.map (·.dst))[j]? = some (some d) := by simp at hj; simp [hj, hd']
    have hlt : i < (ops.map (·.dst)).length := by
      rcases Nat.lt_or_ge i (ops.map (·.dst)).length with h | h
      · exact h
      · rw [List.getElem?_eq_none h] at hi'; cases hi'
    exact (List.getElem?_inj hlt hnd).1 (hi'.trans hj'.symm)
  have hedge : ∀ (o : Oper) (j : Nat), hasEdge o j = true → ∃ e ∈ o.after, e.on = j ∧ Region.binds .any e = true := by
    intro o j h
    unfold hasEdge at h
    rw [List.any_eq_true] at h
    obtain ⟨e, hem, he⟩ := h
    exact ⟨e, by simpa using hem, by simpa using he⟩
  refine wpIn_region_by hm hb (fun L a' w' => Frm ops a a' ∧ WS L w' ∧ ∀ j o' d', L j = true → ops.toArray[j]? = some o' → o'.dst = some d' → Ψ L j (a'.tmps.getD d' undef) w')
    ⟨⟨rfl, rfl, fun _ _ => rfl⟩, h0, fun _ _ _ h => by cases h⟩ ?_ ?_
  · rintro L a' w' i o ⟨hF, hW, hL⟩ hi hli hpre hcl
    obtain ⟨d, hd, hdN⟩ := hall i o hi
    refine wpOpIn_mono ?_ (hstep L i o d a' w' hi hd hli (fun j he => ?_) (fun j o' hj hlj k he => ?_) hF hW hL)
    · rintro a'' w'' ⟨v, rfl, hv, hW', hkeep⟩
      refine ⟨⟨size_put.trans hF.size, defers_put.trans hF.defers, fun s hs' => ?_⟩, hW', fun j o' d' hj ho' hd' => ?_⟩
      · have hmem : o ∈ ops := by simpa using List.mem_of_getElem? (by simpa using hi)
        rw [getD_put_ne (fun e => hs' o hmem (by rw [hd, e]))]
        exact hF.old s hs'
      · by_cases hji : j = i
        · subst hji
          rw [hi] at ho'; cases ho'
          rw [hd] at hd'; cases hd'
          rw [getD_put_same (by rw [hF.size, hN]; exact hdN)]
          exact hv
        · have hne : d' ≠ d := fun e => hji (by subst e; exact hinj j i o' o d' ho' hi hd' hd)
          rw [getD_put_ne hne]
          have hlj : L j = true := by simpa [hji] using hj
          exact hkeep j _ hlj (hL j o' d' hlj ho' hd')
    · obtain ⟨e, hem, he, hbd⟩ := hedge o j he
      rw [← he]; exact hpre e hem hbd
    · obtain ⟨e, hem, he', hbd⟩ := hedge o' k he
      rw [← he']; exact hcl j o' e hj hlj hem hbd
  · rintro L a' w' ⟨hF, hW, hL⟩ hl
    refine hdone L a' w' hl hF hW (fun j o' d' hj hd' => hL j o' d' (hl j ?_) hj hd')
    have := (Array.getElem?_eq_some_iff.1 hj).1
    simpa using this
end
end Go.Proofs.Ytmpaefndkobgnaa
