/- A law of our own for a statement whose order is open and that ends in a store (or another operation that fills no slot): by what each slot holds, then the last operation. -/
import Derived.Test.YtooaobadnainkaaMBaseO
namespace Go.Proofs.Ytooaobadnainkaa
open Go.RowKit

section
variable {F : Fence} {n : Nat} {P : Program} {Q : Exit → Act → World → Prop} {ops : List Oper}

theorem wpIn_region_store {id : Nat} {a : Act} {w : World} {last : Oper} (N : Nat) (hN : a.tmps.size = N) (hm : P.follows .mixedOrders = true) (hb : backwards (ops ++ [last]) = true) (hs : slotsOk N ops = true)
    (hall : ((List.range ops.length).all (hasEdge last)) = true)
    (Rl : World → World → Prop) (hr : ∀ w, Rl w w) (ht : ∀ {x y z}, Rl x y → Rl y z → Rl x z)
    (ψ : Nat → Value → World → Prop) (hψ : ∀ i v w w', ψ i v w → Rl w w' → ψ i v w')
    (hstep : ∀ i o d, ops.toArray[i]? = some o → o.dst = some d → ∀ a' w', Frm ops a a' → Rl w.drew w' →
      (∀ j o' d', hasEdge o j = true → ops.toArray[j]? = some o' → o'.dst = some d' → ψ j (a'.tmps.getD d' undef) w') →
      wpOpIn F n P (ops ++ [last]).toArray Q i (fun a'' w'' => ∃ v, a'' = a'.put (some d) v ∧ ψ i v w'' ∧ Rl w' w'') a' w')
    (hlast : ∀ a' w', Frm ops a a' → Rl w.drew w' → (∀ j o' d', ops.toArray[j]? = some o' → o'.dst = some d' → ψ j (a'.tmps.getD d' undef) w') →
      wpOpIn F n P (ops ++ [last]).toArray Q ops.length (fun a'' w'' => Q .normal a'' w'') a' w') :
    (Code.region id (ops ++ [last]).toArray true).wpIn F n P Q a w := by
  have hold : ∀ (i : Nat) (o : Oper), i < ops.length → (ops ++ [last]).toArray[i]? = some o → ops.toArray[i]? = some o := by
    intro i o hi ho
    simp only [List.getElem?_toArray] at ho ⊢
    rwa [List.getElem?_append_left hi] at ho
  have hnew : ∀ (i : Nat) (o : Oper), ops.toArray[i]? = some o → i < ops.length := by
    intro i o ho
    have := (Array.getElem?_eq_some_iff.1 ho).1
    simpa using this
  have hlst : (ops ++ [last]).toArray[ops.length]? = some last := by simp
  have hdst : ∀ (i : Nat) (o : Oper), ops.toArray[i]? = some o → ∃ d, o.dst = some d ∧ d < N := by
    intro i o ho
    have h1 := (Bool.and_eq_true _ _ ▸ hs).1
    rw [List.all_eq_true] at h1
    have hmem : o ∈ ops := by simpa using List.mem_of_getElem? (by simpa using ho)
    have := h1 o hmem
    cases hd : o.dst with
    | none => rw [hd] at this; cases this
    | some d => rw [hd] at this; exact ⟨d, rfl, by simpa using this⟩
  have hinj : ∀ (i j : Nat) (o o' : Oper) (d : Nat), ops.toArray[i]? = some o → ops.toArray[j]? = some o' → o.dst = some d → o'.dst = some d → i = j := by
    intro i j o o' d hi hj hd hd'
    have h1 := (Bool.and_eq_true _ _ ▸ hs).2
    have hnd : (ops.map (·.dst)).Nodup := by simpa using h1
    have hi' : (ops.map (·.dst))[i]? = some (some d) := by simp at hi; simp [hi, hd]
    have hj' : (ops.map (·.dst))[j]? = some (some d) := by simp at hj; simp [hj, hd']
    have hlt : i < (ops.map (·.dst)).length := by
      rcases Nat.lt_or_ge i (ops.map (·.dst)).length with h | h
      · exact h
      · rw [List.getElem?_eq_none h] at hi'; cases hi'
    exact (List.getElem?_inj hlt hnd).1 (hi'.trans hj'.symm)
  have hedge : ∀ j, j < ops.length → ∃ e ∈ last.after, e.on = j ∧ Region.binds .any e = true := by
    intro j hj
    rw [List.all_eq_true] at hall
    have := hall j (List.mem_range.2 hj)
    unfold hasEdge at this
    rw [List.any_eq_true] at this
    obtain ⟨e, hem, he⟩ := this
    exact ⟨e, by simpa using hem, by simpa using he⟩
  refine wpIn_region_by hm hb (fun L a' w' => (L ops.length = false ∧ Frm ops a a' ∧ Rl w.drew w' ∧ ∀ j o' d', L j = true → ops.toArray[j]? = some o' → o'.dst = some d' → ψ j (a'.tmps.getD d' undef) w') ∨ (L ops.length = true ∧ Q .normal a' w'))
    (.inl ⟨rfl, ⟨rfl, rfl, fun _ _ => rfl⟩, hr _, fun _ _ _ h => absurd h (by simp)⟩) ?_ ?_
  · rintro L a' w' i o (⟨hLn, hF, hR, hL⟩ | ⟨hLn, _⟩) hi hli hpre hcl
    · rcases Nat.lt_or_ge i ops.length with hin | hin
      · have hi' := hold i o hin hi
        obtain ⟨d, hd, hdN⟩ := hdst i o hi'
        refine wpOpIn_mono ?_ (hstep i o d hi' hd a' w' hF hR (fun j o' d' he hj hd' => hL j o' d' ?_ hj hd'))
        · rintro a'' w'' ⟨v, rfl, hv, hR'⟩
          refine .inl ⟨by have : ¬ (ops.length = i) := by omega
                          simp [hLn, this], ⟨size_put.trans hF.size, defers_put.trans hF.defers, fun s hs' => ?_⟩, ht hR hR', fun j o' d' hj ho' hd' => ?_⟩
          · have hmem : o ∈ ops := by simpa using List.mem_of_getElem? (by simpa using hi')
            rw [getD_put_ne (fun e => hs' o hmem (by rw [hd, e]))]
            exact hF.old s hs'
          · by_cases hji : j = i
            · subst hji
              rw [hi'] at ho'; cases ho'
              rw [hd] at hd'; cases hd'
              rw [getD_put_same (by rw [hF.size, hN]; exact hdN)]
              exact hv
            · have hne : d' ≠ d := fun e => hji (by subst e; exact hinj j i o' o d' ho' hi' hd' hd)
              rw [getD_put_ne hne]
              have hlj : L j = true := by simpa [hji] using hj
              exact hψ j _ _ _ (hL j o' d' hlj ho' hd') hR'
        · unfold hasEdge at he
          rw [List.any_eq_true] at he
          obtain ⟨e, hem, he'⟩ := he
          have h1 : e.on = j ∧ Region.binds .any e = true := by simpa using he'
          rw [← h1.1]
          exact hpre e (by simpa using hem) h1.2
      · have hieq : i = ops.length := by
          have := (Array.getElem?_eq_some_iff.1 hi).1
          simp at this
          omega
        subst hieq
        rw [hlst] at hi; cases hi
        refine wpOpIn_mono ?_ (hlast a' w' hF hR (fun j o' d' hj hd' => hL j o' d' ?_ hj hd'))
        · intro a'' w'' h
          exact .inr ⟨by simp, h⟩
        · obtain ⟨e, hem, he, hbd⟩ := hedge j (hnew j o' hj)
          rw [← he]; exact hpre e hem hbd
    · rcases Nat.lt_or_ge i ops.length with hin | hin
      · obtain ⟨e, hem, he, hbd⟩ := hedge i hin
        have := hcl ops.length last e hlst hLn hem hbd
        rw [he, hli] at this; cases this
      · have hieq : i = ops.length := by
          have := (Array.getElem?_eq_some_iff.1 hi).1
          simp at this
          omega
        rw [hieq, hLn] at hli; cases hli
  · rintro L a' w' (⟨hLn, _⟩ | ⟨_, h⟩) hl
    · have := hl ops.length (by simp)
      rw [hLn] at this; cases this
    · exact h
end
end Go.Proofs.Ytooaobadnainkaa
