/- A law of our own for a statement whose order is open, whose calls change what they are called on, and that ends in a store. -/
import Derived.Test.YtmpaefndkobgnaaRegion3
namespace Go.Proofs.Ytmpaefndkobgnaa
open Go.RowKit

section
variable {F : Fence} {n : Nat} {P : Program} {Q : Exit → Act → World → Prop} {ops : List Oper}
/-- The last operation waits for all others: by an edge, or by one that it waits for. -/
def behindAll (ops : List Oper) (last : Oper) : Bool := (List.range ops.length).all fun j => hasEdge last j || (List.range ops.length).any fun k => hasEdge last k && (match ops[k]? with | some o => hasEdge o j | none => false)
/-- A statement whose order is open, whose operations may change what they read, and that ends in a store behind all of them. -/
theorem wpIn_region_ste {id : Nat} {a : Act} {w : World} {last : Oper} (N : Nat) (hN : a.tmps.size = N) (hm : P.follows .mixedOrders = true) (hb : backwards (ops ++ [last]) = true) (hs : slotsOk N ops = true) (hall : behindAll ops last = true)
    (WS : (Nat → Bool) → World → Prop) (Ψ : (Nat → Bool) → Nat → Value → World → Prop) (h0 : WS (fun _ => false) w.drew)
    (hstep : ∀ L i o d a' w', ops.toArray[i]? = some o → o.dst = some d → L i = false → (∀ j, hasEdge o j = true → L j = true) → (∀ j o', ops.toArray[j]? = some o' → L j = true → ∀ k, hasEdge o' k = true → L k = true) → Frm ops a a' → WS L w' →
      (∀ j o' d', L j = true → ops.toArray[j]? = some o' → o'.dst = some d' → Ψ L j (a'.tmps.getD d' undef) w') →
      wpOpIn F n P (ops ++ [last]).toArray Q i (fun a'' w'' => ∃ v, a'' = a'.put (some d) v ∧ Ψ (andI L i) i v w'' ∧ WS (andI L i) w'' ∧ ∀ j u, L j = true → Ψ L j u w' → Ψ (andI L i) j u w'') a' w')
    (hlast : ∀ L a' w', (∀ j, j < ops.length → L j = true) → Frm ops a a' → WS L w' → (∀ j o' d', ops.toArray[j]? = some o' → o'.dst = some d' → Ψ L j (a'.tmps.getD d' undef) w') →
      wpOpIn F n P (ops ++ [last]).toArray Q ops.length (fun a'' w'' => Q .normal a'' w'') a' w') :
    (Code.region id (ops ++ [last]).toArray true).wpIn F n P Q a w := by
  have hold : ∀ (i : Nat) (o : Oper), i < ops.length → (ops ++ [last]).toArray[i]? = some o → ops.toArray[i]? = some o := by
    intro i o hi ho
    simp only [List.getElem?_toArray] at ho ⊢
    rwa [List.getElem?_append_left hi] at ho
  have hup : ∀ (i : Nat) (o : Oper), ops.toArray[i]? = some o → (ops ++ [last]).toArray[i]? = some o := by
    intro i o ho
    have hi : i < ops.length := by have := (Array.getElem?_eq_some_iff.1 ho).1; simpa using this
    simp only [List.getElem?_toArray] at ho ⊢
    rwa [List.getElem?_append_left hi]
  have hnew : ∀ (i : Nat) (o : Oper), ops.toArray[i]? = some o → i < ops.length := by
    intro i o ho
    have := (Array.getElem?_eq_some_iff.1 ho).1
    simpa using this
  have hlst : (ops ++ [last]).toArray[ops.length]? = some last := by simp
  have hdst : ∀ (i : Nat) (o : Oper), ops.toArray[i]? = some o → ∃ d, o.dst = some d ∧ d < N := by
    intro i o ho
    have h1 := (Bool.and_eq_true _ _ ▸ hs).1
    rw [List.all_eq_true] at h1
    have hmem : o ∈ ops := by simpa using List.mem_of_getElem? (by simpa using ho)
    have := h1 o hmem
    cases hd : o.dst with
    | none => rw [hd] at this; cases this
    | some d => rw [hd] at this; exact ⟨d, rfl, by simpa using this⟩
  have hinj : ∀ (i j : Nat) (o o' : Oper) (d : Nat), ops.toArray[i]? = some o → ops.toArray[j]? = some o' → o.dst = some d → o'.dst = some d → i = j := by
    intro i j o o' d hi hj hd hd'
    have h1 := (Bool.and_eq_true _ _ ▸ hs).2
    have hnd : (ops.map (·.dst)).Nodup := by simpa using h1
    have hi' : (ops.map (·.dst))[i]? = some (some d) := by simp at hi; simp [hi, hd]
    have hj' : (ops.map (·.dst))[j]? = some (some d) := by simp at hj; simp [hj, hd']
    have hlt : i < (ops.map (·.dst)).length := by
      rcases Nat.lt_or_ge i (ops.map (·.dst)).length with h | h
      · exact h
      · rw [List.getElem?_eq_none h] at hi'; cases hi'
    exact (List.getElem?_inj hlt hnd).1 (hi'.trans hj'.symm)
  have hedge : ∀ (o : Oper) (j : Nat), hasEdge o j = true → ∃ e ∈ o.after, e.on = j ∧ Region.binds .any e = true := by
    intro o j h
    unfold hasEdge at h
    rw [List.any_eq_true] at h
    obtain ⟨e, hem, he⟩ := h
    exact ⟨e, by simpa using hem, by simpa using he⟩
  have hle : ∀ L : Nat → Bool, (∀ j o' e, (ops ++ [last]).toArray[j]? = some o' → L j = true → e ∈ o'.after → Region.binds .any e = true → L e.on = true) → (∀ e ∈ last.after, Region.binds .any e = true → L e.on = true) → ∀ j, j < ops.length → L j = true := by
    intro L hcl hpre j hj
    unfold behindAll at hall
    rw [List.all_eq_true] at hall
    have hj' := hall j (List.mem_range.2 hj)
    rcases Bool.or_eq_true _ _ ▸ hj' with h | h
    · obtain ⟨e, hem, he, hbd⟩ := hedge last j h
      rw [← he]; exact hpre e hem hbd
    · rw [List.any_eq_true] at h
      obtain ⟨k, hk, h⟩ := h
      have h2 := Bool.and_eq_true _ _ ▸ h
      obtain ⟨e, hem, he, hbd⟩ := hedge last k h2.1
      have hlk : L k = true := by rw [← he]; exact hpre e hem hbd
      cases hok : ops[k]? with
      | none => rw [hok] at h2; cases h2.2
      | some o =>
        rw [hok] at h2
        obtain ⟨e2, hem2, he2, hbd2⟩ := hedge o j h2.2
        rw [← he2]; exact hcl k o e2 (hup k o (by simpa using hok)) hlk hem2 hbd2
  refine wpIn_region_by hm hb (fun L a' w' => (L ops.length = false ∧ Frm ops a a' ∧ WS L w' ∧ ∀ j o' d', L j = true → ops.toArray[j]? = some o' → o'.dst = some d' → Ψ L j (a'.tmps.getD d' undef) w') ∨ (L ops.length = true ∧ Q .normal a' w'))
    (.inl ⟨rfl, ⟨rfl, rfl, fun _ _ => rfl⟩, h0, fun _ _ _ h => by cases h⟩) ?_ ?_
  · rintro L a' w' i o (⟨hLn, hF, hW, hL⟩ | ⟨hLn, _⟩) hi hli hpre hcl
    · rcases Nat.lt_or_ge i ops.length with hin | hin
      · have hi' := hold i o hin hi
        obtain ⟨d, hd, hdN⟩ := hdst i o hi'
        refine wpOpIn_mono ?_ (hstep L i o d a' w' hi' hd hli (fun j he => ?_) (fun j o' hj hlj k he => ?_) hF hW hL)
        · rintro a'' w'' ⟨v, rfl, hv, hW', hkeep⟩
          refine .inl ⟨by have : ¬ (ops.length = i) := by omega
                          simp [hLn, this], ⟨size_put.trans hF.size, defers_put.trans hF.defers, fun s hs' => ?_⟩, hW', fun j o' d' hj ho' hd' => ?_⟩
          · have hmem : o ∈ ops := by simpa using List.mem_of_getElem? (by simpa using hi')
            rw [getD_put_ne (fun e => hs' o hmem (by rw [hd, e]))]
            exact hF.old s hs'
          · by_cases hji : j = i
            · subst hji
              rw [hi'] at ho'; cases ho'
              rw [hd] at hd'; cases hd'
              rw [getD_put_same (by rw [hF.size, hN]; exact hdN)]
              exact hv
            · have hne : d' ≠ d := fun e => hji (by subst e; exact hinj j i o' o d' ho' hi' hd' hd)
              rw [getD_put_ne hne]
              have hlj : L j = true := by simpa [hji] using hj
              exact hkeep j _ hlj (hL j o' d' hlj ho' hd')
        · obtain ⟨e, hem, he, hbd⟩ := hedge o j he
          rw [← he]; exact hpre e hem hbd
        · obtain ⟨e, hem, he', hbd⟩ := hedge o' k he
          rw [← he']; exact hcl j o' e (hup j o' hj) hlj hem hbd
      · have hieq : i = ops.length := by
          have := (Array.getElem?_eq_some_iff.1 hi).1
          simp at this
          omega
        subst hieq
        rw [hlst] at hi; cases hi
        have hfull : ∀ j, j < ops.length → L j = true := hle L (fun j o' e hj hl hem hbd => hcl j o' e hj hl hem hbd) hpre
        refine wpOpIn_mono ?_ (hlast L a' w' hfull hF hW (fun j o' d' hj hd' => hL j o' d' (hfull j (hnew j o' hj)) hj hd'))
        intro a'' w'' h
        exact .inr ⟨by simp, h⟩
    · rcases Nat.lt_or_ge i ops.length with hin | hin
      · have := hle L (fun j o' e hj hl hem hbd => hcl j o' e hj hl hem hbd) (fun e hem hbd => hcl ops.length last e hlst hLn hem hbd) i hin
        rw [hli] at this; cases this
      · have hieq : i = ops.length := by
          have := (Array.getElem?_eq_some_iff.1 hi).1
          simp at this
          omega
        rw [hieq, hLn] at hli; cases hli
  · rintro L a' w' (⟨hLn, _⟩ | ⟨_, h⟩) hl
    · have := hl ops.length (by simp)
      rw [hLn] at this; cases this
    · exact h
end
end Go.Proofs.Ytmpaefndkobgnaa
