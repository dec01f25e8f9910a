/- What is known of the commands that have their waves, as mathematics: the last wave of each key and client, of what is lone, of all. -/
import Derived.Test.YtooaobadnainkaaKsSup
namespace Go.Proofs.Ytooaobadnainkaa

/-- One more than the last wave of those that name a key (of a client), none of them lone. -/
def keyT (acc : List (CM × Nat)) (k : ByteArray) : Nat := supW (fun a => !loneM a && namesB k a) acc
def clT (acc : List (CM × Nat)) (c : Nat) : Nat := supW (fun a => !loneM a && decide (a.cl = c)) acc
/-- One more than the last wave of a lone one; of all. -/
def leastW (acc : List (CM × Nat)) : Nat := supW loneM acc
def countW (acc : List (CM × Nat)) : Nat := supW (fun _ => true) acc
/-- Whether a key lies in a row. -/
def inK (ks : List ByteArray) (k : ByteArray) : Bool := ks.any fun j => decide (j = k)
theorem inK_iff {ks : List ByteArray} {k : ByteArray} : inK ks k = true ↔ k ∈ ks := by simp [inK]
theorem inK_snoc (a : List ByteArray) (j k : ByteArray) : inK (a ++ [j]) k = (inK a k || decide (j = k)) := by
  unfold inK
  rw [List.any_append]
  simp
theorem foldl_max {K : Type} (f : K → Nat) : ∀ (l : List K) (s : Nat), l.foldl (fun w k => max w (f k)) s = max s (l.foldl (fun w k => max w (f k)) 0)
  | [], s => by simp
  | k :: l, s => by
    simp only [List.foldl_cons]
    rw [foldl_max f l (max s (f k)), foldl_max f l (max 0 (f k))]
    omega
theorem names_touch (a : CM) (ks : List ByteArray) : ((touchK ks).any fun k => !loneM a && namesB k a) = (!loneM a && ks.any fun k => namesB k a) := by
  cases loneM a with
  | true => simp
  | false =>
    rw [Bool.eq_iff_iff]
    simp only [Bool.not_false, Bool.true_and, List.any_eq_true, touchK_mem]
/-- The wave of a command that is not lone, by what is known. -/
theorem nextW_many (acc : List (CM × Nat)) {m : CM} (h : loneM m = false) : nextW acc m = (touchK m.ks).foldl (fun w k => max w (keyT acc k)) (max (leastW acc) (clT acc m.cl)) := by
  rw [foldl_max, show (touchK m.ks).foldl (fun w k => max w (keyT acc k)) 0 = supW (fun a => (touchK m.ks).any fun k => !loneM a && namesB k a) acc from (supW_any (fun k a => !loneM a && namesB k a) acc (touchK m.ks)).symm]
  unfold leastW clT
  rw [← supW_or, ← supW_or, nextW_sup]
  refine supW_congr acc fun p _ => ?_
  rw [wayM_parts, h, names_touch]
  cases loneM p.1 <;> simp
theorem nextW_lone (acc : List (CM × Nat)) {m : CM} (h : loneM m = true) : nextW acc m = countW acc := by rw [nextW_parts, if_pos h]; rfl
section
variable {acc : List (CM × Nat)} {m : CM}
theorem least_lone (h : loneM m = true) : leastW (acc ++ [(m, nextW acc m)]) = countW acc + 1 := by
  unfold leastW
  rw [supW_set h (fun a _ => way_lone (.inl h)), nextW_lone acc h]
theorem count_any (x : Nat) : countW (acc ++ [(m, x)]) = max (countW acc) (x + 1) := by
  unfold countW
  rw [supW_snoc, if_pos rfl]
theorem count_lone (h : loneM m = true) : countW (acc ++ [(m, nextW acc m)]) = countW acc + 1 := by
  rw [count_any, nextW_lone acc h]
  omega
theorem keyT_lone (h : loneM m = true) (x : Nat) (k : ByteArray) : keyT (acc ++ [(m, x)]) k = keyT acc k := supW_keep (by simp [h])
theorem clT_lone (h : loneM m = true) (x : Nat) (c : Nat) : clT (acc ++ [(m, x)]) c = clT acc c := supW_keep (by simp [h])
theorem least_many (h : loneM m = false) (x : Nat) : leastW (acc ++ [(m, x)]) = leastW acc := supW_keep h
theorem names_mem {k : ByteArray} {m : CM} : namesB k m = true ↔ k ∈ touchK m.ks := by
  simp [namesB, touchK_mem]
theorem keyT_many (h : loneM m = false) (k : ByteArray) : keyT (acc ++ [(m, nextW acc m)]) k = if inK (touchK m.ks) k = true then nextW acc m + 1 else keyT acc k := by
  by_cases hk : inK (touchK m.ks) k = true
  · rw [if_pos hk]
    have hn := names_mem.2 (inK_iff.1 hk)
    exact supW_set (P := fun a => !loneM a && namesB k a) (by simp [h, hn]) (fun a ha => by
      simp only [Bool.and_eq_true] at ha
      exact way_names ha.2 hn)
  · rw [if_neg hk]
    have hn : namesB k m = false := by
      cases hh : namesB k m with
      | false => rfl
      | true => exact absurd (inK_iff.2 (names_mem.1 hh)) hk
    exact supW_keep (by simp [hn])
theorem clT_many (h : loneM m = false) (c : Nat) : clT (acc ++ [(m, nextW acc m)]) c = if c = m.cl then nextW acc m + 1 else clT acc c := by
  by_cases hc : c = m.cl
  · rw [if_pos hc]
    subst hc
    exact supW_set (P := fun a => !loneM a && decide (a.cl = m.cl)) (by simp [h]) (fun a ha => by
      simp only [Bool.and_eq_true, decide_eq_true_eq] at ha
      exact way_client ha.2)
  · rw [if_neg hc]
    exact supW_keep (by simp; intro _ e; exact hc e.symm)
end
theorem supW_le {P : CM → Bool} {n : Nat} : ∀ {acc : List (CM × Nat)}, (∀ p ∈ acc, p.2 + 1 ≤ n) → supW P acc ≤ n := by
  intro acc h
  unfold supW
  have key : ∀ (acc : List (CM × Nat)) (x : Nat), x ≤ n → (∀ p ∈ acc, p.2 + 1 ≤ n) → acc.foldl (fun w p => if P p.1 = true then max w (p.2 + 1) else w) x ≤ n := by
    intro acc
    induction acc with
    | nil => intro x hx _; exact hx
    | cons p acc ih =>
      intro x hx h
      simp only [List.foldl_cons]
      refine ih _ ?_ (fun q hq => h q (List.mem_cons_of_mem _ hq))
      have := h p (List.mem_cons_self ..)
      split <;> omega
  exact key acc 0 (Nat.zero_le _) h
theorem wavesM_snoc (l : List CM) (m : CM) : wavesM (l ++ [m]) = wavesM l ++ [(m, nextW (wavesM l) m)] := by
  unfold wavesM
  rw [List.foldl_append]
  rfl
theorem wavesM_le (l : List CM) : ∀ p ∈ wavesM l, p.2 + 1 ≤ l.length := by
  intro p hp
  obtain ⟨i, hi, rfl⟩ := List.mem_iff_getElem.1 hp
  have hi' : i < l.length := by rw [wavesM_len] at hi; exact hi
  have h1 := wavesM_at hi'
  rw [List.getElem?_eq_getElem hi] at h1
  have h2 : ((wavesM l)[i]).2 = waveI l i := by rw [waveI_at hi']; exact congrArg Prod.snd (Option.some.inj h1)
  rw [h2]
  have := waveI_le i hi'
  omega
theorem nextW_max (l : List CM) (m : CM) : nextW (wavesM l) m ≤ l.length := by rw [nextW_sup]; exact supW_le (wavesM_le l)
theorem keyT_le (l : List CM) (k : ByteArray) : keyT (wavesM l) k ≤ l.length := supW_le (wavesM_le l)
theorem clT_le (l : List CM) (c : Nat) : clT (wavesM l) c ≤ l.length := supW_le (wavesM_le l)
theorem leastW_le (l : List CM) : leastW (wavesM l) ≤ l.length := supW_le (wavesM_le l)
theorem countW_le (l : List CM) : countW (wavesM l) ≤ l.length := supW_le (wavesM_le l)
/-- The wave behind some of a command's keys. -/
def foldW (acc : List (CM × Nat)) (s : Nat) (ks : List ByteArray) : Nat := ks.foldl (fun w k => max w (keyT acc k)) s
theorem foldW_succ (acc : List (CM × Nat)) (s : Nat) {ks : List ByteArray} {j : Nat} (h : j < ks.length) : foldW acc s (ks.take (j + 1)) = max (foldW acc s (ks.take j)) (keyT acc ks[j]) := by
  unfold foldW
  rw [List.take_succ_eq_append_getElem h, List.foldl_append]
  rfl
theorem foldW_le (l : List CM) {s : Nat} (hs : s ≤ l.length) (ks : List ByteArray) : foldW (wavesM l) s ks ≤ l.length := by
  unfold foldW
  have key : ∀ (ks : List ByteArray) (s : Nat), s ≤ l.length → ks.foldl (fun w k => max w (keyT (wavesM l) k)) s ≤ l.length := by
    intro ks
    induction ks with
    | nil => intro s hs; exact hs
    | cons k ks ih =>
      intro s hs
      have := keyT_le l k
      exact ih (max s (keyT (wavesM l) k)) (by omega)
  exact key ks s hs
/-- What is known of keys behind stores of some. -/
def keyS (acc : List (CM × Nat)) (x : Nat) (ks : List ByteArray) (k : ByteArray) : Nat := if inK ks k = true then x + 1 else keyT acc k
theorem keyS_succ (acc : List (CM × Nat)) (x : Nat) {ks : List ByteArray} {j : Nat} (h : j < ks.length) (k : ByteArray) : keyS acc x (ks.take (j + 1)) k = if k = ks[j] then x + 1 else keyS acc x (ks.take j) k := by
  unfold keyS
  rw [List.take_succ_eq_append_getElem h, inK_snoc]
  by_cases hk : k = ks[j]
  · rw [if_pos hk, decide_eq_true hk.symm, Bool.or_true, if_pos rfl]
  · rw [if_neg hk, decide_eq_false (fun e => hk e.symm), Bool.or_false]
end Go.Proofs.Ytooaobadnainkaa
