/- The wave of a command by parts: the last wave of each key, of each client, of what is lone, of all. -/
import Derived.Test.YtooaobadnainkaaKsGm
namespace Go.Proofs.Ytooaobadnainkaa

/-- One more than the greatest wave of those that are such; 0 if there is none. -/
def supW (P : CM → Bool) (acc : List (CM × Nat)) : Nat := acc.foldl (fun w p => if P p.1 = true then max w (p.2 + 1) else w) 0
theorem nextW_sup (acc : List (CM × Nat)) (m : CM) : nextW acc m = supW (fun a => wayM a m) acc := rfl
theorem supW_nil (P : CM → Bool) : supW P [] = 0 := rfl
theorem supW_snoc (P : CM → Bool) (acc : List (CM × Nat)) (p : CM × Nat) : supW P (acc ++ [p]) = if P p.1 = true then max (supW P acc) (p.2 + 1) else supW P acc := by
  unfold supW
  rw [List.foldl_append]
  rfl
theorem supW_or (P Q : CM → Bool) (acc : List (CM × Nat)) : supW (fun a => P a || Q a) acc = max (supW P acc) (supW Q acc) := by
  have key : ∀ (acc : List (CM × Nat)) (x y : Nat), acc.foldl (fun w p => if (P p.1 || Q p.1) = true then max w (p.2 + 1) else w) (max x y) = max (acc.foldl (fun w p => if P p.1 = true then max w (p.2 + 1) else w) x) (acc.foldl (fun w p => if Q p.1 = true then max w (p.2 + 1) else w) y) := by
    intro acc
    induction acc with
    | nil => intro x y; rfl
    | cons p acc ih =>
      intro x y
      simp only [List.foldl_cons]
      rw [← ih]
      congr 1
      cases hP : P p.1 <;> cases hQ : Q p.1 <;> simp <;> omega
  have := key acc 0 0
  simpa [supW] using this
theorem supW_congr {P Q : CM → Bool} (acc : List (CM × Nat)) (h : ∀ p ∈ acc, P p.1 = Q p.1) : supW P acc = supW Q acc := by
  unfold supW
  have key : ∀ (acc : List (CM × Nat)) (x : Nat), (∀ p ∈ acc, P p.1 = Q p.1) → acc.foldl (fun w p => if P p.1 = true then max w (p.2 + 1) else w) x = acc.foldl (fun w p => if Q p.1 = true then max w (p.2 + 1) else w) x := by
    intro acc
    induction acc with
    | nil => intro x _; rfl
    | cons p acc ih =>
      intro x h
      simp only [List.foldl_cons]
      rw [h p (List.mem_cons_self ..), ih _ (fun q hq => h q (List.mem_cons_of_mem _ hq))]
  exact key acc 0 h
theorem supW_none (acc : List (CM × Nat)) : supW (fun _ => false) acc = 0 := by
  unfold supW
  induction acc with
  | nil => rfl
  | cons p acc ih => simpa using ih
theorem supW_mono {P Q : CM → Bool} (acc : List (CM × Nat)) (h : ∀ a, P a = true → Q a = true) : supW P acc ≤ supW Q acc := by
  have e : supW Q acc = max (supW P acc) (supW Q acc) := by
    rw [← supW_or]
    refine supW_congr acc fun p _ => ?_
    cases hP : P p.1 with
    | false => rfl
    | true => simp [h p.1 hP]
  omega
theorem supW_any {K : Type} (P : K → CM → Bool) (acc : List (CM × Nat)) (ks : List K) : supW (fun a => ks.any fun k => P k a) acc = ks.foldl (fun w k => max w (supW (P k) acc)) 0 := by
  have key : ∀ (ks : List K) (Q : CM → Bool), ks.foldl (fun w k => max w (supW (P k) acc)) (supW Q acc) = supW (fun a => Q a || ks.any fun k => P k a) acc := by
    intro ks
    induction ks with
    | nil => intro Q; simp
    | cons k ks ih =>
      intro Q
      simp only [List.foldl_cons, List.any_cons]
      rw [← supW_or, ih]
      exact supW_congr acc fun p _ => by rw [Bool.or_assoc]
  have := key ks (fun _ => false)
  rw [supW_none] at this
  rw [this]
  exact supW_congr acc fun p _ => by simp
/-- Whether a command names a key. -/
def namesB (k : ByteArray) (a : CM) : Bool := a.ks.any fun j => decide (j = k)
theorem wayM_parts (a m : CM) : wayM a m = (loneM m || (loneM a || (decide (a.cl = m.cl) || m.ks.any fun k => namesB k a))) := by
  unfold wayM
  have e : (a.ks.any fun k => m.ks.any fun j => decide (k = j)) = (m.ks.any fun k => namesB k a) := by
    rw [Bool.eq_iff_iff]
    simp only [namesB, List.any_eq_true, decide_eq_true_eq]
    constructor
    · rintro ⟨x, hx, y, hy, e⟩; exact ⟨y, hy, x, hx, e⟩
    · rintro ⟨x, hx, y, hy, e⟩; exact ⟨y, hy, x, hx, e⟩
  rw [e, Bool.or_comm (loneM a) (loneM m), Bool.or_assoc, Bool.or_assoc]
/-- The wave of a command by parts. -/
theorem nextW_parts (acc : List (CM × Nat)) (m : CM) : nextW acc m = if loneM m = true then supW (fun _ => true) acc else max (supW loneM acc) (max (supW (fun a => decide (a.cl = m.cl)) acc) (m.ks.foldl (fun w k => max w (supW (namesB k) acc)) 0)) := by
  rw [nextW_sup, show (fun a => wayM a m) = fun a => (loneM m || (loneM a || (decide (a.cl = m.cl) || m.ks.any fun k => namesB k a))) from funext fun a => wayM_parts a m]
  cases hl : loneM m with
  | true => rw [if_pos rfl]; exact supW_congr acc fun p _ => by simp
  | false =>
    rw [if_neg (by simp), ← supW_any, ← supW_or, ← supW_or]
    exact supW_congr acc fun p _ => by simp
/-- Behind a command that is in the way of all that are such: its own wave is the last one. -/
theorem supW_set {P : CM → Bool} {acc : List (CM × Nat)} {m : CM} (hm : P m = true) (h : ∀ a, P a = true → wayM a m = true) : supW P (acc ++ [(m, nextW acc m)]) = nextW acc m + 1 := by
  rw [supW_snoc, if_pos hm, nextW_sup]
  have := supW_mono (P := P) (Q := fun a => wayM a m) acc h
  omega
theorem supW_keep {P : CM → Bool} {acc : List (CM × Nat)} {m : CM} {w : Nat} (hm : P m = false) : supW P (acc ++ [(m, w)]) = supW P acc := by
  rw [supW_snoc, if_neg (by rw [hm]; exact Bool.false_ne_true)]
theorem way_names {k : ByteArray} {a m : CM} (ha : namesB k a = true) (hm : namesB k m = true) : wayM a m = true := by
  rw [wayM_parts]
  have : (m.ks.any fun k => namesB k a) = true := by
    simp only [namesB, List.any_eq_true, decide_eq_true_eq] at ha hm ⊢
    obtain ⟨x, hx, rfl⟩ := ha
    obtain ⟨y, hy, e⟩ := hm
    exact ⟨y, hy, x, hx, e.symm⟩
  rw [this]; simp
theorem way_client {a m : CM} (h : a.cl = m.cl) : wayM a m = true := by rw [wayM_parts]; simp [h]
theorem way_lone {a m : CM} (h : loneM m = true ∨ loneM a = true) : wayM a m = true := by rw [wayM_parts]; rcases h with h | h <;> simp [h]
end Go.Proofs.Ytooaobadnainkaa
