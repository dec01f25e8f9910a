/- Plain mathematics of waves: which commands are in each other's way, the waves of a batch, that each wave up to the last has a command. -/
import Derived.Test.YtooaobadnainkaaMKvD
namespace Go.Proofs.Ytooaobadnainkaa

/-- A command that touches more than four keys. -/
def loneM (m : CM) : Bool := decide (4 < (touchK m.ks).length)
/-- Two commands that are in each other's way. -/
def wayM (a b : CM) : Bool := loneM a || loneM b || decide (a.cl = b.cl) || a.ks.any fun k => b.ks.any fun j => decide (k = j)
/-- The wave of a command behind others, whose waves are known. -/
def nextW (acc : List (CM × Nat)) (m : CM) : Nat := acc.foldl (fun w p => if wayM p.1 m = true then max w (p.2 + 1) else w) 0
/-- A batch's commands with their waves. -/
def wavesM (l : List CM) : List (CM × Nat) := l.foldl (fun acc m => acc ++ [(m, nextW acc m)]) []
theorem fold_ge (m : CM) : ∀ (acc : List (CM × Nat)) (w : Nat), w ≤ acc.foldl (fun w p => if wayM p.1 m = true then max w (p.2 + 1) else w) w
  | [], w => Nat.le_refl _
  | p :: acc, w => by
    simp only [List.foldl_cons]
    refine Nat.le_trans ?_ (fold_ge m acc _)
    split <;> omega
theorem fold_mem (m : CM) : ∀ (acc : List (CM × Nat)) (w : Nat) (p : CM × Nat), p ∈ acc → wayM p.1 m = true → p.2 + 1 ≤ acc.foldl (fun w p => if wayM p.1 m = true then max w (p.2 + 1) else w) w
  | [], _, _, h, _ => by cases h
  | q :: acc, w, p, h, hw => by
    simp only [List.foldl_cons]
    rcases List.mem_cons.1 h with rfl | h
    · refine Nat.le_trans ?_ (fold_ge m acc _)
      rw [if_pos hw]
      omega
    · exact fold_mem m acc _ p h hw
theorem fold_is (m : CM) : ∀ (acc : List (CM × Nat)) (w : Nat), acc.foldl (fun w p => if wayM p.1 m = true then max w (p.2 + 1) else w) w = w ∨ ∃ p ∈ acc, wayM p.1 m = true ∧ acc.foldl (fun w p => if wayM p.1 m = true then max w (p.2 + 1) else w) w = p.2 + 1
  | [], w => .inl rfl
  | q :: acc, w => by
    simp only [List.foldl_cons]
    rcases fold_is m acc (if wayM q.1 m = true then max w (q.2 + 1) else w) with h | ⟨p, hp, h1, h2⟩
    · rw [h]
      by_cases hq : wayM q.1 m = true
      · rw [if_pos hq]
        by_cases hm : q.2 + 1 ≤ w
        · exact .inl (by omega)
        · exact .inr ⟨q, List.mem_cons_self .., hq, by omega⟩
      · rw [if_neg hq]
        exact .inl rfl
    · exact .inr ⟨p, List.mem_cons_of_mem _ hp, h1, h2⟩
theorem wavesM_succ {l : List CM} {j : Nat} (h : j < l.length) : wavesM (l.take (j + 1)) = wavesM (l.take j) ++ [(l[j], nextW (wavesM (l.take j)) l[j])] := by
  unfold wavesM
  rw [List.take_succ_eq_append_getElem h, List.foldl_append]
  rfl
theorem wavesM_map : ∀ (n : Nat) (l : List CM), n ≤ l.length → (wavesM (l.take n)).map (·.1) = l.take n
  | 0, l, _ => by simp [wavesM]
  | n + 1, l, h => by
    rw [wavesM_succ (by omega), List.map_append, wavesM_map n l (by omega), List.take_succ_eq_append_getElem (by omega)]
    rfl
theorem wavesM_len (l : List CM) : (wavesM l).length = l.length := by
  have := congrArg List.length (wavesM_map l.length l (Nat.le_refl _))
  simpa using this
/-- The wave of the command in a place. -/
def waveI (l : List CM) (i : Nat) : Nat := ((wavesM l)[i]?.map (·.2)).getD 0
theorem wavesM_prefix (l : List CM) : ∀ (n : Nat), n ≤ l.length → wavesM l = wavesM (l.take n) ++ (wavesM l).drop n := by
  intro n hn
  have key : ∀ d, n + d ≤ l.length → ∃ r, wavesM (l.take (n + d)) = wavesM (l.take n) ++ r := by
    intro d
    induction d with
    | zero => intro _; exact ⟨[], by simp⟩
    | succ d ih =>
      intro hd
      obtain ⟨r, hr⟩ := ih (by omega)
      refine ⟨r ++ [(l[n + d]'(by omega), nextW (wavesM (l.take (n + d))) (l[n + d]'(by omega)))], ?_⟩
      rw [show n + (d + 1) = n + d + 1 from rfl, wavesM_succ (by omega), hr, List.append_assoc]
  obtain ⟨r, hr⟩ := key (l.length - n) (by omega)
  rw [show n + (l.length - n) = l.length by omega, List.take_length] at hr
  have hlen : (wavesM (l.take n)).length = n := by rw [wavesM_len]; simp; omega
  rw [hr, List.drop_left' hlen]
theorem wavesM_at {l : List CM} {i : Nat} (h : i < l.length) : (wavesM l)[i]? = some (l[i], nextW (wavesM (l.take i)) l[i]) := by
  rw [wavesM_prefix l (i + 1) (by omega), List.getElem?_append_left (by rw [wavesM_len]; simp; omega), wavesM_succ h]
  have hlen : (wavesM (l.take i)).length = i := by rw [wavesM_len]; simp; omega
  rw [List.getElem?_append_right (by omega), hlen]
  simp
theorem waveI_at {l : List CM} {i : Nat} (h : i < l.length) : waveI l i = nextW (wavesM (l.take i)) l[i] := by
  rw [waveI, wavesM_at h]
  rfl
theorem take_mem {l : List CM} {i k : Nat} (hk : k < i) (hi : i < l.length) : (l[k], waveI l k) ∈ wavesM (l.take i) := by
  have hlen : (wavesM (l.take i)).length = i := by rw [wavesM_len]; simp; omega
  have h1 := wavesM_at (l := l) (i := k) (by omega)
  rw [wavesM_prefix l i (by omega), List.getElem?_append_left (by omega)] at h1
  rw [waveI_at (by omega)]
  exact List.mem_of_getElem? h1
/-- Of two that are in each other's way the one ahead has the lesser wave. -/
theorem wave_lt {l : List CM} {i k : Nat} (hk : k < i) (hi : i < l.length) (h : wayM (l[k]) l[i] = true) : waveI l k < waveI l i := by
  rw [waveI_at hi]
  exact fold_mem _ _ 0 _ (take_mem hk hi) h
theorem wave_lone {l : List CM} {i k : Nat} (hk : k < i) (hi : i < l.length) (h : loneM (l[i]) = true ∨ loneM (l[k]) = true) : waveI l k < waveI l i := by
  refine wave_lt hk hi ?_
  unfold wayM
  rcases h with h | h <;> simp [h]
/-- A wave that is not the first has one ahead of it. -/
theorem wave_prev {l : List CM} {i : Nat} (hi : i < l.length) (h : 0 < waveI l i) : ∃ k, k < i ∧ waveI l k + 1 = waveI l i := by
  rw [waveI_at hi] at h ⊢
  rcases fold_is l[i] (wavesM (l.take i)) 0 with e | ⟨p, hp, _, e⟩
  · unfold nextW at h
    omega
  · obtain ⟨k, hk, rfl⟩ := List.mem_iff_getElem.1 hp
    have hlen : (wavesM (l.take i)).length = i := by rw [wavesM_len]; simp; omega
    refine ⟨k, by omega, ?_⟩
    have h1 := wavesM_at (l := l) (i := k) (by omega)
    rw [wavesM_prefix l i (by omega), List.getElem?_append_left (by omega), List.getElem?_eq_getElem hk] at h1
    have h2 : ((wavesM (l.take i))[k]).2 = nextW (wavesM (l.take k)) (l[k]'(by omega)) := congrArg Prod.snd (Option.some.inj h1)
    rw [waveI_at (l := l) (i := k) (by omega), ← h2]
    exact e.symm
/-- Each wave up to that of a command has one. -/
theorem wave_below {l : List CM} : ∀ (n i : Nat), i < l.length → waveI l i = n → ∀ v, v ≤ n → ∃ k, k ≤ i ∧ waveI l k = v
  | 0, i, hi, h, v, hv => ⟨i, Nat.le_refl _, by omega⟩
  | n + 1, i, hi, h, v, hv => by
    by_cases he : v = n + 1
    · exact ⟨i, Nat.le_refl _, by omega⟩
    · obtain ⟨k, hk, e⟩ := wave_prev hi (by omega)
      obtain ⟨k', h1, h2⟩ := wave_below (l := l) n k (by omega) (by omega) v (by omega)
      exact ⟨k', by omega, h2⟩
theorem waveI_le {l : List CM} : ∀ (i : Nat), i < l.length → waveI l i ≤ i := by
  intro i
  induction i using Nat.strongRecOn with
  | _ i ih =>
    intro hi
    rcases Nat.eq_zero_or_pos (waveI l i) with h | h
    · omega
    · obtain ⟨k, hk, e⟩ := wave_prev hi h
      have := ih k hk (by omega)
      omega
/-- The greatest wave of the first commands, and one less if there is none. -/
def topW (l : List CM) : Nat → Int
  | 0 => -1
  | n + 1 => max (topW l n) (waveI l n : Int)
theorem topW_ge (l : List CM) : ∀ (n i : Nat), i < n → (waveI l i : Int) ≤ topW l n
  | 0, i, h => by omega
  | n + 1, i, h => by
    simp only [topW]
    by_cases e : i = n
    · subst e; omega
    · have := topW_ge l n i (by omega)
      omega
theorem topW_lo (l : List CM) : ∀ n, -1 ≤ topW l n
  | 0 => by simp [topW]
  | n + 1 => by have := topW_lo l n; simp only [topW]; omega
/-- The waves of the first commands are all of 0 to the greatest. -/
theorem topW_is (l : List CM) : ∀ (n : Nat), n ≤ l.length → ∀ v : Nat, (v : Int) ≤ topW l n → ∃ k, k < n ∧ waveI l k = v
  | 0, _, v, h => by simp only [topW] at h; omega
  | n + 1, hn, v, h => by
    simp only [topW] at h
    by_cases hv : (v : Int) ≤ topW l n
    · obtain ⟨k, h1, h2⟩ := topW_is l n (by omega) v hv
      exact ⟨k, by omega, h2⟩
    · obtain ⟨k, h1, h2⟩ := wave_below (l := l) (waveI l n) n (by omega) rfl v (by omega)
      exact ⟨k, by omega, h2⟩
end Go.Proofs.Ytooaobadnainkaa
