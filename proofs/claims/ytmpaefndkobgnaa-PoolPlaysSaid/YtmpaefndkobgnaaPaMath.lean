/- States of the document's pool by functions, and those that the law on lent buffers goes through. -/
import Derived.Test.YtmpaefndkobgnaaPoolRefNew
namespace Go.Proofs.Ytmpaefndkobgnaa

def upd {α : Type} (f : Nat → α) (i : Nat) (y : α) : Nat → α := fun j => if j = i then y else f j
theorem upd_same {α : Type} (f : Nat → α) (i : Nat) (y : α) : upd f i y i = y := if_pos rfl
theorem upd_ne {α : Type} (f : Nat → α) {i j : Nat} (y : α) (h : j ≠ i) : upd f i y j = f j := if_neg h
theorem map_set {α : Type} (m : Nat) (f : Nat → α) (i : Nat) (y : α) : ((List.range m).map f).set i y = (List.range m).map (upd f i y) := by
  apply List.ext_getElem?
  intro j
  by_cases hj : j < m
  · by_cases hji : j = i
    · subst hji; simp [hj, upd]
    · have : ¬ i = j := fun e => hji e.symm
      simp [hj, upd, hji, this]
  · have h1 : m ≤ j := by omega
    rw [List.getElem?_eq_none (by simp; exact h1), List.getElem?_eq_none (by simp; exact h1)]
theorem map_getD {α : Type} (m : Nat) (f : Nat → α) (i : Nat) (d : α) (h : i < m) : ((List.range m).map f).getD i d = f i := by simp [List.getD, h]
/-- A pool's state by functions. -/
def qf (m sz : Nat) (B : Nat → List UInt8) (G : Nat → Nat) (L : Nat → Bool) (N : List Nat) : QS := { n := m, sz := sz, B := (List.range m).map B, G := (List.range m).map G, L := (List.range m).map L, N := N }

section
variable {m sz : Nat} {B : Nat → List UInt8} {G : Nat → Nat} {L : Nat → Bool} {N : List Nat}
theorem map_const {α : Type} (m : Nat) (x : α) : (List.range m).map (fun _ => x) = List.replicate m x := by
  apply List.ext_getElem? ; intro j
  by_cases hj : j < m <;> simp [hj]
theorem qf_new (m sz : Nat) : QS.new m sz = qf m sz (fun _ => []) (fun _ => 0) (fun _ => false) (List.range m) := by
  simp [QS.new, qf, map_const]
theorem qf_get {N' : List Nat} (i : Nat) (hi : i < m) : (qf m sz B G L N).getS i N' = qf m sz (upd B i []) (upd G i ((G i + 1) % 4294967296)) (upd L i true) N' := by
  simp only [QS.getS, qf, map_set, map_getD m G i 0 hi]
theorem qf_good (k g : Nat) (hk : k < m) : (qf m sz B G L N).good (k : Int) g = (L k && (G k == g)) := by
  have h1 : ((k : Int) < (m : Int)) := by omega
  simp only [QS.good, qf, Int.toNat_natCast, map_getD m L k false hk, map_getD m G k 0 hk]
  simp [h1]
theorem qf_B (k : Nat) (hk : k < m) : (qf m sz B G L N).B.getD k [] = B k := map_getD m B k [] hk
theorem qf_G (k : Nat) (hk : k < m) : (qf m sz B G L N).G.getD k 0 = G k := map_getD m G k 0 hk
theorem qf_set (k g : Nat) (x : List UInt8) (hk : k < m) (hg : (L k && (G k == g)) = true) (hx : x.length ≤ sz) : (qf m sz B G L N).setR k g x = 0 ∧ (qf m sz B G L N).setS k g x = qf m sz (upd B k x) G L N := by
  have h := (qf_good (sz := sz) (B := B) (N := N) k g hk).trans hg
  have h2 : ¬ (qf m sz B G L N).sz < x.length := Nat.not_lt.2 hx
  refine ⟨by rw [QS.setR, h, if_pos rfl, if_neg h2], ?_⟩
  rw [QS.setS, h, if_pos rfl, if_neg h2]
  simp only [qf, Int.toNat_natCast, map_set]
theorem qf_long (k g : Nat) (x : List UInt8) (hk : k < m) (hg : (L k && (G k == g)) = true) (hx : sz < x.length) : (qf m sz B G L N).setR k g x = 3 ∧ (qf m sz B G L N).setS k g x = qf m sz B G L N := by
  have h := (qf_good (sz := sz) (B := B) (N := N) k g hk).trans hg
  have h2 : (qf m sz B G L N).sz < x.length := hx
  exact ⟨by rw [QS.setR, h, if_pos rfl, if_pos h2], by rw [QS.setS, h, if_pos rfl, if_pos h2]⟩
theorem qf_back (k g : Nat) (hk : k < m) (hg : (L k && (G k == g)) = true) : (qf m sz B G L N).backR k g = 0 ∧ (qf m sz B G L N).backS k g = qf m sz B G (upd L k false) (k :: N) := by
  have h := (qf_good (sz := sz) (B := B) (N := N) k g hk).trans hg
  refine ⟨by rw [QS.backR, h, if_pos rfl], ?_⟩
  rw [QS.backS, h, if_pos rfl]
  simp only [qf, Int.toNat_natCast, map_set]
theorem qf_stale (k g : Nat) (x : List UInt8) (hk : k < m) (hg : (L k && (G k == g)) = false) : (qf m sz B G L N).backR k g = 15 ∧ (qf m sz B G L N).backS k g = qf m sz B G L N ∧ (qf m sz B G L N).setR k g x = 15 ∧ (qf m sz B G L N).setS k g x = qf m sz B G L N := by
  have h := (qf_good (sz := sz) (B := B) (N := N) k g hk).trans hg
  refine ⟨?_, ?_, ?_, ?_⟩
  · rw [QS.backR, h]; rfl
  · rw [QS.backS, h]; rfl
  · rw [QS.setR, h]; rfl
  · rw [QS.setS, h]; rfl
end

/-- What buffer j is filled with. -/
def rep (s j : Nat) : List UInt8 := List.replicate s (UInt8.ofNat j)
/-- Behind k rounds of lending and filling. -/
def pa1 (m s k : Nat) : QS := qf m s (fun j => if j < k then rep s j else []) (fun j => if j < k then 1 else 0) (fun j => decide (j < k)) (List.range' k (m - k))
theorem pa1_zero (m s : Nat) : QS.new m s = pa1 m s 0 := by
  rw [qf_new, pa1]; simp [List.range_eq_range']
theorem pa1_N (m s k : Nat) (h : k < m) : (pa1 m s k).N = k :: List.range' (k + 1) (m - (k + 1)) := by
  show List.range' k (m - k) = _
  rw [show m - k = (m - (k + 1)) + 1 by omega, List.range'_succ]
def pa1g (m s k : Nat) : QS := qf m s (fun j => if j < k then rep s j else []) (fun j => if j < k + 1 then 1 else 0) (fun j => decide (j < k + 1)) (List.range' (k + 1) (m - (k + 1)))
theorem pa1_get (m s k : Nat) (h : k < m) : (pa1 m s k).getS k (List.range' (k + 1) (m - (k + 1))) = pa1g m s k := by
  rw [pa1, qf_get k h, pa1g]
  congr 1
  · funext j
    by_cases hj : j = k
    · subst hj; simp [upd]
    · simp [upd, hj]
  · funext j
    by_cases hj : j = k
    · subst hj; simp [upd]
    · have : (j < k + 1) ↔ j < k := by omega
      simp [upd, hj, this]
  · funext j
    by_cases hj : j = k
    · subst hj; simp [upd]
    · have : (j < k + 1) ↔ j < k := by omega
      simp [upd, hj, this]
theorem pa1_gen (m s k : Nat) (h : k < m) : ((pa1 m s k).G.getD k 0 + 1) % 4294967296 = 1 := by
  rw [pa1, qf_G k h]; simp
theorem pa1_fill (m s k : Nat) (h : k < m) : (pa1g m s k).setR k 1 (rep s k) = 0 ∧ (pa1g m s k).setS k 1 (rep s k) = pa1 m s (k + 1) := by
  have := qf_set (m := m) (sz := s) (B := fun j => if j < k then rep s j else []) (G := fun j => if j < k + 1 then 1 else 0) (L := fun j => decide (j < k + 1)) (N := List.range' (k + 1) (m - (k + 1))) k 1 (rep s k) h (by simp) (by simp [rep])
  refine ⟨this.1, this.2.trans ?_⟩
  rw [pa1]
  congr 1
  funext j
  by_cases hj : j = k
  · subst hj; simp [upd]
  · have : (j < k + 1) ↔ j < k := by omega
    simp [upd, hj, this]
theorem pa1_again (m s k : Nat) (h : k < m) : (pa1 m s (k + 1)).setR k 1 (rep s k) = 0 ∧ (pa1 m s (k + 1)).setS k 1 (rep s k) = pa1 m s (k + 1) := by
  have := qf_set (m := m) (sz := s) (B := fun j => if j < k + 1 then rep s j else []) (G := fun j => if j < k + 1 then 1 else 0) (L := fun j => decide (j < k + 1)) (N := List.range' (k + 1) (m - (k + 1))) k 1 (rep s k) h (by simp) (by simp [rep])
  refine ⟨this.1, this.2.trans ?_⟩
  rw [pa1]
  congr 1
  funext j
  by_cases hj : j = k
  · subst hj; simp [upd]
  · simp [upd, hj]
theorem pa1_long (m s k : Nat) (h : k < m) : (pa1 m s (k + 1)).setR k 1 (rep s k ++ [0]) = 3 ∧ (pa1 m s (k + 1)).setS k 1 (rep s k ++ [0]) = pa1 m s (k + 1) :=
  qf_long k 1 _ h (by simp) (by simp [rep])
theorem pa1_full (m s : Nat) : pa1 m s m = qf m s (fun j => if j < m then rep s j else []) (fun j => if j < m then 1 else 0) (fun j => decide (j < m)) [] := by
  rw [pa1]; simp

/-- The place that is given back as the i-th. -/
def idx (m f i : Nat) : Nat := (i + f) % m
theorem idx_lt {m f i : Nat} (h : 0 < m) : idx m f i < m := Nat.mod_lt _ h
theorem idx_inj {m f i j : Nat} (hi : i < m) (hj : j < m) (h : idx m f i = idx m f j) : i = j := by
  unfold idx at h
  have h1 := Nat.div_add_mod (i + f) m
  have h2 := Nat.div_add_mod (j + f) m
  rw [h] at h1
  rcases Nat.lt_trichotomy ((i + f) / m) ((j + f) / m) with hq | hq | hq
  · have : m * ((i + f) / m + 1) ≤ m * ((j + f) / m) := Nat.mul_le_mul_left _ hq
    rw [Nat.mul_add] at this
    omega
  · rw [hq] at h1; omega
  · have : m * ((j + f) / m + 1) ≤ m * ((i + f) / m) := Nat.mul_le_mul_left _ hq
    rw [Nat.mul_add] at this
    omega
def stack (m f : Nat) : Nat → List Nat
  | 0 => []
  | i + 1 => idx m f i :: stack m f i
theorem stack_length (m f : Nat) : ∀ i, (stack m f i).length = i
  | 0 => rfl
  | i + 1 => by rw [stack, List.length_cons, stack_length m f i]
theorem mem_stack {m f j : Nat} : ∀ {i}, j ∈ stack m f i → ∃ t, t < i ∧ idx m f t = j
  | 0, h => by cases h
  | i + 1, h => by
    rcases List.mem_cons.1 h with h | h
    · exact ⟨i, by omega, h.symm⟩
    · obtain ⟨t, ht, h⟩ := mem_stack h
      exact ⟨t, by omega, h⟩
theorem stack_fresh {m f i : Nat} (h : i < m) : idx m f i ∉ stack m f i := fun hm => by
  obtain ⟨t, ht, e⟩ := mem_stack hm
  have := idx_inj (by omega) h e
  omega
theorem stack_nodup (m f : Nat) : ∀ i, i ≤ m → (stack m f i).Nodup
  | 0, _ => List.nodup_nil
  | i + 1, h => by rw [stack, List.nodup_cons]; exact ⟨stack_fresh (by omega), stack_nodup m f i (by omega)⟩
/-- Behind i that are given back. -/
def pa6 (m s f i : Nat) : QS := qf m s (fun j => if j < m then rep s j else []) (fun j => if j < m then 1 else 0) (fun j => decide (j < m) && !(decide (j ∈ stack m f i))) (stack m f i)
theorem pa6_zero (m s f : Nat) : pa1 m s m = pa6 m s f 0 := by rw [pa1_full, pa6]; simp [stack]
theorem pa6_back (m s f i : Nat) (h : i < m) : (pa6 m s f i).backR (idx m f i : Int) 1 = 0 ∧ (pa6 m s f i).backS (idx m f i : Int) 1 = pa6 m s f (i + 1) := by
  have hx : idx m f i < m := idx_lt (by omega)
  have := qf_back (m := m) (sz := s) (B := fun j => if j < m then rep s j else []) (G := fun j => if j < m then 1 else 0) (L := fun j => decide (j < m) && !(decide (j ∈ stack m f i))) (N := stack m f i) (idx m f i) 1 hx (by simp [hx, stack_fresh h])
  refine ⟨this.1, this.2.trans ?_⟩
  rw [pa6]
  congr 1
  funext j
  by_cases hj : j = idx m f i
  · subst hj; simp [upd, stack]
  · simp [upd, hj, stack]
theorem pa6_stale (m s f i : Nat) (x : List UInt8) (h : i < m) : (pa6 m s f (i + 1)).backR (idx m f i : Int) 1 = 15 ∧ (pa6 m s f (i + 1)).backS (idx m f i : Int) 1 = pa6 m s f (i + 1) ∧ (pa6 m s f (i + 1)).setR (idx m f i : Int) 1 x = 15 ∧ (pa6 m s f (i + 1)).setS (idx m f i : Int) 1 x = pa6 m s f (i + 1) :=
  qf_stale (idx m f i) 1 x (idx_lt (by omega)) (by simp [stack])
theorem pa6_good (m s f i : Nat) (h : i < m) : (pa6 m s f (i + 1)).good (idx m f i : Int) 1 = false :=
  (qf_good (idx m f i) 1 (idx_lt (by omega))).trans (by simp [stack])
/-- Behind j that are lent again. -/
def pa7 (m s f j : Nat) (t : QS) : Prop := ∃ B L, t = qf m s B (fun q => if q ∈ (stack m f m).take j then 2 else 1) L ((stack m f m).drop j)
theorem qf_ext {m sz : Nat} {B B' : Nat → List UInt8} {G G' : Nat → Nat} {L L' : Nat → Bool} {N : List Nat} (hB : ∀ j, j < m → B j = B' j) (hG : ∀ j, j < m → G j = G' j) (hL : ∀ j, j < m → L j = L' j) : qf m sz B G L N = qf m sz B' G' L' N := by
  have e1 : (List.range m).map B = (List.range m).map B' := List.map_congr_left fun j hj => hB j (List.mem_range.1 hj)
  have e2 : (List.range m).map G = (List.range m).map G' := List.map_congr_left fun j hj => hG j (List.mem_range.1 hj)
  have e3 : (List.range m).map L = (List.range m).map L' := List.map_congr_left fun j hj => hL j (List.mem_range.1 hj)
  rw [qf, qf, e1, e2, e3]
theorem pa7_zero (m s f : Nat) : pa7 m s f 0 (pa6 m s f m) := by
  refine ⟨_, _, qf_ext (fun _ _ => rfl) (fun j hj => ?_) (fun _ _ => rfl)⟩
  simp [hj]
theorem pa7_get {m s f j : Nat} {t : QS} (h : pa7 m s f j t) (hj : j < m) : ∃ c N', t.N = c :: N' ∧ c < m ∧ (t.G.getD c 0 + 1) % 4294967296 = 2 ∧ pa7 m s f (j + 1) (t.getS c N') ∧ (t.getS c N').good (c : Int) 2 = true ∧ (t.getS c N').B.getD c [] = [] := by
  obtain ⟨B, L, rfl⟩ := h
  have hl : j < (stack m f m).length := by rw [stack_length]; exact hj
  have hnd := stack_nodup m f m (Nat.le_refl _)
  have hcm : (stack m f m)[j] < m := by
    obtain ⟨t, _, e⟩ := mem_stack (List.getElem_mem hl)
    rw [← e]; exact idx_lt (by omega)
  have hnt : (stack m f m)[j] ∉ (stack m f m).take j := by
    intro hm
    obtain ⟨i, hi, e⟩ := List.mem_take_iff_getElem.1 hm
    have := (List.getElem_inj hnd).1 e
    omega
  have hg : (qf m s B (fun q => if q ∈ (stack m f m).take j then 2 else 1) L ((stack m f m).drop j)).G.getD (stack m f m)[j] 0 = 1 := by
    rw [qf_G _ hcm, if_neg hnt]
  have hmem : ∀ q, (q ∈ (stack m f m).take (j + 1)) ↔ (q ∈ (stack m f m).take j ∨ q = (stack m f m)[j]) := fun q => by
    rw [List.take_succ_eq_append_getElem hl, List.mem_append, List.mem_singleton]
  have hG : ∀ q, q < m → upd (fun q => if q ∈ (stack m f m).take j then 2 else 1) (stack m f m)[j] (((fun q => if q ∈ (stack m f m).take j then 2 else 1) (stack m f m)[j] + 1) % 4294967296) q = (if q ∈ (stack m f m).take (j + 1) then 2 else 1) := by
    intro q _
    by_cases hq : q = (stack m f m)[j]
    · rw [if_pos ((hmem q).2 (.inr hq)), upd, if_pos hq]; simp only [if_neg hnt]
    · by_cases hq2 : q ∈ (stack m f m).take j
      · rw [if_pos ((hmem q).2 (.inl hq2)), upd, if_neg hq, if_pos hq2]
      · rw [if_neg (fun h => ((hmem q).1 h).elim hq2 hq), upd, if_neg hq, if_neg hq2]
  have hge : (qf m s B (fun q => if q ∈ (stack m f m).take j then 2 else 1) L ((stack m f m).drop j)).getS (stack m f m)[j] ((stack m f m).drop (j + 1)) = qf m s (upd B (stack m f m)[j] []) (fun q => if q ∈ (stack m f m).take (j + 1) then 2 else 1) (upd L (stack m f m)[j] true) ((stack m f m).drop (j + 1)) :=
    (qf_get _ hcm).trans (qf_ext (fun _ _ => rfl) hG (fun _ _ => rfl))
  refine ⟨(stack m f m)[j], (stack m f m).drop (j + 1), List.drop_eq_getElem_cons hl, hcm, by rw [hg], ⟨_, _, hge⟩, ?_, ?_⟩
  · rw [hge, qf_good _ _ hcm, upd_same, if_pos ((hmem _).2 (.inr rfl))]; rfl
  · rw [hge, qf_B _ hcm, upd_same]
end Go.Proofs.Ytmpaefndkobgnaa
