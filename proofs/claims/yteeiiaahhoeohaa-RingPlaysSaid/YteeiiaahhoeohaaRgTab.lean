/- The law's table of slots, beside a ring. -/
import Derived.Test.YteeiiaahhoeohaaRgTold
import Derived.Maps.OwnSet
import Derived.Maps.Views
import Derived.Maps.StringElems
namespace Go.Proofs.Yteeiiaahhoeohaa
open Go.RowKit
open Go.Maps (Keyed int_keyed keyOf_int_mk)

def kO (k : Nat) : Lit := .int .u64 (k : Int)
theorem kO_ne {k j : Nat} (h : k ≠ j) : kO k ≠ kO j := by
  intro e
  injection e with _ e
  omega
theorem keyed64 : Keyed Try.prog 29 := int_keyed Try.underlying29
theorem key64 {k : Nat} (h : k < 18446744073709551616) : keyOf Try.prog 29 (.int .u64 (k : Int)) = some (kO k) :=
  keyOf_int_mk Try.underlying29 (by simp [Lit.wf, IntKind.min, IntKind.max, IntKind.signed, IntKind.bits]; omega)
theorem zeroS (w : World) : (zeroValue 9).run Try.prog w = .ok (.string ⟨#[]⟩) w := by kernel_rfl

/-- Block tb reads as the table T. -/
structure Tb (W : World) (tb n : Nat) (T : Nat → Option ByteArray) : Prop where
  ex : ∃ D : DataW Nat, W.ownsMap Try.prog 29 (plainElem (H := Nat) Try.prog 9) tb n D ∧ ∀ k, k < 18446744073709551616 → Maps.has D (kO k) = (T k).isSome ∧ ∀ v, T k = some v → D.atKey (kO k) (.lit (.string [])) = .lit (.string v.data.toList)
theorem Tb.lt {W : World} {tb n : Nat} {T : Nat → Option ByteArray} (h : Tb W tb n T) : tb < W.heap.size := by obtain ⟨D, h, _⟩ := h.ex; exact h.lt
theorem Tb.keep {W W' : World} {tb n : Nat} {T : Nat → Option ByteArray} (h : Tb W tb n T) (hb : W'.heap[tb]? = W.heap[tb]?) : Tb W' tb n T := by
  obtain ⟨D, ⟨es, ck, h1, h2⟩, h3⟩ := h.ex
  exact ⟨D, ⟨es, ck, hb.trans h1, h2⟩, h3⟩
theorem Tb.new (w : World) : Tb (w.alloc (.map #[] 0)) w.heap.size 0 (fun _ => none) :=
  ⟨.map [], World.ownsMap_made _ _ _ _, fun k _ => ⟨by simp [Maps.has], fun v h => by cases h⟩⟩

section
variable (w : World) {ops : Array Oper} {rest : List Oper} {o : Oper} {a : Act} {Q : Exit → Act → World → Prop}
theorem wpList_tab_look (hg : o.guard = none) (m x : Operand) (hop : o.op = Op.lookup 34 m x true) (tb n : Nat) (T : Nat → Option ByteArray) (h : Tb w tb n T) (k : Nat) (hk : k < 18446744073709551616)
    (hm : a.eval m = .map (some tb)) (hx : a.eval x = .int .u64 (k : Int))
    (hK : ∀ s : ByteArray, (∀ v, T k = some v → s = v) → wpList Try.prog ops Q rest (a.put o.dst (.tuple #[.string s, .bool (T k).isSome])) w) : wpList Try.prog ops Q (o :: rest) a w := by
  obtain ⟨D, hown, hD⟩ := h.ex
  refine wpList_lookup_own_ok w hg m x _ hop _ 9 keyed64 Try.underlying34 (plainElem (H := Nat) Try.prog 9) (zeroS w) (.lit (.string [])) [] (plainElem_string Try.underlying9 (by decide)) tb n D hm hown _ (kO k) hx (key64 hk) ?_
  intro v ps hv
  obtain ⟨s, rfl, he, _⟩ := plainElem_string_inv Try.underlying9 hv
  rw [(hD k hk).1]
  refine hK s fun x hx' => ?_
  have h1 := (hD k hk).2 x hx'
  injection he with he _
  rw [h1] at he
  injection he with he
  injection he with he
  exact (ByteArray.ext (Array.ext' he)).symm
theorem wpList_tab_put (hg : o.guard = none) (m x v : Operand) (hop : o.op = Op.mapUpdate 34 m x v) (tb n : Nat) (T : Nat → Option ByteArray) (h : Tb w tb n T) (hn : n < maxLen) (k : Nat) (hk : k < 18446744073709551616) (tx : ByteArray) (htx : tx.size ≤ maxLen)
    (hm : a.eval m = .map (some tb)) (hx : a.eval x = .int .u64 (k : Int)) (hv : a.eval v = .string tx)
    (hK : ∀ w', Tb w' tb (n + 1) (fun j => if j = k then some tx else T j) → Only (fun j => j = tb) w w' → wpList Try.prog ops Q rest (a.put o.dst undef) w') : wpList Try.prog ops Q (o :: rest) a w := by
  obtain ⟨D, hown, hD⟩ := h.ex
  refine wpList_mapUpdate_in w hg m x v _ hop _ 9 keyed64 Try.underlying34 (plainElem (H := Nat) Try.prog 9) tb n D hm hown hn _ _ (kO k) hx hv (key64 hk) (.lit (.string tx.data.toList)) [] (plainElem_string Try.underlying9 htx) ?_
  intro w' h1 h2
  have hg := h2.grown
  refine hK w' ⟨_, h1, fun j hj => ?_⟩ ⟨hg.os, hg.tape, hg.output, hg.size, fun i hi hne => hg.block i hi (fun e => hne (by injection e))⟩
  by_cases hjk : j = k
  · subst hjk
    rw [Maps.has_put_same hown.isMap (keyed64.key (key64 hj)), Maps.atKey_put_same hown.isMap (keyed64.key (key64 hj))]
    simp
  · rw [Maps.has_put_other (kO_ne hjk), Maps.atKey_put_other (kO_ne hjk)]
    simpa [hjk] using hD j hj
end

/-- A ring that came since w, and a table beside it; nothing else changed. -/
structure LiveM (K : RingS) (w : World) (R : Nat) (s : RS ByteArray) (tb n : Nat) (T : Nat → Option ByteArray) (W : World) : Prop where
  ex : ∃ F, K.Pl F W R s ∧ ∀ k, F k → w.heap.size ≤ k ∧ k ≠ tb
  tab : Tb W tb n T
  lo : w.heap.size ≤ tb
  below : Below w.heap.size w W
section
variable {K : RingS} {w W W' : World} {R : Nat} {s : RS ByteArray} {tb n : Nat} {T : Nat → Option ByteArray}
theorem LiveM.live (h : LiveM K w R s tb n T W) : LiveR K w R s W := by
  obtain ⟨F, h1, h2⟩ := h.ex
  exact ⟨⟨F, h1, fun k hk => (h2 k hk).1⟩, h.below⟩
theorem LiveM.grew (h : LiveM K w R s tb n T W) (hb : Below W.heap.size W W') : LiveM K w R s tb n T W' := by
  obtain ⟨F, h1, h2⟩ := h.ex
  exact ⟨⟨F, K.keep h1 (Only.of_grew (F := fun _ => False) hb) (fun _ _ => id), h2⟩, h.tab.keep (hb.block _ h.tab.lt), h.lo, h.below.trans (Below.mono hb h.below.size)⟩
theorem LiveM.of_new (h : LiveR K w R s W) : LiveM K w R s W.heap.size 0 (fun _ => none) (W.alloc (.map #[] 0)) := by
  have hb : Below W.heap.size W (W.alloc (.map #[] 0)) := (Below.refl _ W).alloc (Nat.le_refl _) _
  obtain ⟨F, h1, h2⟩ := h.ex
  exact ⟨⟨F, K.keep h1 (Only.of_grew (F := fun _ => False) hb) (fun _ _ => id), fun k hk => ⟨h2 k hk, fun e => by have := K.lt h1 k hk; omega⟩⟩, Tb.new W, h.below.size, h.below.trans (Below.mono hb h.below.size)⟩
theorem LiveM.put {n' : Nat} {T' : Nat → Option ByteArray} (h : LiveM K w R s tb n T W) (ht : Tb W' tb n' T') (ho : Only (fun j => j = tb) W W') : LiveM K w R s tb n' T' W' := by
  obtain ⟨F, h1, h2⟩ := h.ex
  exact ⟨⟨F, K.keep h1 ho (fun k hk e => (h2 k hk).2 e), h2⟩, ht, h.lo, h.below.trans (ho.below h.below.size (fun k e => by rw [e]; exact h.lo))⟩
theorem LiveM.set (h : LiveM K w R s tb n T W) (k : Nat) (v : ByteArray) (hk : k < 18446744073709551616) : Calls Try.prog 7 #[.pointer (some ⟨R, 0, none⟩), .int .u64 (k : Int), .string v] W fun e W' => e = .returned (.int .i64 ((s.set k v).2 : Int)) ∧ LiveM K w R (s.set k v).1 tb n T W' := by
  obtain ⟨F, h1, h2⟩ := h.ex
  refine (K.set k v h1 hk).mono fun _ _ ⟨he, F', k1, k2, k3⟩ => ⟨he, ⟨F', k1, fun k hk => ?_⟩, h.tab.keep (k2.block _ h.tab.lt (fun hf => (h2 _ hf).2 rfl)), h.lo, h.below.trans (k2.below h.below.size (fun k hk => (h2 k hk).1))⟩
  rcases k3 k hk with h' | h'
  · exact h2 k h'
  · exact ⟨Nat.le_trans h.below.size h', fun e => by have := h.tab.lt; omega⟩
theorem LiveM.rel (h : LiveM K w R s tb n T W) (k : Nat) (hk : k < 18446744073709551616) : Calls Try.prog 8 #[.pointer (some ⟨R, 0, none⟩), .int .u64 (k : Int)] W fun e W' => e = .returned (.int .i64 ((s.rel k).2 : Int)) ∧ LiveM K w R (s.rel k).1 tb n T W' := by
  obtain ⟨F, h1, h2⟩ := h.ex
  refine (K.rel k h1 hk).mono fun _ _ ⟨he, F', k1, k2, k3⟩ => ⟨he, ⟨F', k1, fun k hk => ?_⟩, h.tab.keep (k2.block _ h.tab.lt (fun hf => (h2 _ hf).2 rfl)), h.lo, h.below.trans (k2.below h.below.size (fun k hk => (h2 k hk).1))⟩
  rcases k3 k hk with h' | h'
  · exact h2 k h'
  · exact ⟨Nat.le_trans h.below.size h', fun e => by have := h.tab.lt; omega⟩
theorem LiveM.get (h : LiveM K w R s tb n T W) (k : Nat) (hk : k < 18446744073709551616) : Calls Try.prog 6 #[.pointer (some ⟨R, 0, none⟩), .int .u64 (k : Int)] W fun e W' => e = .returned (.tuple #[((s.t k).map fun v => .string v).getD (.string ⟨#[]⟩), .bool (s.t k).isSome]) ∧ LiveM K w R s tb n T W' := by
  obtain ⟨F, h1, h2⟩ := h.ex
  exact (K.get k h1 hk).mono fun _ _ ⟨he, hb⟩ => ⟨he, h.grew hb⟩
theorem LiveM.last (h : LiveM K w R s tb n T W) : Calls Try.prog 10 #[.pointer (some ⟨R, 0, none⟩)] W fun e W' => ∃ m, s.lastIs m ∧ e = .returned (.int .u64 (m : Int)) ∧ LiveM K w R s tb n T W' := by
  obtain ⟨F, h1, h2⟩ := h.ex
  exact (K.last h1).mono fun _ _ ⟨m, hm, he, hb⟩ => ⟨m, hm, he, h.grew hb⟩
theorem LiveM.base (hB : BaseS K) (h : LiveM K w R s tb n T W) : Calls Try.prog 9 #[.pointer (some ⟨R, 0, none⟩)] W fun e W' => e = .returned (.int .u64 (s.b : Int)) ∧ LiveM K w R s tb n T W' := by
  obtain ⟨F, h1, h2⟩ := h.ex
  exact (hB F W R s h1).mono fun _ _ ⟨he, hb⟩ => ⟨he, h.grew hb⟩
end

/-- The slots b+1 .. b+j that have values. -/
def LS (T : Nat → Option ByteArray) (b : Nat) : Nat → List (Nat × ByteArray)
  | 0 => []
  | j + 1 => LS T b j ++ ((T (b + 1 + j)).map fun v => (b + 1 + j, v)).toList
def LL (T : Nat → Option ByteArray) (b : Nat) : Nat → Nat
  | 0 => b
  | j + 1 => if (T (b + 1 + j)).isSome then b + 1 + j else LL T b j
section
variable {T : Nat → Option ByteArray} {b : Nat}
theorem LS_len : ∀ j, (LS T b j).length ≤ j
  | 0 => Nat.le_refl _
  | j + 1 => by
    have := LS_len j
    unfold LS
    cases T (b + 1 + j) <;> simp <;> omega
theorem LS_some {j : Nat} {v : ByteArray} (h : T (b + 1 + j) = some v) : LS T b (j + 1) = LS T b j ++ [(b + 1 + j, v)] := by rw [LS, h]; rfl
theorem LS_none {j : Nat} (h : T (b + 1 + j) = none) : LS T b (j + 1) = LS T b j := by rw [LS, h]; simp
theorem LL_some {j : Nat} {v : ByteArray} (h : T (b + 1 + j) = some v) : LL T b (j + 1) = b + 1 + j := by rw [LL, h]; rfl
theorem LL_none {j : Nat} (h : T (b + 1 + j) = none) : LL T b (j + 1) = LL T b j := by rw [LL, h]; rfl
theorem LS_pre {j : Nat} : ∀ d, ∃ r, LS T b (j + d) = LS T b j ++ r
  | 0 => ⟨[], by simp⟩
  | d + 1 => by
    obtain ⟨r, hr⟩ := LS_pre (j := j) d
    exact ⟨r ++ _, by rw [← Nat.add_assoc, LS, hr, List.append_assoc]⟩
theorem LS_mem : ∀ j p, p ∈ LS T b j ↔ (∃ i, i < j ∧ p.1 = b + 1 + i) ∧ T p.1 = some p.2
  | 0, p => by simp [LS]
  | j + 1, p => by
    obtain ⟨k, v⟩ := p
    have ih := LS_mem j (k, v)
    rcases h : T (b + 1 + j) with _ | x
    · rw [LS_none h, ih]
      refine ⟨fun ⟨⟨i, h1, h2⟩, h3⟩ => ⟨⟨i, by omega, h2⟩, h3⟩, fun ⟨⟨i, h1, h2⟩, h3⟩ => ⟨⟨i, ?_, h2⟩, h3⟩⟩
      rcases Nat.lt_or_ge i j with h' | h'
      · exact h'
      · have : i = j := by omega
        subst this
        simp only at h2 h3
        rw [h2, h] at h3
        cases h3
    · rw [LS_some h, List.mem_append, ih, List.mem_singleton]
      constructor
      · rintro (⟨⟨i, h1, h2⟩, h3⟩ | h1)
        · exact ⟨⟨i, by omega, h2⟩, h3⟩
        · injection h1 with h1 h2
          subst h1 h2
          exact ⟨⟨j, by omega, rfl⟩, h⟩
      · rintro ⟨⟨i, h1, h2⟩, h3⟩
        simp only at h2 h3
        rcases Nat.lt_or_ge i j with h' | h'
        · exact .inl ⟨⟨i, h', h2⟩, h3⟩
        · have : i = j := by omega
          subst this
          subst h2
          rw [h] at h3
          injection h3 with h3
          exact .inr (by rw [h3])
theorem LS_up : ∀ j, (LS T b j).Pairwise fun x y => x.1 < y.1
  | 0 => List.Pairwise.nil
  | j + 1 => by
    have ih := LS_up j
    rcases h : T (b + 1 + j) with _ | x
    · rw [LS_none h]; exact ih
    · rw [LS_some h, List.pairwise_append]
      refine ⟨ih, by simp, fun p hp q hq => ?_⟩
      rw [List.mem_singleton] at hq
      obtain ⟨⟨i, h1, h2⟩, _⟩ := (LS_mem j p).1 hp
      rw [hq, h2]
      simp only
      omega
theorem LL_is : ∀ j, (LL T b j = b ∧ ∀ i, i < j → T (b + 1 + i) = none) ∨ ∃ i, i < j ∧ LL T b j = b + 1 + i ∧ T (b + 1 + i) ≠ none ∧ ∀ i', i < i' → i' < j → T (b + 1 + i') = none
  | 0 => .inl ⟨rfl, fun i h => absurd h (Nat.not_lt_zero _)⟩
  | j + 1 => by
    rcases h : T (b + 1 + j) with _ | x
    · rw [LL_none h]
      have up : ∀ i, i < j + 1 → i ≠ j → i < j := fun i h1 h2 => by omega
      rcases LL_is j with ⟨h1, h2⟩ | ⟨i, h1, h2, h3, h4⟩
      · exact .inl ⟨h1, fun i hi => if e : i = j then by rw [e]; exact h else h2 i (up i hi e)⟩
      · exact .inr ⟨i, by omega, h2, h3, fun i' hi hj => if e : i' = j then by rw [e]; exact h else h4 i' hi (up i' hj e)⟩
    · rw [LL_some h]
      exact .inr ⟨j, by omega, rfl, by rw [h]; simp, fun i' hi hj => by omega⟩
/-- The ring tells what lies in its window. -/
theorem LS_listed {s : RS ByteArray} (hT : ∀ k, s.t k = if s.b < k ∧ k ≤ s.b + s.n then T k else none) (hs : s.b + s.n < 18446744073709551616) : Listed s (LS T s.b s.n) := by
  refine ⟨fun p hp => ?_, fun k v h => ?_, LS_up _, fun p hp => ?_⟩
  · obtain ⟨⟨i, h1, h2⟩, h3⟩ := (LS_mem _ p).1 hp
    rw [hT, if_pos (by omega)]; exact h3
  · rw [hT] at h
    split at h
    · exact (LS_mem _ (k, v)).2 ⟨⟨k - s.b - 1, by omega, by simp only; omega⟩, h⟩
    · cases h
  · obtain ⟨⟨i, h1, h2⟩, h3⟩ := (LS_mem _ p).1 hp
    omega
theorem LL_last {s : RS ByteArray} (hT : ∀ k, s.t k = if s.b < k ∧ k ≤ s.b + s.n then T k else none) {m : Nat} (h : s.lastIs m) : m = LL T s.b s.n := by
  have hi : ∀ i, i < s.n → s.t (s.b + 1 + i) = T (s.b + 1 + i) := fun i hi => by rw [hT, if_pos (by omega)]
  rcases LL_is (T := T) (b := s.b) s.n with ⟨h1, h2⟩ | ⟨i, h1, h2, h3, h4⟩
  · rcases h with ⟨h, _⟩ | ⟨h, _⟩
    · rw [h1, h]
    · exfalso
      rw [hT] at h
      split at h
      · rename_i hw
        have := h2 (m - s.b - 1) (by omega)
        rw [show s.b + 1 + (m - s.b - 1) = m by omega] at this
        exact h this
      · exact h rfl
  · rw [h2]
    refine RS.last_at h (by rw [hi i h1]; exact h3) fun j hj => ?_
    rw [hT]
    split
    · have := h4 (j - s.b - 1) (by omega) (by omega)
      rwa [show s.b + 1 + (j - s.b - 1) = j by omega] at this
    · rfl
end
end Go.Proofs.Yteeiiaahhoeohaa
