/- How the program's ring lies, of whatever element; what sets and releases come to. -/
import Derived.Test.YteeiiaahhoeohaaRgSpec
import Derived.Deep.DeepCutAuto
import Derived.IntWalk
import Derived.Shelf.Bytes.SlSmallAll
namespace Go.Proofs.Yteeiiaahhoeohaa
open Go.RowKit

/-- A value of another type than the one asked for, which is no interface. -/
theorem assert_other {P : Program} {asserted t : TypeId} {u : TypeDesc} (hu : P.underlying asserted = some u) (hn : ∀ ws, u ≠ .interface ws) (ht : t ≠ asserted) (hz : ((P.info? asserted).bind (·.zero)).isSome = true) (v : Value) (xT : TypeId) (w : World) :
    ∃ z, (Instr.typeAssert (.iface t v) xT asserted true).run P w = .ok (.tuple #[z, .bool false]) w := by
  obtain ⟨z, hz⟩ := Option.isSome_iff_exists.1 hz
  obtain ⟨i, hi, hz⟩ := Option.bind_eq_some_iff.1 hz
  refine ⟨z, ?_⟩
  cases u <;> first | exact absurd rfl (hn _) | simp [Instr.typeAssert, run_underlying hu, typeInfo, hi, zeroValue, hz, ht]

theorem madeCells_getR (z : Array Value) (n i : Nat) (h : i < n) : (madeCells z n)[i]? = some (z[i % z.size]!) := by
  unfold madeCells
  simp [h]

theorem blk_keepR {w : World} {r g j : Nat} {o : Obj} {u : Value} (h : w.heap[r]? = some o) (hn : g ≠ r) : (w.setCell ⟨g, j, none⟩ u).heap[r]? = some o := (Below.heap_setCell _ _ _ _ (Ne.symm hn)).trans h

theorem blk_neQ {w : World} {g g' : Nat} {c c' : Array Value} {t t' : TypeId} (h : w.heap[g]? = some (.cells c t (0, 0))) (h' : w.heap[g']? = some (.cells c' t' (0, 0))) (ht : t ≠ t') : g ≠ g' := by
  rintro rfl
  rw [h] at h'
  injection h' with h'
  injection h' with _ h'
  exact ht h'

theorem mod_inj {n b j k : Nat} (h1 : b < j) (h2 : j ≤ b + n) (h3 : b < k) (h4 : k ≤ b + n) (h : j % n = k % n) : j = k := by
  have e1 := Nat.div_add_mod j n
  have e2 := Nat.div_add_mod k n
  rcases Nat.lt_trichotomy (j / n) (k / n) with hl | hl | hl
  · have h5 : n * (j / n + 1) ≤ n * (k / n) := Nat.mul_le_mul_left n hl
    rw [Nat.mul_add, Nat.mul_one] at h5
    omega
  · rw [hl] at e1; omega
  · have h5 : n * (k / n + 1) ≤ n * (j / n) := Nat.mul_le_mul_left n hl
    rw [Nat.mul_add, Nat.mul_one] at h5
    omega
/-- The slot of a window that has the remainder of j. -/
theorem mod_in (n b j : Nat) (h : 1 ≤ n) (hj : b < j) : ∃ i, b < i ∧ i ≤ b + n ∧ i % n = j % n ∧ (j ≤ b + n → i = j) ∧ (b + n < j → i + n ≤ j) := by
  have hm : (j - b - 1) % n < n := Nat.mod_lt _ (by omega)
  have hle : (j - b - 1) % n ≤ j - b - 1 := Nat.mod_le _ _
  have e1 := Nat.div_add_mod (j - b - 1) n
  refine ⟨b + 1 + (j - b - 1) % n, by omega, by omega, ?_, fun h2 => ?_, fun h2 => ?_⟩
  · rw [Nat.add_mod, Nat.mod_mod, ← Nat.add_mod]
    congr 1; omega
  · rw [Nat.mod_eq_of_lt (by omega)]; omega
  · have : 1 ≤ (j - b - 1) / n := (Nat.one_le_div_iff (by omega)).2 (by omega)
    have h3 : n * 1 ≤ n * ((j - b - 1) / n) := Nat.mul_le_mul_left n this
    rw [Nat.mul_one] at h3
    omega

/-- The ring lies: block R the base, the last, the places; block G the places, two cells each. -/
structure RgQ {V : Type} (ev : V → Value) (z : Value) (tR tC : TypeId) (w : World) (R G m : Nat) (cs : Array Value) (s : RS V) : Prop where
  n1 : 1 ≤ s.n
  n2 : s.n ≤ 4096
  b64 : s.b < 18446744073709551616
  m64 : m < 18446744073709551616
  bm : s.b ≤ m
  last : s.lastIs m
  out : ∀ j, s.t j ≠ none → s.b < j ∧ j ≤ s.b + s.n ∧ j < 18446744073709551616
  blk : w.heap[R]? = some (.cells #[.int .u64 (s.b : Int), .int .u64 (m : Int), .slice (some ⟨G, 0, none⟩) s.n s.n] tR (0, 0))
  row : w.heap[G]? = some (.cells cs tC (0, 0))
  len : cs.size = s.n * 2
  cell : ∀ j, s.b < j → j ≤ s.b + s.n → j < 18446744073709551616 → cs[j % s.n * 2]? = some (((s.t j).map ev).getD z) ∧ cs[j % s.n * 2 + 1]? = some (.bool (s.t j).isSome)
/-- Its blocks. -/
def FR (R G k : Nat) : Prop := k = R ∨ k = G

section
variable {V : Type} {ev : V → Value} {z : Value} {tR tC : TypeId} {w w' : World} {R G m : Nat} {cs : Array Value} {s : RS V}
theorem RgQ.lt (h : RgQ ev z tR tC w R G m cs s) : ∀ k, FR R G k → k < w.heap.size := by
  rintro k (rfl | rfl)
  · exact (Array.getElem?_eq_some_iff.1 h.blk).1
  · exact (Array.getElem?_eq_some_iff.1 h.row).1
theorem RgQ.same (h : RgQ ev z tR tC w R G m cs s) (hk : ∀ k, FR R G k → w'.heap[k]? = w.heap[k]?) : RgQ ev z tR tC w' R G m cs s :=
  ⟨h.n1, h.n2, h.b64, h.m64, h.bm, h.last, h.out, (hk R (.inl rfl)).trans h.blk, (hk G (.inr rfl)).trans h.row, h.len, h.cell⟩
theorem RgQ.only {F : Nat → Prop} (h : RgQ ev z tR tC w R G m cs s) (ho : Only F w w') (hF : ∀ k, FR R G k → ¬ F k) : RgQ ev z tR tC w' R G m cs s :=
  h.same fun k hk => ho.block k (h.lt k hk) (hF k hk)
theorem RgQ.grew (h : RgQ ev z tR tC w R G m cs s) (hb : Below w.heap.size w w') : RgQ ev z tR tC w' R G m cs s := h.only (Only.of_grew (F := fun _ => False) hb) (fun _ _ => id)
theorem RgQ.ne (h : RgQ ev z tR tC w R G m cs s) (ht : tR ≠ tC) : R ≠ G := blk_neQ h.blk h.row ht
theorem RgQ.le (h : RgQ ev z tR tC w R G m cs s) : m ≤ s.b + s.n := by
  rcases h.last with ⟨h1, _⟩ | ⟨h1, _⟩
  · omega
  · exact (h.out m h1).2.1
/-- A slot that is not in the window has no value. -/
theorem RgQ.none_ (h : RgQ ev z tR tC w R G m cs s) {k : Nat} (hk : k ≤ s.b ∨ m < k) : s.t k = none := by
  rcases hk with hk | hk
  · cases e : s.t k with
    | none => rfl
    | some v => exact absurd (h.out k (by rw [e]; simp)).1 (by omega)
  · rcases h.last with ⟨_, h2⟩ | ⟨_, h2⟩
    · exact h2 k
    · exact h2 k hk

/-- Two cells of the places get values. -/
def set2 (cs : Array Value) (q : Nat) (u v : Value) : Array Value := (cs.setIfInBounds (q * 2) u).setIfInBounds (q * 2 + 1) v
theorem set2_size (cs : Array Value) (q : Nat) (u v : Value) : (set2 cs q u v).size = cs.size := by simp [set2]
theorem set2_same (cs : Array Value) (q n : Nat) (u v : Value) (hs : cs.size = n * 2) (hq : q < n) : (set2 cs q u v)[q * 2]? = some u ∧ (set2 cs q u v)[q * 2 + 1]? = some v := by
  unfold set2
  constructor
  · rw [Array.getElem?_setIfInBounds]
    rw [if_neg (by omega), Array.getElem?_setIfInBounds, if_pos rfl, if_pos (by omega)]
  · rw [Array.getElem?_setIfInBounds, if_pos rfl, if_pos (by simp; omega)]
theorem set2_other (cs : Array Value) (q j : Nat) (u v : Value) (hq : j ≠ q) : (set2 cs q u v)[j * 2]? = cs[j * 2]? ∧ (set2 cs q u v)[j * 2 + 1]? = cs[j * 2 + 1]? := by
  unfold set2
  constructor
  · rw [Array.getElem?_setIfInBounds, if_neg (by omega), Array.getElem?_setIfInBounds, if_neg (by omega)]
  · rw [Array.getElem?_setIfInBounds, if_neg (by omega), Array.getElem?_setIfInBounds, if_neg (by omega)]
theorem blk_set2 {w : World} {G : Nat} {cs : Array Value} {t : TypeId} (h : w.heap[G]? = some (.cells cs t (0, 0))) (q : Nat) (u v : Value) : ((w.setCell ⟨G, q * 2, none⟩ u).setCell ⟨G, q * 2 + 1, none⟩ v).heap[G]? = some (.cells (set2 cs q u v) t (0, 0)) := blk_set (blk_set h _ _) _ _

/-- What Set comes to. -/
theorem RgQ.set (h : RgQ ev z tR tC w R G m cs s) {k : Nat} {v : V} (h1 : s.b < k) (h2 : k ≤ s.b + s.n) (h3 : k < 18446744073709551616)
    (hb : w'.heap[R]? = some (.cells #[.int .u64 (s.b : Int), .int .u64 ((max m k : Nat) : Int), .slice (some ⟨G, 0, none⟩) s.n s.n] tR (0, 0))) (hr : w'.heap[G]? = some (.cells (set2 cs (k % s.n) (ev v) (.bool true)) tC (0, 0))) :
    RgQ ev z tR tC w' R G (max m k) (set2 cs (k % s.n) (ev v) (.bool true)) (s.set k v).1 := by
  have e : s.set k v = ({ s with t := fun j => if j = k then some v else s.t j }, 0) := by unfold RS.set; rw [if_neg (by omega), if_neg (by omega)]
  have hq : k % s.n < s.n := Nat.mod_lt _ h.n1
  rw [e]
  refine ⟨h.n1, h.n2, h.b64, by have := h.m64; omega, by have := h.bm; show s.b ≤ _; omega, ?_, fun j hj => ?_, hb, hr, (set2_size _ _ _ _).trans h.len, fun j j1 j2 j3 => ?_⟩
  · refine .inr ⟨?_, fun j hj => ?_⟩
    · show (if max m k = k then some v else s.t (max m k)) ≠ none
      by_cases hm : max m k = k
      · rw [if_pos hm]; simp
      · rw [if_neg hm, show max m k = m by omega]
        rcases h.last with ⟨h4, _⟩ | ⟨h4, _⟩
        · omega
        · exact h4
    · show (if j = k then some v else s.t j) = none
      rw [if_neg (by omega)]
      exact h.none_ (.inr (by omega))
  · by_cases hjk : j = k
    · subst hjk; exact ⟨h1, h2, h3⟩
    · have hj' : (if j = k then some v else s.t j) ≠ none := hj
      rw [if_neg hjk] at hj'
      exact h.out j hj'
  · have j1' : s.b < j := j1
    have j2' : j ≤ s.b + s.n := j2
    show (set2 cs (k % s.n) (ev v) (.bool true))[j % s.n * 2]? = some (((if j = k then some v else s.t j).map ev).getD z) ∧ (set2 cs (k % s.n) (ev v) (.bool true))[j % s.n * 2 + 1]? = some (.bool (if j = k then some v else s.t j).isSome)
    by_cases hjk : j = k
    · subst hjk
      simp only [if_true]
      exact set2_same cs _ s.n _ _ h.len hq
    · simp only [hjk, if_false]
      have hne : j % s.n ≠ k % s.n := fun e => hjk (mod_inj j1' j2' h1 h2 e)
      obtain ⟨a1, a2⟩ := set2_other cs (k % s.n) (j % s.n) (ev v) (.bool true) hne
      rw [a1, a2]
      exact h.cell j j1' j2' j3

/-- Part of the places are empty: those of the slots behind the base, up to e. -/
structure Emp (z : Value) (cs cs' : Array Value) (s : RS V) (e : Nat) : Prop where
  len : cs'.size = cs.size
  done : ∀ j, s.b < j → j ≤ e → j ≤ s.b + s.n → cs'[j % s.n * 2]? = some z ∧ cs'[j % s.n * 2 + 1]? = some (.bool false)
  rest : ∀ j, e < j → s.b < j → j ≤ s.b + s.n → cs'[j % s.n * 2]? = cs[j % s.n * 2]? ∧ cs'[j % s.n * 2 + 1]? = cs[j % s.n * 2 + 1]?
theorem Emp.zero (cs : Array Value) (s : RS V) : Emp z cs cs s s.b := ⟨rfl, fun _ h1 h2 => by omega, fun _ _ _ _ => ⟨rfl, rfl⟩⟩
theorem Emp.one {cs' : Array Value} {e : Nat} (h : Emp z cs cs' s e) (hl : cs.size = s.n * 2) (hn : 1 ≤ s.n) (h1 : s.b ≤ e) (h2 : e + 1 ≤ s.b + s.n) : Emp z cs (set2 cs' ((e + 1) % s.n) z (.bool false)) s (e + 1) := by
  refine ⟨(set2_size _ _ _ _).trans h.len, fun j j1 j2 j3 => ?_, fun j j1 j2 j3 => ?_⟩
  · by_cases hj : j = e + 1
    · subst hj; exact set2_same cs' _ s.n _ _ (h.len.trans hl) (Nat.mod_lt _ hn)
    · obtain ⟨a1, a2⟩ := set2_other cs' ((e + 1) % s.n) (j % s.n) z (.bool false) (fun e' => hj (mod_inj j1 j3 (by omega) h2 e'))
      rw [a1, a2]
      exact h.done j j1 (by omega) j3
  · obtain ⟨a1, a2⟩ := set2_other cs' ((e + 1) % s.n) (j % s.n) z (.bool false) (fun e' => by have := mod_inj j2 j3 (by omega) h2 e'; omega)
    rw [a1, a2]
    exact h.rest j (by omega) j2 j3
/-- What Release comes to. -/
theorem RgQ.rel (h : RgQ ev z tR tC w R G m cs s) {k e : Nat} {cs' : Array Value} (h1 : s.b ≤ k) (h3 : k < 18446744073709551616) (hE : Emp z cs cs' s e) (he : e ≤ k) (he2 : e = k ∨ e = s.b + s.n ∨ e = 18446744073709551615)
    (hb : w'.heap[R]? = some (.cells #[.int .u64 (k : Int), .int .u64 ((max m k : Nat) : Int), .slice (some ⟨G, 0, none⟩) s.n s.n] tR (0, 0))) (hr : w'.heap[G]? = some (.cells cs' tC (0, 0))) :
    RgQ ev z tR tC w' R G (max m k) cs' (s.rel k).1 := by
  have e0 : s.rel k = ({ s with b := k, t := fun j => if j ≤ k then none else s.t j }, 0) := by unfold RS.rel; rw [if_neg (by omega)]
  rw [e0]
  refine ⟨h.n1, h.n2, h3, by have := h.m64; omega, by show k ≤ _; omega, ?_, fun j hj => ?_, hb, hr, hE.len.trans h.len, fun j j1 j2 j3 => ?_⟩
  · by_cases hm : m ≤ k
    · refine .inl ⟨by show max m k = k; omega, fun j => ?_⟩
      show (if j ≤ k then none else s.t j) = none
      split
      · rfl
      · exact h.none_ (.inr (by omega))
    · refine .inr ⟨?_, fun j hj => ?_⟩
      · show (if max m k ≤ k then none else s.t (max m k)) ≠ none
        rw [if_neg (by omega), show max m k = m by omega]
        rcases h.last with ⟨h4, _⟩ | ⟨h4, _⟩
        · omega
        · exact h4
      · show (if j ≤ k then none else s.t j) = none
        split
        · rfl
        · exact h.none_ (.inr (by omega))
  · have hj' : (if j ≤ k then none else s.t j) ≠ none := hj
    by_cases hjk : j ≤ k
    · rw [if_pos hjk] at hj'; exact absurd rfl hj'
    · rw [if_neg hjk] at hj'
      obtain ⟨a1, a2, a3⟩ := h.out j hj'
      exact ⟨by show k < j; omega, by show j ≤ k + s.n; omega, a3⟩
  · have j1' : k < j := j1
    have j2' : j ≤ k + s.n := j2
    show cs'[j % s.n * 2]? = some (((if j ≤ k then none else s.t j).map ev).getD z) ∧ cs'[j % s.n * 2 + 1]? = some (.bool (if j ≤ k then none else s.t j).isSome)
    rw [if_neg (by omega)]
    by_cases hj : j ≤ s.b + s.n
    · obtain ⟨a1, a2⟩ := hE.rest j (by omega) (by omega) hj
      rw [a1, a2]
      exact h.cell j (by omega) hj j3
    · have hno : s.t j = none := by
        cases e : s.t j with
        | none => rfl
        | some v => exact absurd (h.out j (by rw [e]; simp)).2.1 hj
      rw [hno]
      obtain ⟨i, i1, i2, i3, -, i4⟩ := mod_in s.n s.b j h.n1 (by omega)
      have i5 := i4 (by omega)
      rw [← i3]
      exact hE.done i i1 (by omega) i2
end
end Go.Proofs.Yteeiiaahhoeohaa
