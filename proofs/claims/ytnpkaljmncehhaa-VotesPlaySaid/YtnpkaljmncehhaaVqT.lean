/- How the landed tally lies; whether there is a replica; an empty one. -/
import Derived.Test.YtnpkaljmncehhaaVqU
namespace Go.Proofs.Ytnpkaljmncehhaa
open Go.RowKit

def tcells (n F : Nat) (vs : Nat → Value) : Array Value := #[.int .i64 (n : Int), .int .u64 (F : Int), vs 0, vs 1, vs 2, vs 3, vs 4, vs 5, vs 6]
def updV (vs : Nat → Value) (r : Nat) (v : Value) : Nat → Value := fun q => if q = r then v else vs q
theorem tcells_get {n F : Nat} {vs : Nat → Value} : ∀ {r : Nat}, r < 7 → (tcells n F vs)[2 + r]? = some (vs r)
  | 0, _ => rfl
  | 1, _ => rfl
  | 2, _ => rfl
  | 3, _ => rfl
  | 4, _ => rfl
  | 5, _ => rfl
  | 6, _ => rfl
  | r + 7, h => by omega
theorem tcells_set {n F : Nat} {vs : Nat → Value} (v : Value) : ∀ {r : Nat}, r < 7 → (tcells n F vs).setIfInBounds (2 + r) v = tcells n F (updV vs r v)
  | 0, _ => rfl
  | 1, _ => rfl
  | 2, _ => rfl
  | 3, _ => rfl
  | 4, _ => rfl
  | 5, _ => rfl
  | 6, _ => rfl
  | r + 7, h => by omega
theorem tcells_floor {n F : Nat} {vs : Nat → Value} (x : Nat) : (tcells n F vs).setIfInBounds 1 (.int .u64 (x : Int)) = tcells n x vs := rfl
/-- A replica's slots; of no such one none. -/
def TM.set (t : TM) (r s : Nat) : Bool := decide (r < t.n) && t.S r s
/-- A tally: block R, the rows of its sets, what they hold. -/
structure TlQ (w : World) (R : Nat) (t : TM) (vs : Nat → Value) (ls : Nat → List (Nat × Nat)) : Prop where
  blk : w.heap[R]? = some (.cells (tcells t.n t.F vs) 60 (0, 0))
  own : ∀ r, r < 7 → OwnR w (vs r) (ls r)
  spans : ∀ r, r < 7 → SpansOf (ls r) (t.set r)
  len : ∀ r, r < 7 → (ls r).length ≤ t.c
  apart : ∀ r q, r < 7 → q < 7 → r ≠ q → ∀ k, (vs r).ownBlock = some k → (vs q).ownBlock ≠ some k
/-- Its blocks. -/
def TlF (R : Nat) (vs : Nat → Value) (k : Nat) : Prop := k = R ∨ ∃ r, r < 7 ∧ (vs r).ownBlock = some k
section
variable {w w' : World} {R : Nat} {t : TM} {vs : Nat → Value} {ls : Nat → List (Nat × Nat)}
theorem TlQ.off (h : TlQ w R t vs ls) {r : Nat} (hr : r < 7) : (vs r).ownBlock ≠ some R := fun e => by
  obtain ⟨cur, hc⟩ := (h.own r hr).type R e
  rw [h.blk] at hc
  simp only [Option.some.injEq, Obj.cells.injEq] at hc
  exact absurd hc.2.1 (by decide)
theorem TlQ.lt (h : TlQ w R t vs ls) : ∀ k, TlF R vs k → k < w.heap.size := by
  rintro k (rfl | ⟨r, hr, e⟩)
  · exact (Array.getElem?_eq_some_iff.1 h.blk).1
  · exact (h.own r hr).lt k e
theorem TlQ.only {G : Nat → Prop} (h : TlQ w R t vs ls) (ho : Only G w w') (hG : ∀ k, TlF R vs k → ¬ G k) : TlQ w' R t vs ls :=
  ⟨ho.blk h.blk (hG R (.inl rfl)), fun r hr => (h.own r hr).only ho fun k e => hG k (.inr ⟨r, hr, e⟩), h.spans, h.len, h.apart⟩
theorem TlQ.grew (h : TlQ w R t vs ls) (hb : Below w.heap.size w w') : TlQ w' R t vs ls := h.only (Only.of_grew (F := fun _ => False) hb) fun _ _ => id
theorem TlQ.set (h : TlQ w R t vs ls) {r : Nat} (hr : r < 7) : SetQ w R (2 + r) (vs r) (ls r) := ⟨(blk_cell h.blk _).trans (tcells_get hr), h.lt R (.inl rfl), h.own r hr⟩
theorem TlQ.c0 (h : TlQ w R t vs ls) : w.cell? ⟨R, 0, none⟩ = some (.int .i64 (t.n : Int)) := blk_cell h.blk 0
theorem TlQ.c1 (h : TlQ w R t vs ls) : w.cell? ⟨R, 1, none⟩ = some (.int .u64 (t.F : Int)) := blk_cell h.blk 1
theorem TM.ok.set (h : t.ok) (r : Nat) : ∀ s, t.set r s = true → 1 ≤ s ∧ s < 18446744073709551616 := fun s hs => by
  have := h.S r s (by unfold TM.set at hs; exact (Bool.and_eq_true _ _ ▸ hs).2)
  omega
theorem TM.set_of {r s : Nat} (hr : r < t.n) : t.set r s = t.S r s := by
  unfold TM.set
  rw [decide_eq_true hr, Bool.true_and]
end
theorem isOne_any (R n : Nat) (r : Int) (w : World) (h : w.cell? ⟨R, 0, none⟩ = some (.int .i64 (n : Int))) : Calls Try.prog 21 #[.pointer (some ⟨R, 0, none⟩), .int .i64 r] w fun e W' => e = .returned (.bool (decide (0 ≤ r ∧ r < (n : Int)))) ∧ W' = w := by
  obtain ⟨b, hb⟩ : ∃ b, b = decide (0 ≤ r ∧ r < (n : Int)) := ⟨_, rfl⟩
  rw [← hb]
  have HB := Lib.hid hb
  clear hb
  by_cases h0 : 0 ≤ r
  · by_cases h1 : r < (n : Int)
    · obtain rfl : b = true := HB.out.trans (decide_eq_true ⟨h0, h1⟩)
      clear HB
      go_enter Try.func21, Try.ntmps21
      go_wp2
      go_ret
      exact ⟨rfl, rfl⟩
    · obtain rfl : b = false := HB.out.trans (decide_eq_false fun h => h1 h.2)
      clear HB
      have h2 : decide (r < (n : Int)) = false := decide_eq_false h1
      go_enter Try.func21, Try.ntmps21
      go_wp2
      go_ret
      exact ⟨rfl, rfl⟩
  · obtain rfl : b = false := HB.out.trans (decide_eq_false fun h => h0 h.1)
    clear HB
    go_enter Try.func21, Try.ntmps21
    go_wp2
    go_ret
    exact ⟨rfl, rfl⟩
set_option maxRecDepth 100000 in
set_option maxHeartbeats 4000000 in
theorem newBad_any (n : Int) (w : World) (h : ¬ (1 ≤ n ∧ n ≤ 7)) : Calls Try.prog 6 #[.int .i64 n] w fun e W' => e = .returned (.tuple #[.pointer none, .int .i64 1]) ∧ W' = w := by
  by_cases h1 : n < 1
  · go_enter Try.func6, Try.ntmps6
    go_wp2
    go_ret2
    exact ⟨rfl, rfl⟩
  · have h7 : 7 < n := by omega
    clear h
    go_enter Try.func6, Try.ntmps6
    go_wp2
    go_ret2
    exact ⟨rfl, rfl⟩
set_option maxRecDepth 100000 in
set_option maxHeartbeats 4000000 in
theorem new_any (n : Nat) (w : World) (h0 : 1 ≤ n) (h7 : n ≤ 7) : Calls Try.prog 6 #[.int .i64 (n : Int)] w fun e W' => e = .returned (.tuple #[.pointer (some ⟨w.heap.size, 0, none⟩), .int .i64 0]) ∧ TlQ W' w.heap.size (TM.new n) (fun _ => .slice none 0 0) (fun _ => []) ∧ Below w.heap.size w W' := by
  have h1 : ¬ (n : Int) < 1 := by omega
  have h2 : ¬ 7 < (n : Int) := by omega
  clear h0 h7
  go_enter Try.func6, Try.ntmps6
  go_wp2
  go_ret2
  refine ⟨rfl, ⟨?_, fun _ _ => OwnR.nil _, fun r _ => ⟨trivial, fun s => ?_⟩, fun _ _ => Nat.zero_le _, fun _ _ _ _ _ k h => by cases h⟩, (Below.refl _ w).alloc (Nat.le_refl _) _⟩
  · exact World.alloc_heap_new w _
  · constructor
    · rintro ⟨p, hp, _⟩
      cases hp
    · intro h
      unfold TM.set at h
      rw [Bool.and_eq_true] at h
      cases h.2
end Go.Proofs.Ytnpkaljmncehhaa
