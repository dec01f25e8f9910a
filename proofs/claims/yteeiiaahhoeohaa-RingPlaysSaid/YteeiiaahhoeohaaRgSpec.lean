/- What the walks of the laws on rings ask of the program's ring, of whatever element. -/
import Derived.Test.YteeiiaahhoeohaaMBase
import Derived.LoopTactic
namespace Go.Proofs.Yteeiiaahhoeohaa
open Go.RowKit

/-- A ring: its room, its base, its table. -/
structure RS (V : Type) where
  n : Nat
  b : Nat
  t : Nat → Option V
section
variable {V : Type}
def RS.new (V : Type) (n : Nat) : RS V := ⟨n, 0, fun _ => none⟩
def RS.set (s : RS V) (k : Nat) (v : V) : RS V × Nat := if k ≤ s.b then (s, 31) else if s.b + s.n < k then (s, 30) else ({ s with t := fun j => if j = k then some v else s.t j }, 0)
def RS.rel (s : RS V) (k : Nat) : RS V × Nat := if k < s.b then (s, 31) else ({ s with b := k, t := fun j => if j ≤ k then none else s.t j }, 0)
/-- m is the greatest slot that has a value, or the base. -/
def RS.lastIs (s : RS V) (m : Nat) : Prop := (m = s.b ∧ ∀ j, s.t j = none) ∨ (s.t m ≠ none ∧ ∀ j, m < j → s.t j = none)
theorem RS.last_at {s : RS V} {m k : Nat} (h : s.lastIs m) (h1 : s.t k ≠ none) (h2 : ∀ j, k < j → s.t j = none) : m = k := by
  rcases h with ⟨_, h⟩ | ⟨h3, h4⟩
  · exact absurd (h k) h1
  · rcases Nat.lt_trichotomy m k with h | h | h
    · exact absurd (h4 k h) h1
    · exact h
    · exact absurd (h2 m h) h3
end

/-- A ring of the program, of elements V: how it lies is left open; its calls are the functions given. -/
structure RingK (V : Type) (ev : V → Value) (z : Value) (fN fS fG fR fL : FuncId) where
  Pl : (Nat → Prop) → World → Nat → RS V → Prop
  keep : ∀ {F G : Nat → Prop} {w w' : World} {R : Nat} {s : RS V}, Pl F w R s → Only G w w' → (∀ k, F k → ¬ G k) → Pl F w' R s
  lt : ∀ {F : Nat → Prop} {w : World} {R : Nat} {s : RS V}, Pl F w R s → ∀ k, F k → k < w.heap.size
  newBad : ∀ (w : World) (n : Int), -9223372036854775808 ≤ n ∧ n ≤ 9223372036854775807 → n < 1 ∨ 4096 < n → Calls Try.prog fN #[.int .i64 n] w fun e W' => e = .returned (.tuple #[.pointer none, .int .i64 1]) ∧ Below w.heap.size w W'
  new : ∀ (w : World) (n : Nat), 1 ≤ n → n ≤ 4096 → Calls Try.prog fN #[.int .i64 (n : Int)] w fun e W' => ∃ F R, e = .returned (.tuple #[.pointer (some ⟨R, 0, none⟩), .int .i64 0]) ∧ Pl F W' R (RS.new V n) ∧ (∀ k, F k → w.heap.size ≤ k) ∧ Below w.heap.size w W'
  set : ∀ {F : Nat → Prop} {w : World} {R : Nat} {s : RS V} (k : Nat) (v : V), Pl F w R s → k < 18446744073709551616 → Calls Try.prog fS #[.pointer (some ⟨R, 0, none⟩), .int .u64 (k : Int), ev v] w fun e W' => e = .returned (.int .i64 ((s.set k v).2 : Int)) ∧ ∃ F', Pl F' W' R (s.set k v).1 ∧ Only F w W' ∧ ∀ k, F' k → F k ∨ w.heap.size ≤ k
  rel : ∀ {F : Nat → Prop} {w : World} {R : Nat} {s : RS V} (k : Nat), Pl F w R s → k < 18446744073709551616 → Calls Try.prog fR #[.pointer (some ⟨R, 0, none⟩), .int .u64 (k : Int)] w fun e W' => e = .returned (.int .i64 ((s.rel k).2 : Int)) ∧ ∃ F', Pl F' W' R (s.rel k).1 ∧ Only F w W' ∧ ∀ k, F' k → F k ∨ w.heap.size ≤ k
  get : ∀ {F : Nat → Prop} {w : World} {R : Nat} {s : RS V} (k : Nat), Pl F w R s → k < 18446744073709551616 → Calls Try.prog fG #[.pointer (some ⟨R, 0, none⟩), .int .u64 (k : Int)] w fun e W' => e = .returned (.tuple #[((s.t k).map ev).getD z, .bool (s.t k).isSome]) ∧ Below w.heap.size w W'
  last : ∀ {F : Nat → Prop} {w : World} {R : Nat} {s : RS V}, Pl F w R s → Calls Try.prog fL #[.pointer (some ⟨R, 0, none⟩)] w fun e W' => ∃ m, s.lastIs m ∧ e = .returned (.int .u64 (m : Int)) ∧ Below w.heap.size w W'

/-- A ring that came since w; nothing else changed. -/
structure LiveR {V : Type} {ev : V → Value} {z : Value} {fN fS fG fR fL : FuncId} (K : RingK V ev z fN fS fG fR fL) (w : World) (R : Nat) (s : RS V) (W : World) : Prop where
  ex : ∃ F, K.Pl F W R s ∧ ∀ k, F k → w.heap.size ≤ k
  below : Below w.heap.size w W
section
variable {V : Type} {ev : V → Value} {z : Value} {fN fS fG fR fL : FuncId} {K : RingK V ev z fN fS fG fR fL} {w W W' : World} {R : Nat} {s : RS V}
theorem LiveR.grew (h : LiveR K w R s W) (hb : Below W.heap.size W W') : LiveR K w R s W' := by
  obtain ⟨F, h1, h2⟩ := h.ex
  exact ⟨⟨F, K.keep h1 (Only.of_grew (F := fun _ => False) hb) (fun _ _ => id), h2⟩, h.below.trans (Below.mono hb h.below.size)⟩
theorem LiveR.new (K : RingK V ev z fN fS fG fR fL) (w : World) (n : Nat) (h1 : 1 ≤ n) (h2 : n ≤ 4096) : Calls Try.prog fN #[.int .i64 (n : Int)] w fun e W' => ∃ R, e = .returned (.tuple #[.pointer (some ⟨R, 0, none⟩), .int .i64 0]) ∧ LiveR K w R (RS.new V n) W' :=
  (K.new w n h1 h2).mono fun _ _ ⟨F, R, k1, k2, k3, k4⟩ => ⟨R, k1, ⟨F, k2, k3⟩, k4⟩
/-- One that came later still came since w. -/
theorem LiveR.since {w0 : World} (h : LiveR K w R s W) (hb : Below w0.heap.size w0 w) : LiveR K w0 R s W := by
  obtain ⟨F, h1, h2⟩ := h.ex
  exact ⟨⟨F, h1, fun k hk => Nat.le_trans hb.size (h2 k hk)⟩, hb.trans (Below.mono h.below hb.size)⟩
theorem LiveR.set (h : LiveR K w R s W) (k : Nat) (v : V) (hk : k < 18446744073709551616) : Calls Try.prog fS #[.pointer (some ⟨R, 0, none⟩), .int .u64 (k : Int), ev v] W fun e W' => e = .returned (.int .i64 ((s.set k v).2 : Int)) ∧ LiveR K w R (s.set k v).1 W' := by
  obtain ⟨F, h1, h2⟩ := h.ex
  exact (K.set k v h1 hk).mono fun _ _ ⟨he, F', k1, k2, k3⟩ => ⟨he, ⟨F', k1, fun k hk => (k3 k hk).elim (h2 k) (fun h' => Nat.le_trans h.below.size h')⟩, h.below.trans (k2.below h.below.size h2)⟩
theorem LiveR.rel (h : LiveR K w R s W) (k : Nat) (hk : k < 18446744073709551616) : Calls Try.prog fR #[.pointer (some ⟨R, 0, none⟩), .int .u64 (k : Int)] W fun e W' => e = .returned (.int .i64 ((s.rel k).2 : Int)) ∧ LiveR K w R (s.rel k).1 W' := by
  obtain ⟨F, h1, h2⟩ := h.ex
  exact (K.rel k h1 hk).mono fun _ _ ⟨he, F', k1, k2, k3⟩ => ⟨he, ⟨F', k1, fun k hk => (k3 k hk).elim (h2 k) (fun h' => Nat.le_trans h.below.size h')⟩, h.below.trans (k2.below h.below.size h2)⟩
theorem LiveR.get (h : LiveR K w R s W) (k : Nat) (hk : k < 18446744073709551616) : Calls Try.prog fG #[.pointer (some ⟨R, 0, none⟩), .int .u64 (k : Int)] W fun e W' => e = .returned (.tuple #[((s.t k).map ev).getD z, .bool (s.t k).isSome]) ∧ LiveR K w R s W' := by
  obtain ⟨F, h1, h2⟩ := h.ex
  exact (K.get k h1 hk).mono fun _ _ ⟨he, hb⟩ => ⟨he, h.grew hb⟩
theorem LiveR.last (h : LiveR K w R s W) : Calls Try.prog fL #[.pointer (some ⟨R, 0, none⟩)] W fun e W' => ∃ m, s.lastIs m ∧ e = .returned (.int .u64 (m : Int)) ∧ LiveR K w R s W' := by
  obtain ⟨F, h1, h2⟩ := h.ex
  exact (K.last h1).mono fun _ _ ⟨m, hm, he, hb⟩ => ⟨m, hm, he, h.grew hb⟩
end
/-- The program's rings of numbers and of texts. -/
abbrev RingU := RingK Nat (fun v => .int .u64 (v : Int)) (.int .u64 0) 13 15 17 14 16
abbrev RingS := RingK ByteArray (fun v => .string v) (.string ⟨#[]⟩) 5 7 6 8 10
/-- Base, of a ring of texts (no law asks it of one of numbers). -/
def BaseS (K : RingS) : Prop := ∀ (F : Nat → Prop) (w : World) (R : Nat) (s : RS ByteArray), K.Pl F w R s → Calls Try.prog 9 #[.pointer (some ⟨R, 0, none⟩)] w fun e W' => e = .returned (.int .u64 (s.b : Int)) ∧ Below w.heap.size w W'
theorem LiveR.base {K : RingS} (hB : BaseS K) {w W : World} {R : Nat} {s : RS ByteArray} (h : LiveR K w R s W) : Calls Try.prog 9 #[.pointer (some ⟨R, 0, none⟩)] W fun e W' => e = .returned (.int .u64 (s.b : Int)) ∧ LiveR K w R s W' := by
  obtain ⟨F, h1, h2⟩ := h.ex
  exact (hB F W R s h1).mono fun _ _ ⟨he, hb⟩ => ⟨he, h.grew hb⟩
end Go.Proofs.Yteeiiaahhoeohaa
