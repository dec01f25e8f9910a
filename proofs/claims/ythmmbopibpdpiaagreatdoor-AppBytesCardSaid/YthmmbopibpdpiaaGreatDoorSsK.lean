/- What the walks of the laws on sessions ask of the program's package session. -/
import Derived.Test.YthmmbopibpdpiaaGreatDoorMSs
import Derived.Test.YthmmbopibpdpiaaGreatDoorMRdE
namespace Go.Proofs.YthmmbopibpdpiaaGreatDoor
open Go.RowKit

def replyV (r : Nat × ByteArray) : Value := .agg #[.int .u8 (r.1 : Int), .string r.2]
/-- What Take comes to: n the error; the table, and what is behind it. -/
structure TakeB (b : Nat) (bs : List UInt8) (l : List SE) (rest : List UInt8) (n : Nat) : Prop where
  ok : n = 0 → LimB b l ∧ bs = bytesSS l ++ rest
  no : n ≠ 0 → n = 10 ∨ n = 11
abbrev TakeS (bs : List UInt8) (l : List SE) (rest : List UInt8) (n : Nat) : Prop := TakeB 1000 bs l rest n
/-- The program's package session; T tells what the program's own tables hold. -/
structure SessK (T : World → Prop) where
  grew : ∀ {w w' : World}, T w → Below w.heap.size w w' → T w'
  Pl : (Nat → Prop) → World → Nat → List SE → Prop
  keep : ∀ {F G : Nat → Prop} {w w' : World} {R : Nat} {l : List SE}, Pl F w R l → Only G w w' → (∀ k, F k → ¬ G k) → Pl F w' R l
  lt : ∀ {F : Nat → Prop} {w : World} {R : Nat} {l : List SE}, Pl F w R l → ∀ k, F k → k < w.heap.size
  new : ∀ (w : World), T w → Calls Tryz.prog 20 #[] w fun e W' => ∃ F R, e = .returned (.pointer (some ⟨R, 0, none⟩)) ∧ Pl F W' R [] ∧ (∀ k, F k → w.heap.size ≤ k) ∧ Below w.heap.size w W'
  look : ∀ {F : Nat → Prop} {w : World} {R : Nat} {l : List SE} (c s : Nat), Pl F w R l → T w → LimS l → c < 4294967296 → s < 4294967296 → Calls Tryz.prog 21 #[.pointer (some ⟨R, 0, none⟩), .int .u32 (c : Int), .int .u32 (s : Int)] w fun e W' => e = .returned (.tuple #[replyV (tellS l c s).1, .int .u8 ((tellS l c s).2 : Int)]) ∧ Below w.heap.size w W'
  keeps : ∀ {F : Nat → Prop} {w : World} {R : Nat} {l : List SE} (c s cd : Nat) (tx : ByteArray), Pl F w R l → T w → LimS l → c < 4294967296 → s < 4294967296 → cd < 256 → tx.size ≤ 1000 → Calls Tryz.prog 23 #[.pointer (some ⟨R, 0, none⟩), .int .u32 (c : Int), .int .u32 (s : Int), replyV (cd, tx)] w fun e W' => e = .returned (.tuple #[]) ∧ ∃ F', Pl F' W' R (keepS l c s cd tx) ∧ Only F w W' ∧ ∀ k, F' k → F k ∨ w.heap.size ≤ k
  len : ∀ {F : Nat → Prop} {w : World} {R : Nat} {l : List SE}, Pl F w R l → Calls Tryz.prog 36 #[.pointer (some ⟨R, 0, none⟩)] w fun e W' => e = .returned (.int .i64 (l.length : Int)) ∧ Below w.heap.size w W'
/-- Put and Take of the program's package session. -/
structure SessKP {T : World → Prop} (K : SessK T) : Prop where
  put : ∀ {F : Nat → Prop} {w : World} {R : Nat} {l : List SE}, K.Pl F w R l → T w → LimS l → (bytesSS l).length ≤ 900000 → Calls Tryz.prog 17 #[.pointer (some ⟨R, 0, none⟩), .slice none 0 0] w fun e W' => ∃ v n, e = .returned v ∧ W'.ownsRow w.heap.size 5 1 v n ((bytesSS l).map enc) ∧ Below w.heap.size w W'
  take : ∀ (R : Nat) (bs : List UInt8) (w : World), T w → bs.length ≤ 20000 → RdQ w R 100 ⟨0, bs⟩ → Calls Tryz.prog 13 #[.pointer (some ⟨R, 0, none⟩)] w fun e W' => ∃ (n : Nat) (l : List SE) (rest : List UInt8), TakeS bs l rest n ∧ w.grownBy W' (some R) ∧
    ((n = 0 ∧ ∃ F S, e = .returned (.tuple #[.pointer (some ⟨S, 0, none⟩), .int .i64 0]) ∧ K.Pl F W' S l ∧ (∀ k, F k → w.heap.size ≤ k) ∧ RdQ W' R 100 ⟨0, rest⟩) ∨ (n ≠ 0 ∧ e = .returned (.tuple #[.pointer none, .int .i64 (n : Int)])))

/-- A table that came since w; nothing else changed. -/
structure LiveS {T : World → Prop} (K : SessK T) (w : World) (R : Nat) (l : List SE) (W : World) : Prop where
  ex : ∃ F, K.Pl F W R l ∧ ∀ k, F k → w.heap.size ≤ k
  below : Below w.heap.size w W
section
variable {T : World → Prop} {K : SessK T} {w W W' : World} {R : Nat} {l : List SE}
theorem LiveS.grew (h : LiveS K w R l W) (hb : Below W.heap.size W W') : LiveS K w R l W' := by
  obtain ⟨F, h1, h2⟩ := h.ex
  exact ⟨⟨F, K.keep h1 (Only.of_grew (F := fun _ => False) hb) (fun _ _ => id), h2⟩, h.below.trans (Below.mono hb h.below.size)⟩
theorem LiveS.t (h : LiveS K w R l W) (hT : T w) : T W := K.grew hT h.below
theorem LiveS.new (K : SessK T) (w : World) (hT : T w) : Calls Tryz.prog 20 #[] w fun e W' => ∃ R, e = .returned (.pointer (some ⟨R, 0, none⟩)) ∧ LiveS K w R [] W' :=
  (K.new w hT).mono fun _ _ ⟨F, R, k1, k2, k3, k4⟩ => ⟨R, k1, ⟨F, k2, k3⟩, k4⟩
/-- What lies in blocks of W stays behind a call on the table, if it lay since W only .. -/
theorem LiveS.look (h : LiveS K w R l W) (hT : T w) (hl : LimS l) (c s : Nat) (hc : c < 4294967296) (hs : s < 4294967296) : Calls Tryz.prog 21 #[.pointer (some ⟨R, 0, none⟩), .int .u32 (c : Int), .int .u32 (s : Int)] W fun e W' => e = .returned (.tuple #[replyV (tellS l c s).1, .int .u8 ((tellS l c s).2 : Int)]) ∧ LiveS K w R l W' ∧ Below W.heap.size W W' := by
  obtain ⟨F, h1, h2⟩ := h.ex
  exact (K.look c s h1 (h.t hT) hl hc hs).mono fun _ _ ⟨he, hb⟩ => ⟨he, h.grew hb, hb⟩
theorem LiveS.len (h : LiveS K w R l W) : Calls Tryz.prog 36 #[.pointer (some ⟨R, 0, none⟩)] W fun e W' => e = .returned (.int .i64 (l.length : Int)) ∧ LiveS K w R l W' ∧ Below W.heap.size W W' := by
  obtain ⟨F, h1, h2⟩ := h.ex
  exact (K.len h1).mono fun _ _ ⟨he, hb⟩ => ⟨he, h.grew hb, hb⟩
end
/-- A table, and blocks P that its calls leave. -/
structure LiveP {T : World → Prop} (K : SessK T) (w : World) (R : Nat) (l : List SE) (P : Nat → Prop) (W : World) : Prop where
  ex : ∃ F, K.Pl F W R l ∧ ∀ k, F k → w.heap.size ≤ k ∧ ¬ P k
  below : Below w.heap.size w W
  p : ∀ k, P k → k < W.heap.size
section
variable {T : World → Prop} {K : SessK T} {w W W' : World} {R : Nat} {l : List SE} {P : Nat → Prop}
theorem LiveP.of (h : LiveS K w R l W) : LiveP K w R l (fun _ => False) W := by
  obtain ⟨F, h1, h2⟩ := h.ex
  exact ⟨⟨F, h1, fun k hk => ⟨h2 k hk, id⟩⟩, h.below, fun k hk => hk.elim⟩
theorem LiveP.live (h : LiveP K w R l P W) : LiveS K w R l W := by
  obtain ⟨F, h1, h2⟩ := h.ex
  exact ⟨⟨F, h1, fun k hk => (h2 k hk).1⟩, h.below⟩
theorem LiveP.grew (h : LiveP K w R l P W) (hb : Below W.heap.size W W') : LiveP K w R l P W' := by
  obtain ⟨F, h1, h2⟩ := h.ex
  exact ⟨⟨F, K.keep h1 (Only.of_grew (F := fun _ => False) hb) (fun _ _ => id), h2⟩, h.below.trans (Below.mono hb h.below.size), fun k hk => Nat.lt_of_lt_of_le (h.p k hk) hb.size⟩
/-- Blocks that came since W are protected, too. -/
theorem LiveP.more (h : LiveP K w R l P W) (hb : Below W.heap.size W W') {q : Nat} (h1 : W.heap.size ≤ q) (h2 : q < W'.heap.size) : LiveP K w R l (fun k => k = q ∨ P k) W' := by
  obtain ⟨F, f1, f2⟩ := h.ex
  refine ⟨⟨F, K.keep f1 (Only.of_grew (F := fun _ => False) hb) (fun _ _ => id), fun k hk => ⟨(f2 k hk).1, ?_⟩⟩, h.below.trans (Below.mono hb h.below.size), ?_⟩
  · rintro (rfl | hp)
    · exact absurd (K.lt f1 k hk) (Nat.not_lt.2 h1)
    · exact (f2 k hk).2 hp
  · rintro k (rfl | hk)
    · exact h2
    · exact Nat.lt_of_lt_of_le (h.p k hk) hb.size
theorem LiveP.set (h : LiveP K w R l P W) {q : Nat} (hq : P q) (hw : w.heap.size ≤ q) (i : Nat) (v : Value) : LiveP K w R l P (W.setCell ⟨q, i, none⟩ v) := by
  obtain ⟨F, f1, f2⟩ := h.ex
  have ho : Only (fun k => k = q) W (W.setCell ⟨q, i, none⟩ v) := (Only.refl (fun k => k = q) W).setCell (p := ⟨q, i, none⟩) (.inl rfl) v
  exact ⟨⟨F, K.keep f1 ho (fun k hk e => (f2 k hk).2 (by rw [show k = q from e]; exact hq)), f2⟩, h.below.setCell (p := ⟨q, i, none⟩) hw v, fun k hk => by have := h.p k hk; simpa [World.setCell] using this⟩
/-- Keep leaves what is protected. -/
theorem LiveP.keeps (h : LiveP K w R l P W) (hT : T w) (hl : LimS l) (c s cd : Nat) (tx : ByteArray) (hc : c < 4294967296) (hs : s < 4294967296) (hd : cd < 256) (ht : tx.size ≤ 1000) : Calls Tryz.prog 23 #[.pointer (some ⟨R, 0, none⟩), .int .u32 (c : Int), .int .u32 (s : Int), replyV (cd, tx)] W fun e W' => e = .returned (.tuple #[]) ∧ LiveP K w R (keepS l c s cd tx) P W' ∧ ∀ k, k < W.heap.size → (P k ∨ k < w.heap.size) → W'.heap[k]? = W.heap[k]? := by
  obtain ⟨F, h1, h2⟩ := h.ex
  refine (K.keeps c s cd tx h1 (h.live.t hT) hl hc hs hd ht).mono fun _ W' ⟨he, F', k1, k2, k3⟩ => ⟨he, ⟨⟨F', k1, fun k hk => ?_⟩, h.below.trans (k2.below h.below.size (fun k hk => (h2 k hk).1)), fun k hk => Nat.lt_of_lt_of_le (h.p k hk) k2.size⟩, fun k hk hp => k2.block k hk (fun hf => hp.elim (h2 k hf).2 (fun hlt => absurd (h2 k hf).1 (Nat.not_le.2 hlt)))⟩
  rcases k3 k hk with h' | h'
  · exact h2 k h'
  · exact ⟨Nat.le_trans h.below.size h', fun hp => by have := h.p k hp; omega⟩
theorem LiveP.look (h : LiveP K w R l P W) (hT : T w) (hl : LimS l) (c s : Nat) (hc : c < 4294967296) (hs : s < 4294967296) : Calls Tryz.prog 21 #[.pointer (some ⟨R, 0, none⟩), .int .u32 (c : Int), .int .u32 (s : Int)] W fun e W' => e = .returned (.tuple #[replyV (tellS l c s).1, .int .u8 ((tellS l c s).2 : Int)]) ∧ LiveP K w R l P W' ∧ Below W.heap.size W W' :=
  (h.live.look hT hl c s hc hs).mono fun _ _ ⟨he, _, hb⟩ => ⟨he, h.grew hb, hb⟩
end
end Go.Proofs.YthmmbopibpdpiaaGreatDoor
