/- What the walks of the laws on votes ask of the program's package votes; tallies that live. -/
import Derived.Test.YtnpkaljmncehhaaVoM
namespace Go.Proofs.Ytnpkaljmncehhaa
open Go.RowKit

/-- Spans that lie in a row. -/
def HasSp (w : World) (A : Option Addr) (l : List (Nat × Nat)) : Prop := l ≠ [] → ∃ b o, A = some ⟨b, o, none⟩ ∧ b < w.heap.size ∧ ∀ j (h : j < l.length), w.cell? ⟨b, o + j * 2, none⟩ = some (.int .u64 (l[j].1 : Int)) ∧ w.cell? ⟨b, o + j * 2 + 1, none⟩ = some (.int .u64 (l[j].2 : Int))
theorem HasSp.below {w W : World} {A : Option Addr} {l : List (Nat × Nat)} (h : HasSp w A l) (hb : Below w.heap.size w W) : HasSp W A l := fun hl => by
  obtain ⟨b, o, e, h1, h2⟩ := h hl
  refine ⟨b, o, e, Nat.lt_of_lt_of_le h1 hb.size, fun j hj => ?_⟩
  have k : ∀ i, W.cell? ⟨b, i, none⟩ = w.cell? ⟨b, i, none⟩ := fun i => hb.cell (p := ⟨b, i, none⟩) h1
  rw [k, k]
  exact h2 j hj
/-- Whether there is such a replica, and the span is one. -/
def TM.may (t : TM) (r : Int) (a b : Nat) : Bool := decide (0 ≤ r ∧ r < (t.n : Int) ∧ a ≤ b)
def TM.addX (t : TM) (r : Int) (a b : Nat) : TM := if t.may r a b then t.add r.toNat a b else t
def TM.addE (t : TM) (r : Int) (a b : Nat) : Nat := if t.may r a b then 0 else 1
/-- The program's package votes; T tells what the program's own tables hold. -/
structure VotK (T : World → Prop) where
  grew : ∀ {w w' : World}, T w → Below w.heap.size w w' → T w'
  Pl : (Nat → Prop) → World → Nat → TM → Prop
  keep : ∀ {F G : Nat → Prop} {w w' : World} {R : Nat} {t : TM}, Pl F w R t → Only G w w' → (∀ k, F k → ¬ G k) → Pl F w' R t
  lt : ∀ {F : Nat → Prop} {w : World} {R : Nat} {t : TM}, Pl F w R t → ∀ k, F k → k < w.heap.size
  maj : ∀ (n : Nat) (w : World), T w → 1 ≤ n → n ≤ 1000 → Calls Try.prog 16 #[.int .i64 (n : Int)] w fun e W' => e = .returned (.int .i64 ((n / 2 + 1 : Nat) : Int)) ∧ Below w.heap.size w W'
  new : ∀ (n : Nat) (w : World), T w → 1 ≤ n → n ≤ 7 → Calls Try.prog 6 #[.int .i64 (n : Int)] w fun e W' => ∃ F R, e = .returned (.tuple #[.pointer (some ⟨R, 0, none⟩), .int .i64 0]) ∧ Pl F W' R (TM.new n) ∧ (∀ k, F k → w.heap.size ≤ k) ∧ Below w.heap.size w W'
  newBad : ∀ (n : Int) (w : World), T w → ¬ (1 ≤ n ∧ n ≤ 7) → Calls Try.prog 6 #[.int .i64 n] w fun e W' => e = .returned (.tuple #[.pointer none, .int .i64 1]) ∧ Below w.heap.size w W'
  add : ∀ {F : Nat → Prop} {w : World} {R : Nat} {t : TM} (r : Int) (a b : Nat), Pl F w R t → T w → t.ok → t.c ≤ 1000 → a < 18446744073709551616 → b < 18446744073709551616 → Calls Try.prog 12 #[.pointer (some ⟨R, 0, none⟩), .int .i64 r, .agg #[.int .u64 (a : Int), .int .u64 (b : Int)]] w fun e W' => e = .returned (.int .i64 (t.addE r a b : Int)) ∧ ∃ F', Pl F' W' R (t.addX r a b) ∧ Only F w W' ∧ ∀ k, F' k → F k ∨ w.heap.size ≤ k
  release : ∀ {F : Nat → Prop} {w : World} {R : Nat} {t : TM} (x : Nat), Pl F w R t → T w → t.ok → t.c ≤ 1000 → x < 18446744073709551616 → Calls Try.prog 10 #[.pointer (some ⟨R, 0, none⟩), .int .u64 (x : Int)] w fun e W' => e = .returned (.tuple #[]) ∧ ∃ F', Pl F' W' R (t.release x) ∧ Only F w W' ∧ ∀ k, F' k → F k ∨ w.heap.size ≤ k
  has : ∀ {F : Nat → Prop} {w : World} {R : Nat} {t : TM} (r s : Nat), Pl F w R t → T w → t.ok → t.c ≤ 1000 → r < t.n → s < 18446744073709551616 → Calls Try.prog 19 #[.pointer (some ⟨R, 0, none⟩), .int .i64 (r : Int), .int .u64 (s : Int)] w fun e W' => e = .returned (.bool (t.has r s)) ∧ Below w.heap.size w W'
  chosen : ∀ {F : Nat → Prop} {w : World} {R : Nat} {t : TM} (s : Nat), Pl F w R t → T w → t.ok → t.c ≤ 1000 → s < 18446744073709551616 → Calls Try.prog 15 #[.pointer (some ⟨R, 0, none⟩), .int .u64 (s : Int)] w fun e W' => e = .returned (.bool (t.chosen s)) ∧ Below w.heap.size w W'
  upto : ∀ {F : Nat → Prop} {w : World} {R : Nat} {t : TM} (s : Nat), Pl F w R t → T w → t.ok → t.c ≤ 1000 → s < 18446744073709551616 → Calls Try.prog 18 #[.pointer (some ⟨R, 0, none⟩), .int .u64 (s : Int)] w fun e W' => ∃ m, UptoIs t s m ∧ e = .returned (.int .u64 (m : Int)) ∧ Below w.heap.size w W'
  spans : ∀ {F : Nat → Prop} {w : World} {R : Nat} {t : TM} (r : Nat), Pl F w R t → T w → t.ok → t.c ≤ 1000 → r < t.n → Calls Try.prog 17 #[.pointer (some ⟨R, 0, none⟩), .int .i64 (r : Int)] w fun e W' => ∃ A c l, e = .returned (.slice A (List.length l) c) ∧ SpansOf l (t.S r) ∧ l.length ≤ 100000 ∧ HasSp W' A l ∧ (l ≠ [] → ∀ p, A = some p → w.heap.size ≤ p.block) ∧ Below w.heap.size w W'
theorem TM.ok.addX {t : TM} (h : t.ok) {r : Int} {a b : Nat} (hb : b < 18446744073709551616) : (t.addX r a b).ok := by
  unfold TM.addX
  split
  · exact h.add hb
  · exact h
theorem TM.addX_c (t : TM) (r : Int) (a b : Nat) : (t.addX r a b).c ≤ t.c + 1 := by
  unfold TM.addX
  split
  · exact Nat.le_refl _
  · omega
theorem TM.addX_n (t : TM) (r : Int) (a b : Nat) : (t.addX r a b).n = t.n := by
  unfold TM.addX
  split <;> rfl
/-- A tally that came since w, and blocks P that its calls leave. -/
structure LiveV {T : World → Prop} (K : VotK T) (w : World) (R : Nat) (t : TM) (P : Nat → Prop) (W : World) : Prop where
  ex : ∃ F, K.Pl F W R t ∧ ∀ k, F k → w.heap.size ≤ k ∧ ¬ P k
  below : Below w.heap.size w W
  p : ∀ k, P k → k < W.heap.size
  ok : t.ok
section
variable {T : World → Prop} {K : VotK T} {w W W' : World} {R : Nat} {t : TM} {P : Nat → Prop}
theorem LiveV.grew (h : LiveV K w R t P W) (hb : Below W.heap.size W W') : LiveV K w R t P W' := by
  obtain ⟨F, h1, h2⟩ := h.ex
  exact ⟨⟨F, K.keep h1 (Only.of_grew (F := fun _ => False) hb) (fun _ _ => id), h2⟩, h.below.trans (Below.mono hb h.below.size), fun k hk => Nat.lt_of_lt_of_le (h.p k hk) hb.size, h.ok⟩
/-- New blocks are protected, too. -/
theorem LiveV.more (h : LiveV K w R t P W) (hb : Below W.heap.size W W') {Q : Nat → Prop} (h1 : ∀ k, Q k → W.heap.size ≤ k) (h2 : ∀ k, Q k → k < W'.heap.size) : LiveV K w R t (fun k => Q k ∨ P k) W' := by
  obtain ⟨F, f1, f2⟩ := h.ex
  refine ⟨⟨F, K.keep f1 (Only.of_grew (F := fun _ => False) hb) (fun _ _ => id), fun k hk => ⟨(f2 k hk).1, ?_⟩⟩, h.below.trans (Below.mono hb h.below.size), ?_, h.ok⟩
  · rintro (hq | hp)
    · have := K.lt f1 k hk
      have := h1 k hq
      omega
    · exact (f2 k hk).2 hp
  · rintro k (hk | hk)
    · exact h2 k hk
    · exact Nat.lt_of_lt_of_le (h.p k hk) hb.size
/-- What is protected may change. -/
theorem LiveV.turn (h : LiveV K w R t P W) {G : Nat → Prop} (ho : Only G W W') (hG : ∀ k, G k → P k) (hGw : ∀ k, G k → w.heap.size ≤ k) : LiveV K w R t P W' := by
  obtain ⟨F, f1, f2⟩ := h.ex
  refine ⟨⟨F, K.keep f1 ho fun k hk hg => (f2 k hk).2 (hG k hg), f2⟩, h.below.trans (ho.below h.below.size hGw), fun k hk => Nat.lt_of_lt_of_le (h.p k hk) ho.size, h.ok⟩
theorem LiveV.of_new (K : VotK T) (w W : World) (n : Nat) (h0 : 1 ≤ n) (h7 : n ≤ 7) (hT : T w) (hb : Below w.heap.size w W) : Calls Try.prog 6 #[.int .i64 (n : Int)] W fun e W' => ∃ R, e = .returned (.tuple #[.pointer (some ⟨R, 0, none⟩), .int .i64 0]) ∧ LiveV K w R (TM.new n) (fun _ => False) W' ∧ Below W.heap.size W W' :=
  (K.new n W (K.grew hT hb) h0 h7).mono fun _ _ ⟨F, R, k1, k2, k3, k4⟩ => ⟨R, k1, ⟨⟨F, k2, fun k hk => ⟨Nat.le_trans hb.size (k3 k hk), id⟩⟩, hb.trans (Below.mono k4 hb.size), fun _ h => h.elim, TM.ok_new h0 h7⟩, k4⟩
theorem LiveV.add (h : LiveV K w R t P W) (hT : T w) (hc : t.c ≤ 1000) (r : Int) (a b : Nat) (ha : a < 18446744073709551616) (hb : b < 18446744073709551616) : Calls Try.prog 12 #[.pointer (some ⟨R, 0, none⟩), .int .i64 r, .agg #[.int .u64 (a : Int), .int .u64 (b : Int)]] W fun e W' => e = .returned (.int .i64 (t.addE r a b : Int)) ∧ LiveV K w R (t.addX r a b) P W' ∧ ∃ F, Only F W W' ∧ ∀ k, F k → w.heap.size ≤ k ∧ ¬ P k := by
  obtain ⟨F, f1, f2⟩ := h.ex
  refine (K.add r a b f1 (K.grew hT h.below) h.ok hc ha hb).mono fun _ W' ⟨he, F', k1, k2, k3⟩ => ⟨he, ⟨⟨F', k1, fun k hk => ?_⟩, h.below.trans (k2.below h.below.size (fun k hk => (f2 k hk).1)), fun k hk => Nat.lt_of_lt_of_le (h.p k hk) k2.size, h.ok.addX hb⟩, F, k2, f2⟩
  rcases k3 k hk with h' | h'
  · exact f2 k h'
  · exact ⟨Nat.le_trans h.below.size h', fun hp => by have := h.p k hp; omega⟩
theorem LiveV.release (h : LiveV K w R t P W) (hT : T w) (hc : t.c ≤ 1000) (x : Nat) (hx : x < 18446744073709551616) : Calls Try.prog 10 #[.pointer (some ⟨R, 0, none⟩), .int .u64 (x : Int)] W fun e W' => e = .returned (.tuple #[]) ∧ LiveV K w R (t.release x) P W' ∧ ∃ F, Only F W W' ∧ ∀ k, F k → w.heap.size ≤ k ∧ ¬ P k := by
  obtain ⟨F, f1, f2⟩ := h.ex
  refine (K.release x f1 (K.grew hT h.below) h.ok hc hx).mono fun _ W' ⟨he, F', k1, k2, k3⟩ => ⟨he, ⟨⟨F', k1, fun k hk => ?_⟩, h.below.trans (k2.below h.below.size (fun k hk => (f2 k hk).1)), fun k hk => Nat.lt_of_lt_of_le (h.p k hk) k2.size, h.ok.release hx⟩, F, k2, f2⟩
  rcases k3 k hk with h' | h'
  · exact f2 k h'
  · exact ⟨Nat.le_trans h.below.size h', fun hp => by have := h.p k hp; omega⟩
theorem LiveV.has (h : LiveV K w R t P W) (hT : T w) (hc : t.c ≤ 1000) (r s : Nat) (hr : r < t.n) (hs : s < 18446744073709551616) : Calls Try.prog 19 #[.pointer (some ⟨R, 0, none⟩), .int .i64 (r : Int), .int .u64 (s : Int)] W fun e W' => e = .returned (.bool (t.has r s)) ∧ Below W.heap.size W W' := by
  obtain ⟨F, f1, _⟩ := h.ex
  exact K.has r s f1 (K.grew hT h.below) h.ok hc hr hs
theorem LiveV.chosen (h : LiveV K w R t P W) (hT : T w) (hc : t.c ≤ 1000) (s : Nat) (hs : s < 18446744073709551616) : Calls Try.prog 15 #[.pointer (some ⟨R, 0, none⟩), .int .u64 (s : Int)] W fun e W' => e = .returned (.bool (t.chosen s)) ∧ Below W.heap.size W W' := by
  obtain ⟨F, f1, _⟩ := h.ex
  exact K.chosen s f1 (K.grew hT h.below) h.ok hc hs
theorem LiveV.upto (h : LiveV K w R t P W) (hT : T w) (hc : t.c ≤ 1000) (s m : Nat) (hs : s < 18446744073709551616) (hm : UptoIs t s m) : Calls Try.prog 18 #[.pointer (some ⟨R, 0, none⟩), .int .u64 (s : Int)] W fun e W' => e = .returned (.int .u64 (m : Int)) ∧ Below W.heap.size W W' := by
  obtain ⟨F, f1, _⟩ := h.ex
  exact (K.upto s f1 (K.grew hT h.below) h.ok hc hs).mono fun e W' ⟨k, hk, he, hb⟩ => ⟨by rw [he, hk.unique hm], hb⟩
theorem LiveV.spans (h : LiveV K w R t P W) (hT : T w) (hc : t.c ≤ 1000) (r : Nat) (hr : r < t.n) {l : List (Nat × Nat)} (hl : SpansOf l (t.S r)) : Calls Try.prog 17 #[.pointer (some ⟨R, 0, none⟩), .int .i64 (r : Int)] W fun e W' => ∃ A c, e = .returned (.slice A l.length c) ∧ HasSp W' A l ∧ (l ≠ [] → ∀ p, A = some p → W.heap.size ≤ p.block) ∧ Below W.heap.size W W' := by
  obtain ⟨F, f1, _⟩ := h.ex
  exact (K.spans r f1 (K.grew hT h.below) h.ok hc hr).mono fun e W' ⟨A, c, l', he, hl', _, hA, hn, hb⟩ => by
    have := hl'.unique hl
    subst this
    exact ⟨A, c, he, hA, hn, hb⟩
end
end Go.Proofs.Ytnpkaljmncehhaa
