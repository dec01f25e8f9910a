/- What the walks of the laws on logs ask of the program's log of records on a disk. The document's own answer for a log: opening bytes; the comparison of two rows. The document's own comparison of two rows of records. The walk of wakes, over a log of the program. The walk of wakes, over a log of the program. -/
import Derived.Test.YtoplocnkpljofaaDoorMDk
import Derived.Test.YtoplocnkpljofaaDoorMRefF
import Derived.Test.YtoplocnkpljofaaDoorMCrc
import Derived.Test.YtoplocnkpljofaaDoorMMath
import Derived.Test.YtoplocnkpljofaaDoorMBase
import Derived.LoopTactic
import Derived.BigRegion
import Derived.RegionTactic
import Derived.Deep.DeepCutAuto
import Derived.Lib.SlBytesConst
-- RcSpec
namespace Go.Proofs.YtoplocnkpljofaaDoor
open Go.RowKit

/-- Rows of bytes that lie in blocks of N alone. -/
def BBn (N : Nat → Prop) (w : World) (v : Value) (Xs : List (List UInt8)) : Prop :=
  ∃ A L c, v = .slice A L c ∧ L = Xs.length ∧ L ≤ c ∧ (Xs ≠ [] → ∃ b o, A = some ⟨b, o, none⟩ ∧ N b ∧ b < w.heap.size ∧ ∀ i (h : i < Xs.length), ∃ A' L' c', w.cell? ⟨b, o + i, none⟩ = some (.slice A' L' c') ∧ L' = (Xs[i]).length ∧ L' ≤ c' ∧
    (Xs[i] ≠ [] → ∃ b' o', A' = some ⟨b', o', none⟩ ∧ N b' ∧ b' < w.heap.size ∧ ∀ j (h' : j < (Xs[i]).length), w.cell? ⟨b', o' + j, none⟩ = some (enc (Xs[i])[j])))
theorem BBn.keep {N F : Nat → Prop} {w w' : World} {v : Value} {Xs : List (List UInt8)} (h : BBn N w v Xs) (ho : Only F w w') (hN : ∀ k, N k → ¬ F k) : BBn N w' v Xs := by
  obtain ⟨A, L, c, e, hL, hc, hA⟩ := h
  refine ⟨A, L, c, e, hL, hc, fun hn => ?_⟩
  obtain ⟨b, o, eA, nb, lb, hr⟩ := hA hn
  refine ⟨b, o, eA, nb, Nat.lt_of_lt_of_le lb ho.size, fun i hi => ?_⟩
  obtain ⟨A', L', c', h1, h2, h3, h4⟩ := hr i hi
  refine ⟨A', L', c', (World.cell?_of_block (ho.block b lb (hN b nb))).trans h1, h2, h3, fun hn' => ?_⟩
  obtain ⟨b', o', e', nb', lb', hr'⟩ := h4 hn'
  exact ⟨b', o', e', nb', Nat.lt_of_lt_of_le lb' ho.size, fun j hj => (World.cell?_of_block (ho.block b' lb' (hN b' nb'))).trans (hr' j hj)⟩
theorem BBn.grew {N : Nat → Prop} {w w' : World} {v : Value} {Xs : List (List UInt8)} (h : BBn N w v Xs) (hb : Below w.heap.size w w') : BBn N w' v Xs := h.keep (Only.of_grew (F := fun _ => False) hb) (fun _ _ => id)
theorem BBn.isBB {N : Nat → Prop} {w : World} {v : Value} {Xs : List (List UInt8)} (h : BBn N w v Xs) : IsBB w v Xs := by
  obtain ⟨A, L, c, e, hL, hc, hA⟩ := h
  refine ⟨A, L, c, e, hL, fun hn => ?_⟩
  obtain ⟨b, o, eA, nb, lb, hr⟩ := hA hn
  refine ⟨b, o, eA, lb, fun i hi => ?_⟩
  obtain ⟨A', L', c', h1, h2, h3, h4⟩ := hr i hi
  refine ⟨_, h1, A', L', c', rfl, h2, fun hn' => ?_⟩
  obtain ⟨b', o', e', nb', lb', hr'⟩ := h4 hn'
  exact ⟨b', o', e', lb', hr'⟩
theorem BBn.row {N : Nat → Prop} {w : World} {A : Option Addr} {L c : Nat} {Xs : List (List UInt8)} (h : BBn N w (.slice A L c) Xs) : L = Xs.length ∧ L ≤ c ∧ ∀ i (hi : i < Xs.length), ∃ b o A' L' c', A = some ⟨b, o, none⟩ ∧ b < w.heap.size ∧ w.cell? ⟨b, o + i, none⟩ = some (.slice A' L' c') ∧ L' = (Xs[i]).length ∧ L' ≤ c' ∧ HasA w w.heap.size A' Xs[i] := by
  obtain ⟨A1, L1, c1, e, hL, hc, hA⟩ := h
  cases e
  refine ⟨hL, hc, fun i hi => ?_⟩
  obtain ⟨b, o, eA, nb, lb, hr⟩ := hA (by rintro rfl; simp at hi)
  obtain ⟨A', L', c', h1, h2, h3, h4⟩ := hr i hi
  refine ⟨b, o, A', L', c', eA, lb, h1, h2, h3, fun hn' => ?_⟩
  obtain ⟨b', o', e', nb', lb', hr'⟩ := h4 hn'
  exact ⟨b', o', e', lb', hr'⟩

/-- The disk behind Open, where the log is whole. -/
def DS.opened (s : DS) : DS := { s with A := s.A.take (opn s.A s.y).2.1, y := (opn s.A s.y).2.1 }
/-- A record behind. -/
def DS.recd (s : DS) (x : List UInt8) : DS × Nat := if s.dead then (s, 20) else if 1 ≤ x.length ∧ x.length ≤ 65536 then s.app (frm x) else (s, 3)

/-- A log of the program on the disk R, at block B. -/
structure RecK (P : DiskK) where
  Lg : (Nat → Prop) → World → Nat → Nat → Prop
  keep : ∀ {G F : Nat → Prop} {w w' : World} {B R : Nat}, Lg G w B R → Only F w w' → (∀ k, G k → ¬ F k) → Lg G w' B R
  lt : ∀ {G : Nat → Prop} {w : World} {B R : Nat}, Lg G w B R → ∀ k, G k → k < w.heap.size
  openNil : ∀ w : World, Calls Tryd.prog 12 #[.pointer none] w fun e W' => ∃ v, e = .returned (.tuple #[.pointer none, v, .int .i64 2]) ∧ BBn (fun _ => True) W' v [] ∧ Below w.heap.size w W'
  appNil : ∀ (w : World) (v : Value), Calls Tryd.prog 17 #[.pointer none, v] w fun e W' => e = .returned (.int .i64 2) ∧ Below w.heap.size w W'
  syncNil : ∀ w : World, Calls Tryd.prog 18 #[.pointer none] w fun e W' => e = .returned (.int .i64 2) ∧ Below w.heap.size w W'
  openDead : ∀ {F : Nat → Prop} {w : World} {R : Nat} {s : DS}, Tab w → P.Pl F w R s → s.dead = true → s.A.length ≤ 100000 → Calls Tryd.prog 12 #[.pointer (some ⟨R, 0, none⟩)] w fun e W' => ∃ v, e = .returned (.tuple #[.pointer none, v, .int .i64 20]) ∧ BBn (fun _ => True) W' v [] ∧ Below w.heap.size w W'
  openBad : ∀ {F : Nat → Prop} {w : World} {R : Nat} {s : DS}, Tab w → P.Pl F w R s → s.dead = false → (opn s.A s.y).2.2 = 22 → s.A.length ≤ 100000 → Calls Tryd.prog 12 #[.pointer (some ⟨R, 0, none⟩)] w fun e W' => ∃ v, e = .returned (.tuple #[.pointer none, v, .int .i64 22]) ∧ BBn (fun _ => True) W' v [] ∧ Below w.heap.size w W'
  opens : ∀ {F : Nat → Prop} {w : World} {R : Nat} {s : DS}, Tab w → P.Pl F w R s → s.dead = false → (opn s.A s.y).2.2 = 0 → s.A.length ≤ 100000 → (∀ k, F k → 0 < k) → Calls Tryd.prog 12 #[.pointer (some ⟨R, 0, none⟩)] w fun e W' => ∃ B v F' G, e = .returned (.tuple #[.pointer (some ⟨B, 0, none⟩), v, .int .i64 0]) ∧
    P.Pl F' W' R s.opened ∧ Lg G W' B R ∧ BBn (fun k => w.heap.size ≤ k ∧ ¬ F' k ∧ ¬ G k) W' v (opn s.A s.y).1 ∧ Only F w W' ∧ (∀ k, F' k → F k ∨ w.heap.size ≤ k) ∧ ∀ k, G k → w.heap.size ≤ k ∧ ¬ F' k
  app : ∀ {F G : Nat → Prop} {w : World} {B R : Nat} {s : DS} (A : Option Addr) (L c : Nat) (x : List UInt8), Tab w → P.Pl F w R s → Lg G w B R → (∀ k, G k → ¬ F k) → L = x.length → L ≤ c → L ≤ 200000 → s.A.length + x.length ≤ 100000000 → HasA w w.heap.size A x → (∀ k, F k ∨ G k → 0 < k) →
    Calls Tryd.prog 17 #[.pointer (some ⟨B, 0, none⟩), .slice A L c] w fun e W' => e = .returned (.int .i64 ((s.recd x).2 : Int)) ∧ ∃ F' G', P.Pl F' W' R (s.recd x).1 ∧ Lg G' W' B R ∧ (∀ k, G' k → ¬ F' k) ∧ Only (fun k => F k ∨ G k) w W' ∧ ∀ k, F' k ∨ G' k → F k ∨ G k ∨ w.heap.size ≤ k
  sync : ∀ {F G : Nat → Prop} {w : World} {B R : Nat} {s : DS}, P.Pl F w R s → Lg G w B R → (∀ k, G k → ¬ F k) →
    Calls Tryd.prog 18 #[.pointer (some ⟨B, 0, none⟩)] w fun e W' => e = .returned (.int .i64 (s.sync.2 : Int)) ∧ ∃ F' G', P.Pl F' W' R s.sync.1 ∧ Lg G' W' B R ∧ (∀ k, G' k → ¬ F' k) ∧ Only (fun k => F k ∨ G k) w W' ∧ ∀ k, F' k ∨ G' k → F k ∨ G k ∨ w.heap.size ≤ k

/-- A disk and a log on it that came since w; nothing else changed. -/
structure LiveL {P : DiskK} (K : RecK P) (w : World) (R B : Nat) (s : DS) (W : World) : Prop where
  ex : ∃ F G, P.Pl F W R s ∧ K.Lg G W B R ∧ (∀ k, G k → ¬ F k) ∧ ∀ k, F k ∨ G k → w.heap.size ≤ k
  below : Below w.heap.size w W
section
variable {P : DiskK} {K : RecK P} {w W W' : World} {R B : Nat} {s : DS}
theorem LiveL.disk (h : LiveL K w R B s W) : LiveD P w R s W := by
  obtain ⟨F, G, h1, h2, h3, h4⟩ := h.ex
  exact ⟨⟨F, h1, fun k hk => h4 k (.inl hk)⟩, h.below⟩
theorem LiveL.grew (h : LiveL K w R B s W) (hb : Below W.heap.size W W') : LiveL K w R B s W' := by
  obtain ⟨F, G, h1, h2, h3, h4⟩ := h.ex
  have ho := Only.of_grew (F := fun _ => False) hb
  exact ⟨⟨F, G, P.keep h1 ho (fun _ _ => id), K.keep h2 ho (fun _ _ => id), h3, h4⟩, h.below.trans (Below.mono hb h.below.size)⟩
/-- A call on the disk alone leaves the log. -/
theorem LiveL.turns {r : DS × Nat} {e : Ending} {F G : Nat → Prop} (h : LiveL K w R B s W) (h2 : K.Lg G W B R) (h3 : ∀ k, G k → ¬ F k) (h4 : ∀ k, F k ∨ G k → w.heap.size ≤ k) (ht : Turns P.Pl F R W r e W') : e = .returned (.int .i64 (r.2 : Int)) ∧ LiveL K w R B r.1 W' := by
  obtain ⟨he, F', k1, k2, k3⟩ := ht
  refine ⟨he, ⟨⟨F', G, k1, K.keep h2 k2 h3, fun k hk hf => ?_, fun k hk => ?_⟩, h.below.trans (k2.below h.below.size (fun k hk => h4 k (.inl hk)))⟩⟩
  · rcases k3 k hf with h' | h'
    · exact h3 k hk h'
    · exact absurd (K.lt h2 k hk) (Nat.not_lt.2 h')
  · rcases hk with hk | hk
    · rcases k3 k hk with h' | h'
      · exact h4 k (.inl h')
      · exact Nat.le_trans h.below.size h'
    · exact h4 k (.inr hk)
theorem LiveL.of (h : Below w.heap.size w W) {F G F' G' : Nat → Prop} (h4 : ∀ k, F k ∨ G k → w.heap.size ≤ k) (k1 : P.Pl F' W' R s) (k2 : K.Lg G' W' B R) (k3 : ∀ k, G' k → ¬ F' k) (k4 : Only (fun k => F k ∨ G k) W W') (k5 : ∀ k, F' k ∨ G' k → F k ∨ G k ∨ W.heap.size ≤ k) : LiveL K w R B s W' := by
  refine ⟨⟨F', G', k1, k2, k3, fun k hk => ?_⟩, h.trans (k4.below h.size h4)⟩
  rcases k5 k hk with h' | h' | h'
  · exact h4 k (.inl h')
  · exact h4 k (.inr h')
  · exact Nat.le_trans h.size h'
theorem LiveL.sync (h : LiveL K w R B s W) : Calls Tryd.prog 18 #[.pointer (some ⟨B, 0, none⟩)] W fun e W' => e = .returned (.int .i64 (s.sync.2 : Int)) ∧ LiveL K w R B s.sync.1 W' := by
  obtain ⟨F, G, h1, h2, h3, h4⟩ := h.ex
  exact (K.sync h1 h2 h3).mono fun _ _ ⟨he, F', G', k1, k2, k3, k4, k5⟩ => ⟨he, LiveL.of h.below h4 k1 k2 k3 k4 k5⟩
theorem LiveL.app (A : Option Addr) (L c : Nat) (x : List UInt8) (h : LiveL K w R B s W) (hT : Tab w) (hL : L = x.length) (hLc : L ≤ c) (hm : L ≤ 200000) (hl : s.A.length + x.length ≤ 100000000) (hA : HasA W W.heap.size A x) : Calls Tryd.prog 17 #[.pointer (some ⟨B, 0, none⟩), .slice A L c] W fun e W' => e = .returned (.int .i64 ((s.recd x).2 : Int)) ∧ LiveL K w R B (s.recd x).1 W' := by
  obtain ⟨F, G, h1, h2, h3, h4⟩ := h.ex
  exact (K.app A L c x (hT.grew h.below) h1 h2 h3 hL hLc hm hl hA (fun k hk => Nat.lt_of_lt_of_le hT.1 (h4 k hk))).mono fun _ _ ⟨he, F', G', k1, k2, k3, k4, k5⟩ => ⟨he, LiveL.of h.below h4 k1 k2 k3 k4 k5⟩
theorem LiveD.openDead (K : RecK P) (h : LiveD P w R s W) (hT : Tab w) (hd : s.dead = true) (hl : s.A.length ≤ 100000) : Calls Tryd.prog 12 #[.pointer (some ⟨R, 0, none⟩)] W fun e W' => ∃ v, e = .returned (.tuple #[.pointer none, v, .int .i64 20]) ∧ BBn (fun _ => True) W' v [] ∧ LiveD P w R s W' ∧ Below W.heap.size W W' := by
  obtain ⟨F, h1, h2⟩ := h.ex
  exact (K.openDead (hT.grew h.below) h1 hd hl).mono fun _ _ ⟨v, he, hv, hb⟩ => ⟨v, he, hv, h.grew hb, hb⟩
theorem LiveD.openBad (K : RecK P) (h : LiveD P w R s W) (hT : Tab w) (hd : s.dead = false) (ho : (opn s.A s.y).2.2 = 22) (hl : s.A.length ≤ 100000) : Calls Tryd.prog 12 #[.pointer (some ⟨R, 0, none⟩)] W fun e W' => ∃ v, e = .returned (.tuple #[.pointer none, v, .int .i64 22]) ∧ BBn (fun _ => True) W' v [] ∧ LiveD P w R s W' ∧ Below W.heap.size W W' := by
  obtain ⟨F, h1, h2⟩ := h.ex
  exact (K.openBad (hT.grew h.below) h1 hd ho hl).mono fun _ _ ⟨v, he, hv, hb⟩ => ⟨v, he, hv, h.grew hb, hb⟩
/-- Open of a log that is whole: what it tells lies apart from disk and log; what lay apart from the disk lies as it lay. -/
theorem LiveD.opens (K : RecK P) (h : LiveD P w R s W) (hT : Tab w) (hd : s.dead = false) (ho : (opn s.A s.y).2.2 = 0) (hl : s.A.length ≤ 100000) : Calls Tryd.prog 12 #[.pointer (some ⟨R, 0, none⟩)] W fun e W' => ∃ B v F' G, e = .returned (.tuple #[.pointer (some ⟨B, 0, none⟩), v, .int .i64 0]) ∧
    P.Pl F' W' R s.opened ∧ K.Lg G W' B R ∧ (∀ k, G k → ¬ F' k) ∧ (∀ k, F' k ∨ G k → w.heap.size ≤ k) ∧ BBn (fun k => ¬ F' k ∧ ¬ G k) W' v (opn s.A s.y).1 ∧ LiveL K w R B s.opened W' := by
  obtain ⟨F, h1, h2⟩ := h.ex
  refine (K.opens (hT.grew h.below) h1 hd ho hl (fun k hk => Nat.lt_of_lt_of_le hT.1 (h2 k hk))).mono ?_
  rintro e W' ⟨B, v, F', G, he, k1, k2, k3, k4, k5, k6⟩
  have h7 : ∀ k, F' k ∨ G k → w.heap.size ≤ k := by
    rintro k (hk | hk)
    · rcases k5 k hk with h' | h'
      · exact h2 k h'
      · exact Nat.le_trans h.below.size h'
    · exact Nat.le_trans h.below.size (k6 k hk).1
  refine ⟨B, v, F', G, he, k1, k2, fun k hk => (k6 k hk).2, h7, ?_, ⟨F', G, k1, k2, fun k hk => (k6 k hk).2, h7⟩, h.below.trans (k4.below h.below.size h2)⟩
  obtain ⟨A, L, c, e, hL, hc, hA⟩ := k3
  refine ⟨A, L, c, e, hL, hc, fun hn => ?_⟩
  obtain ⟨b, o, eA, nb, lb, hr⟩ := hA hn
  refine ⟨b, o, eA, nb.2, lb, fun i hi => ?_⟩
  obtain ⟨A', L', c', h1, h2, h3, h4⟩ := hr i hi
  refine ⟨A', L', c', h1, h2, h3, fun hn' => ?_⟩
  obtain ⟨b', o', e', nb', lb', hr'⟩ := h4 hn'
  exact ⟨b', o', e', nb'.2, lb', hr'⟩
end
end Go.Proofs.YtoplocnkpljofaaDoor

-- RcRef
namespace Go.Proofs.YtoplocnkpljofaaDoor
open Go.RowKit

theorem run_upto6 (w : World) (A : Option Addr) (L c N : Nat) (h : N ≤ c) (_hc : N ≤ 1000000000) : (Instr.sliceAt 29 (.slice A L c) none (some (.int .i64 (N : Int))) none).run Tryd.prog w = .ok (.slice A N c) w := by
  have h1 : (N : Int) ≤ c := by omega
  cases A <;> simp [go_sem, h1]
/-- A slice from n on lies n further, where it has bytes. -/
theorem run_from6 (_w : World) (A : Option Addr) (L c n : Nat) (h1 : n ≤ L) (h2 : L ≤ c) (_hc : L ≤ 1000000000) : ∃ A', (∀ w : World, (Instr.sliceAt 29 (.slice A L c) (some (.int .i64 (n : Int))) none none).run Tryd.prog w = .ok (.slice A' (L - n) (c - n)) w) ∧ ∀ b o, A = some ⟨b, o, none⟩ → n < L → A' = some ⟨b, o + n, none⟩ := by
  have e1 : (0 : Int) ≤ (n : Int) := by omega
  have e2 : (n : Int) ≤ (L : Int) := by omega
  have e3 : (L : Int) ≤ (c : Int) := by omega
  cases A with
  | none =>
    refine ⟨none, fun w => ?_, fun _ _ e => by cases e⟩
    simp [go_sem, e1, e2]
  | some a =>
    by_cases hcn : c = n
    · refine ⟨some a, fun w => ?_, fun b o e h => by omega⟩
      simp [go_sem, e1, e2, hcn]
    · refine ⟨some (a.add n), fun w => ?_, fun b o e _ => by cases e; exact congrArg some (addr_add b o n)⟩
      simp [go_sem, e1, e2, hcn]

theorem AllB.append {P : Value → List UInt8 → Prop} {vs us : List Value} {Xs Ys : List (List UInt8)} (h : AllB P vs Xs) (k : AllB P us Ys) : AllB P (vs ++ us) (Xs ++ Ys) := by
  refine ⟨by simp [h.1, k.1], fun i hi hi' => ?_⟩
  have e := h.1
  by_cases hl : i < vs.length
  · rw [List.getElem_append_left hl, List.getElem_append_left (by omega)]
    exact h.2 i hl (by omega)
  · rw [List.getElem_append_right (by omega), List.getElem_append_right (by omega)]
    have := k.2 (i - vs.length) (by simp at hi; omega) (by simp at hi'; omega)
    simpa [e] using this

/-- An append of a row of slices of bytes to one of the call's own. -/
theorem wpList_append_rows {w : World} {ops : Array Oper} {rest : List Oper} {o : Oper} {a : Act} {Q : Exit → Act → World → Prop} (hgd : o.guard = none) (s x : Operand)
    (ho : o.op = .call { callee := .builtin .append, args := #[s, x], argTypes := #[35, 35] }) (base : Nat) (v : Value) (n : Nat) (vs : List Value) (hs : a.eval s = v) (hown : w.ownsRow base 29 1 v n vs)
    (b2 : Nat) (v2 : Value) (m : Nat) (us : List Value) (hx : a.eval x = v2) (hown2 : w.ownsRow b2 29 1 v2 m us) (h1 : ∀ u ∈ us, u.oneCell' = true) (hl : n + m ≤ 1000000) (hbase : base ≤ w.heap.size)
    (h : ∀ v' w', w'.ownsRow base 29 1 v' (n + m) (vs ++ us) → w.grownBy w' v.ownBlock → wpList Tryd.prog ops Q rest (a.put o.dst v') w') : wpList Tryd.prog ops Q (o :: rest) a w := by
  obtain ⟨iB, hi, hz0, hz1, hz2⟩ := infoB_parts
  by_cases hm : m = 0
  · subst hm
    have hus : us = [] := List.eq_nil_of_length_eq_zero (by simpa using hown2.1)
    subst hus
    have hrun : (Builtin.append_ #[35, 35] o.type #[v, v2]).run Tryd.prog w = .ok v w := by
      obtain ⟨A2, c2, rfl⟩ := own_form hown2
      have hfc : (Builtin.firstCells 1 0 (.slice A2 0 c2)).run Tryd.prog w = .ok #[] w := by
        cases A2 <;> simp [Builtin.firstCells, loadCells, loadCellsFrom]
      rcases hown.2 with ⟨rfl, rfl⟩ | ⟨g, cap, cur, rfl, _, _, hnc, _⟩
      · simp [Builtin.append_, run_underlying Tryd.underlying35, sizeOf, typeInfo, hi, Builtin.lenOf, hz1, hfc]
      · simp [Builtin.append_, run_underlying Tryd.underlying35, sizeOf, typeInfo, hi, Builtin.lenOf, hz1, hfc, hnc, storeCells]
    refine wpList_plain hgd fun K hK => ?_
    unfold Oper.wp execOp
    simp only [ho, resolve, invoke, builtin, Sem.run_bind, Sem.run_pure, Result.andThen_ok, List.map_toArray, List.map_cons, List.map_nil, hs, hx, hrun]
    exact hK _ _ (h v w (by simpa using hown) ⟨rfl, rfl, rfl, Nat.le_refl _, fun _ _ _ => rfl⟩)
  · obtain ⟨g2, c2, rfl, _, _⟩ := hown2.form (by omega)
    obtain ⟨v', w', hrun, k1, k2, -⟩ := run_append_own (P := Tryd.prog) w base 35 o.type 29 iB (.slice none 0 0) 1 24 Tryd.underlying35 hi hz0 hz1 hz2 rfl (by decide) v n vs hown ⟨g2, 0, none⟩ m c2 us (by simpa using hown2.1) (fun j u hj => hown2.cells (g := g2) rfl j u hj) h1 (by simp only [maxLen]; omega) (by omega) hbase
    refine wpList_plain hgd fun K hK => ?_
    unfold Oper.wp execOp
    simp only [ho, resolve, invoke, builtin, Sem.run_bind, Sem.run_pure, Result.andThen_ok, List.map_toArray, List.map_cons, List.map_nil, hs, hx, hrun]
    exact hK _ _ (h v' w' k1 k2)

set_option maxRecDepth 100000 in
set_option maxHeartbeats 4000000 in
theorem ref_Open6 (A : Option Addr) (L c n : Nat) (bs : List UInt8) (hn : n ≤ L) (hL : L = bs.length) (hlen : L ≤ 100000) (hcap : L ≤ c) (w : World) (hA : HasA w w.heap.size A bs) :
    Calls Tryd.prog 14 #[.slice A L c, .int .i64 (n : Int)] w fun e W' => ∃ v, e = .returned (.tuple #[v, .int .i64 ((opn bs n).2.1 : Int), .int .i64 ((opn bs n).2.2 : Int)]) ∧ IsBB W' v (opn bs n).1 ∧ Below w.heap.size w W' := by
  have hup := fun w' => run_upto6 w' A L c n (by omega) (by omega)
  obtain ⟨A', hfr, hA'⟩ := run_from6 w A L c n hn hcap (by omega)
  have hA2 : HasA w w.heap.size A' (bs.drop n) := fun hne => by
    have hnL : n < L := by
      rcases Nat.lt_or_ge n L with h | h
      · exact h
      · exact absurd (List.drop_of_length_le (by omega)) hne
    obtain ⟨b, o, e, hb, hc⟩ := hA (by rintro rfl; simp at hne)
    rw [hA' b o e hnL]
    exact (hA.cut b o n e) hne
  have HL := Lib.hid hL
  have HA := Lib.hid hA
  have HA2 := Lib.hid hA2
  have HLN := Lib.hid (show n ≤ L ∧ L ≤ 100000 ∧ L ≤ c from ⟨hn, hlen, hcap⟩)
  clear hL hA hA2 hA' hn
  go_enter Tryd.func14, Tryd.ntmps14
  go_wp2_with fail
  refine (ref_FAllO A n c (bs.take n) (by rw [List.length_take, ← HL.out]; have := HLN.out; omega) (by have := HLN.out; omega) (by have := HLN.out; omega) w w.heap.size (Nat.le_refl _) (HA.out.take n)).mono ?_
  rintro e W1 ⟨v1, vs1, rfl, ho1, ha1, hb1⟩
  obtain ⟨e1, he1⟩ : ∃ x, x = (al (bs.take n)).2.2 := ⟨_, rfl⟩
  obtain ⟨t1, ht1⟩ : ∃ x, x = (al (bs.take n)).2.1 := ⟨_, rfl⟩
  rw [← he1, ← ht1]
  have hcnt1 := al_count (bs.take n)
  have O1 := Lib.hid (And.intro ho1 ha1)
  have B1 := Lib.hid hb1
  have E1 := Lib.hid (And.intro he1 ht1)
  obtain ⟨A1, c1, rfl⟩ := own_form ho1
  clear ho1 ha1 hb1 he1 ht1
  by_cases hz : e1 = 0
  · subst hz
    by_cases ht : t1 = n
    · have hti : (t1 : Int) = (n : Int) := by omega
      subst ht
      have hti2 : ((t1 : Int) != (t1 : Int)) = false := by simp
      go_wp2_with fail
      refine (ref_FAllO A' (L - t1) (c - t1) (bs.drop t1) (by rw [List.length_drop, ← HL.out]) (by have := HLN.out; omega) (by have := HLN.out; omega) W1 w.heap.size B1.out.size (HA2.out.below B1.out)).mono ?_
      rintro e W2 ⟨v2, vs2, rfl, ho2, ha2, hb2⟩
      obtain ⟨e2, he2⟩ : ∃ x, x = (al (bs.drop t1)).2.2 := ⟨_, rfl⟩
      obtain ⟨t2, ht2⟩ : ∃ x, x = (al (bs.drop t1)).2.1 := ⟨_, rfl⟩
      rw [← he2, ← ht2]
      have hcnt2 := al_count (bs.drop t1)
      have hle2 := al_le (bs.drop t1)
      rw [← ht2, List.length_drop, ← HL.out] at hle2
      rw [List.length_drop, ← HL.out] at hcnt2
      rw [List.length_take, ← HL.out] at hcnt1
      have ho1 := own_below O1.out.1 hb2
      have ha1 := O1.out.2.mono fun v X h => h.below (Below.mono hb2 B1.out.size)
      have B2 := Lib.hid (B1.out.trans (Below.mono hb2 B1.out.size))
      obtain ⟨A2, c2, rfl⟩ := own_form ho2
      have hone : ∀ u ∈ vs2, u.oneCell' = true := by
        intro u hu
        obtain ⟨i, hi, rfl⟩ := List.getElem_of_mem hu
        exact (ha2.2 i hi (by rw [← ha2.1]; exact hi)).slice
      have HS1 := Lib.hid (B1.out.size)
      obtain ⟨k1, hk1⟩ : ∃ x, x = (al (bs.take t1)).1.length := ⟨_, rfl⟩
      obtain ⟨k2, hk2⟩ : ∃ x, x = (al (bs.drop t1)).1.length := ⟨_, rfl⟩
      rw [← hk1] at ho1 hcnt1 ⊢
      rw [← hk2] at ho2 hcnt2 ⊢
      have hkk : k1 + k2 ≤ 1000000 := by have := HLN.out; omega
      have htt : (t1 : Int) + t2 ≤ 100000 := by have := HLN.out; omega
      have O2 := Lib.hid (And.intro ho1 (And.intro ha1 (And.intro ho2 (And.intro ha2 hone))))
      have E2 := Lib.hid (And.intro he2 ht2)
      clear ho1 ha1 ho2 ha2 hone he2 ht2 hb2 hk1 hk2 hcnt1 hcnt2 hle2
      go_wp2_with (at_builtin; refine wpList_append_rows rfl (.tmp 38) (.tmp 39) rfl w.heap.size _ k1 vs1 rfl O2.out.1 _ _ k2 vs2 rfl O2.out.2.2.1 O2.out.2.2.2.2 hkk B2.out.size ?_; intro v3 W3 hown3 hg3)
      go_ret3
      have hB3 : Below w.heap.size w W3 := B2.out.grown hg3 B2.out.size (fun k e => (O2.out.1.lt k e).1)
      have hB13 : Below w.heap.size W2 W3 := (Below.refl w.heap.size W2).grown hg3 B2.out.size (fun k e => (O2.out.1.lt k e).1)
      have hR : opn bs t1 = ((al (bs.take t1)).1 ++ (al (bs.drop t1)).1, t1 + t2, 0) := by rw [opn_ok E1.out.1.symm E1.out.2.symm, E2.out.2]
      rw [hR]
      refine ⟨v3, by simp, IsBB.own hown3 ?_, hB3⟩
      refine AllB.append (O2.out.2.1.mono fun v X h => (h.below hB13).isB hB3.size) (O2.out.2.2.2.1.mono fun v X h => (h.below hB13).isB hB3.size)
    · have hti : ((t1 : Int) != (n : Int)) = true := by simp; omega
      have HR := Lib.hid (show opn bs n = ([], bs.length, 22) from opn_bad (fun h => ht (E1.out.2.trans h.2)))
      go_wp2
      go_ret3
      rw [HR.out]
      exact ⟨.slice none 0 0, by simp [HL.out], ⟨none, 0, 0, rfl, rfl, fun h => absurd rfl h⟩, B1.out⟩
  · have hzi : ((e1 : Int) != 0) = true := by simp; omega
    have HR := Lib.hid (show opn bs n = ([], bs.length, 22) from opn_bad (fun h => hz (E1.out.1.trans h.1)))
    go_wp2
    go_ret3
    rw [HR.out]
    exact ⟨.slice none 0 0, by simp [HL.out], ⟨none, 0, 0, rfl, rfl, fun h => absurd rfl h⟩, B1.out⟩
end Go.Proofs.YtoplocnkpljofaaDoor

-- RcSame
namespace Go.Proofs.YtoplocnkpljofaaDoor
open Go.RowKit

theorem IsBB.at {w : World} {A : Option Addr} {L c : Nat} {Xs : List (List UInt8)} (h : IsBB w (.slice A L c) Xs) : L = Xs.length ∧ ∀ i (hi : i < Xs.length), ∃ b o A' L' c', A = some ⟨b, o, none⟩ ∧ b < w.heap.size ∧ w.cell? ⟨b, o + i, none⟩ = some (.slice A' L' c') ∧ L' = (Xs[i]).length ∧ HasA w w.heap.size A' Xs[i] := by
  obtain ⟨A1, L1, c1, e, hL, hA⟩ := h
  cases e
  refine ⟨hL, fun i hi => ?_⟩
  obtain ⟨b, o, eA, lb, hr⟩ := hA (by rintro rfl; simp at hi)
  obtain ⟨u, hu, A', L', c', rfl, h2, h3⟩ := hr i hi
  exact ⟨b, o, A', L', c', eA, lb, hu, h2, h3⟩
theorem sameTo {Xs Ys : List (List UInt8)} (hl : Xs.length = Ys.length) {k : Nat} (hk : k < Xs.length) (h : ¬ Xs[k] = Ys[k]'(by omega)) : (Xs == Ys) = false := by
  simp only [beq_eq_false_iff_ne, ne_eq]
  intro e
  subst e
  exact h rfl
theorem sameAll {Xs Ys : List (List UInt8)} (hl : Xs.length = Ys.length) (h : ∀ k (h1 : k < Xs.length) (h2 : k < Ys.length), Xs[k] = Ys[k]) : (Xs == Ys) = true := by
  simp only [beq_iff_eq]
  exact List.ext_getElem hl h

set_option maxRecDepth 100000 in
set_option maxHeartbeats 4000000 in
theorem Same6 (v1 v2 : Value) (Xs Ys : List (List UInt8)) (w : World) (h1 : IsBB w v1 Xs) (h2 : IsBB w v2 Ys) (hx : Xs.length ≤ 1000000) :
    Calls Tryd.prog 15 #[v1, v2] w fun e W' => e = .returned (.bool (Xs == Ys)) ∧ Below w.heap.size w W' := by
  obtain ⟨A1, L1, c1, rfl, hL1, -⟩ := id h1
  obtain ⟨A2, L2, c2, rfl, hL2, -⟩ := id h2
  have HX := Lib.hid h1
  have HY := Lib.hid h2
  have HL := Lib.hid (And.intro hL1 hL2)
  have hx1 : L1 ≤ 1000000 := by omega
  clear h1 h2 hL1 hL2 hx
  by_cases hne : L1 = L2
  · subst hne
    have hlen : Xs.length = Ys.length := HL.out.1.symm.trans HL.out.2
    have HLL := Lib.hid hlen
    clear hlen
    go_enter Tryd.func15, Tryd.ntmps15
    go_wp2
    go_loopw [5] (fun i wr => ∃ k : Nat, k ≤ L1 ∧ i = .int .i64 (k : Int) ∧ Hid (Below w.heap.size w wr ∧ ∀ j (h1 : j < Xs.length) (h2 : j < Ys.length), j < k → Xs[j] = Ys[j])) (fun i _ => L1 - (intOf i).toNat)
    case atStart => exact ⟨0, Nat.zero_le _, rfl, Lib.hid ⟨Below.refl _ _, fun j _ _ h => by omega⟩⟩
    case round =>
      obtain ⟨k, hk, rfl, hb⟩ := hrel
      by_cases hlt : k < L1
      · have hki : (k : Int) < L1 := by omega
        obtain ⟨b1, o1, A1', M1, d1, e1, lb1, f1, m1, a1⟩ := HX.out.at.2 k (by rw [← HL.out.1]; exact hlt)
        obtain ⟨b2, o2, A2', M2, d2, e2, lb2, f2, m2, a2⟩ := HY.out.at.2 k (by rw [← HL.out.2]; exact hlt)
        subst e1
        subst e2
        have g1 := (hb.out.1.cell (p := ⟨b1, o1 + k, none⟩) lb1).trans f1
        have g2 := (hb.out.1.cell (p := ⟨b2, o2 + k, none⟩) lb2).trans f2
        have q1 := run_conv (P := Tryd.prog) (a1.below' (hb.out.1.drew)) d1 Tryd.underlying29 Tryd.underlying5 Tryd.underlying9 m1
        have q2 := run_conv (P := Tryd.prog) (a2.below' (hb.out.1.drew)) d2 Tryd.underlying29 Tryd.underlying5 Tryd.underlying9 m2
        obtain ⟨X, hX⟩ : ∃ X, X = Xs[k]'(by rw [← HL.out.1]; exact hlt) := ⟨_, rfl⟩
        obtain ⟨Y, hY⟩ : ∃ Y, Y = Ys[k]'(by rw [← HL.out.2]; exact hlt) := ⟨_, rfl⟩
        rw [← hX] at q1
        rw [← hY] at q2
        have q3 := run_neq wr.drew X Y
        have HXY := Lib.hid (And.intro hX hY)
        clear hX hY a1 a2 m1 m2 f1 f2
        by_cases hxy : X = Y
        · have hn : (X != Y) = false := by simp [hxy]
          rw [hn] at q3
          go_upto_region 6 with (fail)
          go_region
          have hk1 : ∀ j (h1 : j < Xs.length) (h2 : j < Ys.length), j < k + 1 → Xs[j] = Ys[j] := fun j h1 h2 hj => by
            rcases Nat.lt_or_ge j k with h | h
            · exact hb.out.2 j h1 h2 h
            · obtain rfl : j = k := by omega
              rw [← HXY.out.1, ← HXY.out.2]; exact hxy
          have HK := Lib.hid hk1
          clear hk1
          all_goals go_wp2
          all_goals exact ⟨⟨k + 1, by omega, by congr 1, Lib.hid ⟨hb.out.1.drew, HK.out⟩⟩, by simp only [intOf]; omega⟩
        · have hn : ((str X).toList == (str Y).toList) = false := by rw [str_toList, str_toList]; simp [hxy]
          clear q3
          have HR := Lib.hid (show (Xs == Ys) = false from sameTo HLL.out (by rw [← HL.out.1]; exact hlt) (by rw [← HXY.out.1, ← HXY.out.2]; exact hxy))
          go_upto_region 6 with (fail)
          go_region
          all_goals go_wp2
          all_goals go_ret
          all_goals exact ⟨by rw [HR.out]; rfl, hb.out.1.drew⟩
      · obtain rfl : k = L1 := by omega
        go_wp2
        go_ret
        refine ⟨by rw [sameAll HLL.out (fun j h1 h2 => hb.out.2 j h1 h2 (by rw [HL.out.1]; exact h1))]; rfl, hb.out.1⟩
  · have hni : ¬ (L1 : Int) = L2 := by omega
    have HR := Lib.hid (show (Xs == Ys) = false by
      simp only [beq_eq_false_iff_ne, ne_eq]
      intro e; subst e
      exact hne (HL.out.1.trans HL.out.2.symm))
    go_enter Tryd.func15, Tryd.ntmps15
    go_wp2
    go_ret
    exact ⟨by rw [HR.out]; rfl, Below.refl _ _⟩
end Go.Proofs.YtoplocnkpljofaaDoor

-- RcWakes
namespace Go.Proofs.YtoplocnkpljofaaDoor
open Go.RowKit

theorem BBn.mono {N M : Nat → Prop} {w : World} {v : Value} {Xs : List (List UInt8)} (h : BBn N w v Xs) (hm : ∀ k, k < w.heap.size → N k → M k) : BBn M w v Xs := by
  obtain ⟨A, L, c, e, hL, hc, hA⟩ := h
  refine ⟨A, L, c, e, hL, hc, fun hn => ?_⟩
  obtain ⟨b, o, eA, nb, lb, hr⟩ := hA hn
  refine ⟨b, o, eA, hm b lb nb, lb, fun i hi => ?_⟩
  obtain ⟨A', L', c', h1, h2, h3, h4⟩ := hr i hi
  refine ⟨A', L', c', h1, h2, h3, fun hn' => ?_⟩
  obtain ⟨b', o', e', nb', lb', hr'⟩ := h4 hn'
  exact ⟨b', o', e', hm b' lb' nb', lb', hr'⟩
/-- Rows that lie apart from a disk lie so behind a call on it. -/
theorem BBn.step {F F' : Nat → Prop} {w w' : World} {v : Value} {Xs : List (List UInt8)} (h : BBn (fun k => ¬ F k) w v Xs) (ho : Only F w w') (hF : ∀ k, F' k → F k ∨ w.heap.size ≤ k) : BBn (fun k => ¬ F' k) w' v Xs := by
  have h1 : BBn (fun k => ¬ F k ∧ k < w.heap.size) w v Xs := h.mono fun k hk hn => ⟨hn, hk⟩
  refine (h1.keep ho (fun k hk => hk.1)).mono fun k _ hk hf => ?_
  rcases hF k hf with h' | h'
  · exact hk.1 h'
  · exact absurd hk.2 (Nat.not_lt.2 h')

/-- A disk that came since w, and rows apart from it. -/
structure LiveM (P : DiskK) (w : World) (R : Nat) (s : DS) (v : Value) (Xs : List (List UInt8)) (W : World) : Prop where
  ex : ∃ F, P.Pl F W R s ∧ (∀ k, F k → w.heap.size ≤ k) ∧ BBn (fun k => ¬ F k) W v Xs
  below : Below w.heap.size w W
section
variable {P : DiskK} {w W W' : World} {R : Nat} {s : DS} {v : Value} {Xs : List (List UInt8)}
theorem LiveM.disk (h : LiveM P w R s v Xs W) : LiveD P w R s W := by
  obtain ⟨F, h1, h2, h3⟩ := h.ex
  exact ⟨⟨F, h1, h2⟩, h.below⟩
theorem LiveM.rows (h : LiveM P w R s v Xs W) : ∃ N, BBn N W v Xs := by
  obtain ⟨F, h1, h2, h3⟩ := h.ex
  exact ⟨_, h3⟩
theorem LiveM.turns {r : DS × Nat} {e : Ending} {F : Nat → Prop} (h : LiveM P w R s v Xs W) (h2 : ∀ k, F k → w.heap.size ≤ k) (h3 : BBn (fun k => ¬ F k) W v Xs) (ht : Turns P.Pl F R W r e W') : e = .returned (.int .i64 (r.2 : Int)) ∧ LiveM P w R r.1 v Xs W' := by
  obtain ⟨he, F', k1, k2, k3⟩ := ht
  exact ⟨he, ⟨F', k1, fun k hk => (k3 k hk).elim (h2 k) (fun h' => Nat.le_trans h.below.size h'), h3.step k2 k3⟩, h.below.trans (k2.below h.below.size h2)⟩
theorem LiveM.crash (h : LiveM P w R s v Xs W) (n : Int) (hn : InI5 n) : Calls Tryd.prog 19 #[.pointer (some ⟨R, 0, none⟩), .int .i64 n] W fun e W' => e = .returned (.int .i64 ((s.crash n).2 : Int)) ∧ LiveM P w R (s.crash n).1 v Xs W' := by
  obtain ⟨F, h1, h2, h3⟩ := h.ex
  exact (P.crash n h1 hn).mono fun _ _ ht => h.turns h2 h3 ht
theorem LiveM.turn (T : TurnK P) (h : LiveM P w R s v Xs W) (n : Int) (hn : InI5 n) : Calls Tryd.prog 21 #[.pointer (some ⟨R, 0, none⟩), .int .i64 n] W fun e W' => e = .returned (.int .i64 ((s.turn n).2 : Int)) ∧ LiveM P w R (s.turn n).1 v Xs W' := by
  obtain ⟨F, h1, h2, h3⟩ := h.ex
  exact (T _ _ _ _ n h1 hn).mono fun _ _ ht => h.turns h2 h3 ht
theorem LiveM.restart (h : LiveM P w R s v Xs W) : Calls Tryd.prog 20 #[.pointer (some ⟨R, 0, none⟩)] W fun e W' => e = .returned (.int .i64 (s.restart.2 : Int)) ∧ LiveM P w R s.restart.1 v Xs W' := by
  obtain ⟨F, h1, h2, h3⟩ := h.ex
  exact (P.restart h1).mono fun _ _ ht => h.turns h2 h3 ht
theorem LiveM.openBad (K : RecK P) (h : LiveM P w R s v Xs W) (hT : Tab w) (hd : s.dead = false) (ho : (opn s.A s.y).2.2 = 22) (hl : s.A.length ≤ 100000) : Calls Tryd.prog 12 #[.pointer (some ⟨R, 0, none⟩)] W fun e W' => ∃ u, e = .returned (.tuple #[.pointer none, u, .int .i64 22]) ∧ LiveM P w R s v Xs W' := by
  obtain ⟨F, h1, h2, h3⟩ := h.ex
  refine (K.openBad (hT.grew h.below) h1 hd ho hl).mono fun _ _ ⟨u, he, _, hb⟩ => ⟨u, he, ⟨F, P.keep h1 (Only.of_grew (F := fun _ => False) hb) (fun _ _ => id), h2, h3.grew hb⟩, h.below.trans (Below.mono hb h.below.size)⟩
end

theorem opn_nil : opn [] 0 = ([], 0, 0) := by
  rw [opn_ok] <;> simp [al_nil]
theorem frms_a : frms [[97]] = [1, 48, 67, 208, 193, 97] := by rw [frms_cons, frms_nil, List.append_nil, frm_a]
theorem al_51 : al [5, 1] = ([], 0, 10) := by
  have h : rdU [5, 1] = .ok 5 [1] := by decide
  exact al_err (by simp) (by rw [tk_of_ok h]; rfl)
theorem fit_l : ∀ x ∈ [[(97 : UInt8)]], Fit x := by
  intro x hx
  rw [List.mem_singleton.1 hx]
  exact fit_a
theorem opn_w1 : opn (frm [97] ++ [5, 1]) 6 = ([[97]], 6, 0) := by
  have h1 : (frm [97] ++ [5, 1]).take 6 = frms [[97]] := by rw [frm_a, frms_a]; rfl
  have h2 : (frm [97] ++ [5, 1]).drop 6 = [5, 1] := by rw [frm_a]; rfl
  have h3 := al_whole [[97]] fit_l
  rw [opn_ok (by rw [h1, h3]) (by rw [h1, h3, frms_a]; rfl), h1, h2, h3, al_51]
  rfl
theorem opn_w2 : opn [1, 48, 67, 208, 193, 99] 6 = ([], 6, 22) := by
  have h := opn_turn [[97]] fit_l 0 33 (by decide) (by decide)
  have e1 : (frms ([[97]] : List (List UInt8))).length = 6 := by rw [frms_a]; rfl
  have e2 : turn (frms [[97]]) (8 * ((frms ([[(97 : UInt8)]].take (0 + 1))).length - ([[(97 : UInt8)]][0]).length - 4) + 33) = [1, 48, 67, 208, 193, 99] := by
    have : ([[(97 : UInt8)]].take (0 + 1)) = [[97]] := rfl
    rw [this, e1, frms_a]
    decide
  rw [e2, e1] at h
  exact h

theorem w_recd : DS.new.recd [97] = (⟨frm [97], 0, false, none⟩, 0) := rfl
theorem w_sync : (⟨frm [97], 0, false, none⟩ : DS).sync = (⟨frm [97], 6, false, none⟩, 0) := by simp [DS.sync, frm_a]
theorem w_app : (⟨frm [97], 6, false, none⟩ : DS).app [5, 1] = (⟨frm [97] ++ [5, 1], 6, false, none⟩, 0) := rfl
theorem w_crash : (⟨frm [97] ++ [5, 1], 6, false, none⟩ : DS).crash (-1) = (⟨frm [97] ++ [5, 1], 6, true, none⟩, 0) := rfl
theorem w_opened : (⟨frm [97] ++ [5, 1], 6, false, none⟩ : DS).opened = ⟨frm [97], 6, false, none⟩ := by
  simp only [DS.opened, opn_w1]; rw [frm_a]; rfl
theorem w_crash0 : (⟨frm [97], 6, false, none⟩ : DS).crash 0 = (⟨frm [97], 6, true, none⟩, 0) := by simp [DS.crash, frm_a]
theorem w_turn : (⟨frm [97], 6, true, none⟩ : DS).turn 41 = (⟨[1, 48, 67, 208, 193, 99], 6, true, none⟩, 0) := by
  simp [DS.turn, frm_a]
  decide
theorem new_opened : DS.new.opened = DS.new := by simp [DS.opened, DS.new, opn_nil]
end Go.Proofs.YtoplocnkpljofaaDoor

-- RcWakes2
namespace Go.Proofs.YtoplocnkpljofaaDoor
open Go.RowKit

theorem hasA_const6 (w : World) (bs : List UInt8) (fr : Nat × Nat) : HasA (w.alloc (.cells (bs.map enc).toArray 5 fr)) (w.alloc (.cells (bs.map enc).toArray 5 fr)).heap.size (some ⟨w.heap.size, 0, none⟩) bs := fun _ =>
  ⟨w.heap.size, 0, rfl, by simp, fun i hi => by
    rw [World.cell?_alloc_mark]; simp [hi]⟩
/-- Append of bytes that were made since. -/
theorem LiveD.appNew6 {P : DiskK} {w W0 W : World} {R : Nat} {s : DS} (h : LiveD P w R s W0) (hb : Below W0.heap.size W0 W) (A : Option Addr) (L c : Nat) (x : List UInt8) (hL : L = x.length) (hLc : L ≤ c) (hl : s.A.length + x.length ≤ 1000000000) (hA : HasA W W.heap.size A x) (hnew : ∀ b o, A = some ⟨b, o, none⟩ → W0.heap.size ≤ b) :
    Calls Tryd.prog 23 #[.pointer (some ⟨R, 0, none⟩), .slice A L c] W (TurnsD P w R (s.app x)) := by
  obtain ⟨F, h1, h2⟩ := h.ex
  have h1' := P.keep h1 (Only.of_grew (F := fun _ => False) hb) (fun _ _ => id)
  exact (P.app A L c x h1' hL hLc hl hA (fun b o _ e hf => absurd (P.lt h1 b hf) (Nat.not_lt.2 (hnew b o e)))).mono fun _ _ ht => (h.grew hb).turns h2 ht

set_option maxRecDepth 100000 in
set_option maxHeartbeats 8000000 in
theorem wakes6 (P : DiskK) (T : TurnK P) (K : RecK P) (w : World) (hT : Tab w) : Calls Tryd.prog 7 #[] w fun e W' => e = .returned (.bool true) ∧ Below w.heap.size w W' := by
  have kc := fun (w : World) (C : Array Value) (n c : Nat) => Lib.run_convert_bytes_const (P := Tryd.prog) w 29 5 C n c Tryd.underlying29 Tryd.underlying5
  have HT := Lib.hid hT
  clear hT
  have KT := Lib.hid T
  clear T
  go_enter Tryd.func7, Tryd.ntmps7
  go_wp2_with fail
  refine (LiveD.new P w).mono ?_
  rintro e W1 ⟨R, rfl, hl1⟩
  have L1 := Lib.hid hl1
  clear hl1
  go_wp2_with fail
  refine (L1.out.opens K HT.out rfl (by show (opn [] 0).2.2 = 0; rw [opn_nil]) (by decide)).mono ?_
  rintro e W2 ⟨B, v, F', G, rfl, -, -, -, -, hv, hl2⟩
  rw [new_opened] at hl2
  rw [show DS.new.A = [] from rfl, show DS.new.y = 0 from rfl, opn_nil] at hv
  obtain ⟨A2, L2, c2, rfl, h0, -, -⟩ := hv
  obtain rfl : L2 = 0 := h0
  have L2 := Lib.hid hl2
  clear hl2 L1
  go_wp2_with fail
  refine ((L2.out.grew ((Below.refl _ _).alloc (Nat.le_refl _) (.cells #[.int .u8 97] 5 (1, 2)))).app _ 1 1 [97] HT.out rfl (Nat.le_refl _) (by omega) (by decide) (hasA_const6 W2 [97] _)).mono ?_
  rintro e W3 ⟨he, hl3⟩
  rw [w_recd] at he hl3
  obtain rfl : e = .returned (.int .i64 0) := he
  have L3 := Lib.hid hl3
  clear hl3 L2 kc
  go_wp2_with fail
  refine L3.out.sync.mono ?_
  rintro e W4 ⟨he, hl4⟩
  rw [w_sync] at he hl4
  obtain rfl : e = .returned (.int .i64 0) := he
  have L4 := Lib.hid hl4.disk
  clear hl4 L3
  go_wp2_with fail
  refine (L4.out.appNew6 (W := W4.alloc (.cells #[.int .u8 5, .int .u8 1] 5)) ((Below.refl _ _).alloc (Nat.le_refl _) _) _ 2 2 [5, 1] rfl (Nat.le_refl _) (by rw [frm_a]; decide) (hasA_new W4 [5, 1]) (fun b o e => by cases e; exact Nat.le_refl _)).mono ?_
  rintro e W5 ⟨he, hl5⟩
  rw [w_app] at he hl5
  obtain rfl : e = .returned (.int .i64 0) := he
  have L5 := Lib.hid hl5
  clear hl5 L4
  go_wp2_with fail
  refine (L5.out.crash (-1) ⟨by omega, by omega⟩).mono ?_
  rintro e W6 ⟨he, hl6⟩
  rw [w_crash] at he hl6
  obtain rfl : e = .returned (.int .i64 0) := he
  have L6 := Lib.hid hl6
  clear hl6 L5
  go_wp2_with fail
  refine (L6.out.openDead K HT.out rfl (by rw [frm_a]; decide)).mono ?_
  rintro e W7 ⟨v7, rfl, -, hl7, -⟩
  have L7 := Lib.hid hl7
  clear hl7 L6
  go_wp2_with fail
  refine L7.out.restart.mono ?_
  rintro e W8 ⟨he, hl8⟩
  obtain rfl : e = .returned (.int .i64 0) := he
  have hl8' : LiveD P w R ⟨frm [97] ++ [5, 1], 6, false, none⟩ W8 := hl8
  have L8 := Lib.hid hl8'
  clear hl8 hl8' L7
  go_wp2_with fail
  refine (L8.out.opens K HT.out rfl (by rw [opn_w1]) (by rw [frm_a]; decide)).mono ?_
  rintro e W9 ⟨B9, v9, F9, G9, rfl, hp9, -, -, hF9, hv9, hl9⟩
  rw [opn_w1] at hv9
  rw [w_opened] at hp9 hl9
  have hm9 : LiveM P w R ⟨frm [97], 6, false, none⟩ v9 [[97]] W9 := ⟨⟨F9, hp9, fun k hk => hF9 k (.inl hk), hv9.mono fun k _ h => h.1⟩, hl9.below⟩
  have L9 := Lib.hid hm9
  clear hp9 hF9 hv9 hl9 hm9 L8
  go_wp2_with fail
  refine (L9.out.crash 0 ⟨by omega, by omega⟩).mono ?_
  rintro e W10 ⟨he, hl10⟩
  rw [w_crash0] at he hl10
  obtain rfl : e = .returned (.int .i64 0) := he
  have L10 := Lib.hid hl10
  clear hl10 L9
  go_wp2_with fail
  refine (L10.out.turn KT.out 41 ⟨by omega, by omega⟩).mono ?_
  rintro e W11 ⟨he, hl11⟩
  rw [w_turn] at he hl11
  obtain rfl : e = .returned (.int .i64 0) := he
  have L11 := Lib.hid hl11
  clear hl11 L10
  go_wp2_with fail
  refine L11.out.restart.mono ?_
  rintro e W12 ⟨he, hl12⟩
  obtain rfl : e = .returned (.int .i64 0) := he
  have hl12' : LiveM P w R ⟨[1, 48, 67, 208, 193, 99], 6, false, none⟩ v9 [[97]] W12 := hl12
  have L12 := Lib.hid hl12'
  clear hl12 hl12' L11
  go_wp2_with fail
  refine (L12.out.openBad K HT.out rfl (by rw [opn_w2]) (by decide)).mono ?_
  rintro e W13 ⟨v13, rfl, hl13⟩
  obtain ⟨N, hr⟩ := hl13.rows
  obtain ⟨A9, L9', c9, rfl, hL9, -, -⟩ := id hr
  obtain rfl : L9' = 1 := hL9
  obtain ⟨b9, o9, A', L', c', rfl, hb9, hf9, hL', -, hA'⟩ := hr.row.2.2 0 (by decide)
  obtain rfl : L' = 1 := hL'
  rw [Nat.add_zero] at hf9
  have hconv := run_conv (P := Tryd.prog) hA' c' Tryd.underlying29 Tryd.underlying5 Tryd.underlying9 (n := 1) rfl
  have hs : str ([[(97 : UInt8)]][0]) = ⟨#[97]⟩ := rfl
  rw [hs] at hconv
  have L13 := Lib.hid hl13.disk
  clear hl13 L12 hr hA' hs hb9
  go_wp2_with fail
  refine L13.out.synced.mono ?_
  rintro e W14 ⟨he, hl14, -⟩
  obtain rfl : e = .returned (.int .i64 6) := he
  have B14 := Lib.hid hl14.below
  clear hl14 L13 hconv hf9
  go_wp2
  go_ret
  exact ⟨rfl, B14.out⟩
end Go.Proofs.YtoplocnkpljofaaDoor
