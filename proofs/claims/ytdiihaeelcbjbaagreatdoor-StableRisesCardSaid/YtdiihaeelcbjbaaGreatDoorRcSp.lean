/- What the walks of the laws on logs ask of the program's log; the document's own answer for a log. -/
import Derived.Test.YtdiihaeelcbjbaaGreatDoorDkSpec
import Derived.Test.YtdiihaeelcbjbaaGreatDoorMRefF
import Derived.Test.YtdiihaeelcbjbaaGreatDoorMCrc
import Derived.Test.YtdiihaeelcbjbaaGreatDoorMMath
import Derived.Test.YtdiihaeelcbjbaaGreatDoorMBase
import Derived.LoopTactic
import Derived.BigRegion
import Derived.RegionTactic
import Derived.Deep.DeepCutAuto
import Derived.Lib.SlBytesConst
namespace Go.Proofs.YtdiihaeelcbjbaaGreatDoor
open Go.RowKit

/-- Rows of bytes that lie in blocks of N alone. -/
def BBn (N : Nat → Prop) (w : World) (v : Value) (Xs : List (List UInt8)) : Prop :=
  ∃ A L c, v = .slice A L c ∧ L = Xs.length ∧ L ≤ c ∧ (Xs ≠ [] → ∃ b o, A = some ⟨b, o, none⟩ ∧ N b ∧ b < w.heap.size ∧ ∀ i (h : i < Xs.length), ∃ A' L' c', w.cell? ⟨b, o + i, none⟩ = some (.slice A' L' c') ∧ L' = (Xs[i]).length ∧ L' ≤ c' ∧
    (Xs[i] ≠ [] → ∃ b' o', A' = some ⟨b', o', none⟩ ∧ N b' ∧ b' < w.heap.size ∧ ∀ j (h' : j < (Xs[i]).length), w.cell? ⟨b', o' + j, none⟩ = some (enc (Xs[i])[j])))
theorem BBn.keep {N F : Nat → Prop} {w w' : World} {v : Value} {Xs : List (List UInt8)} (h : BBn N w v Xs) (ho : Only F w w') (hN : ∀ k, N k → ¬ F k) : BBn N w' v Xs := by
  obtain ⟨A, L, c, e, hL, hc, hA⟩ := h
  refine ⟨A, L, c, e, hL, hc, fun hn => ?_⟩
  obtain ⟨b, o, eA, nb, lb, hr⟩ := hA hn
  refine ⟨b, o, eA, nb, Nat.lt_of_lt_of_le lb ho.size, fun i hi => ?_⟩
  obtain ⟨A', L', c', h1, h2, h3, h4⟩ := hr i hi
  refine ⟨A', L', c', (World.cell?_of_block (ho.block b lb (hN b nb))).trans h1, h2, h3, fun hn' => ?_⟩
  obtain ⟨b', o', e', nb', lb', hr'⟩ := h4 hn'
  exact ⟨b', o', e', nb', Nat.lt_of_lt_of_le lb' ho.size, fun j hj => (World.cell?_of_block (ho.block b' lb' (hN b' nb'))).trans (hr' j hj)⟩
theorem BBn.grew {N : Nat → Prop} {w w' : World} {v : Value} {Xs : List (List UInt8)} (h : BBn N w v Xs) (hb : Below w.heap.size w w') : BBn N w' v Xs := h.keep (Only.of_grew (F := fun _ => False) hb) (fun _ _ => id)
theorem BBn.isBB {N : Nat → Prop} {w : World} {v : Value} {Xs : List (List UInt8)} (h : BBn N w v Xs) : IsBB w v Xs := by
  obtain ⟨A, L, c, e, hL, hc, hA⟩ := h
  refine ⟨A, L, c, e, hL, fun hn => ?_⟩
  obtain ⟨b, o, eA, nb, lb, hr⟩ := hA hn
  refine ⟨b, o, eA, lb, fun i hi => ?_⟩
  obtain ⟨A', L', c', h1, h2, h3, h4⟩ := hr i hi
  refine ⟨_, h1, A', L', c', rfl, h2, fun hn' => ?_⟩
  obtain ⟨b', o', e', nb', lb', hr'⟩ := h4 hn'
  exact ⟨b', o', e', lb', hr'⟩
theorem BBn.row {N : Nat → Prop} {w : World} {A : Option Addr} {L c : Nat} {Xs : List (List UInt8)} (h : BBn N w (.slice A L c) Xs) : L = Xs.length ∧ L ≤ c ∧ ∀ i (hi : i < Xs.length), ∃ b o A' L' c', A = some ⟨b, o, none⟩ ∧ b < w.heap.size ∧ w.cell? ⟨b, o + i, none⟩ = some (.slice A' L' c') ∧ L' = (Xs[i]).length ∧ L' ≤ c' ∧ HasA w w.heap.size A' Xs[i] := by
  obtain ⟨A1, L1, c1, e, hL, hc, hA⟩ := h
  cases e
  refine ⟨hL, hc, fun i hi => ?_⟩
  obtain ⟨b, o, eA, nb, lb, hr⟩ := hA (by rintro rfl; simp at hi)
  obtain ⟨A', L', c', h1, h2, h3, h4⟩ := hr i hi
  refine ⟨b, o, A', L', c', eA, lb, h1, h2, h3, fun hn' => ?_⟩
  obtain ⟨b', o', e', nb', lb', hr'⟩ := h4 hn'
  exact ⟨b', o', e', lb', hr'⟩

/-- The disk behind Open, where the log is whole. -/
def DS.opened (s : DS) : DS := { s with A := s.A.take (opn s.A s.y).2.1, y := (opn s.A s.y).2.1 }
/-- A record behind. -/
def DS.recd (s : DS) (x : List UInt8) : DS × Nat := if s.dead then (s, 20) else if 1 ≤ x.length ∧ x.length ≤ 65536 then s.app (frm x) else (s, 3)

/-- A log of the program on the disk R, at block B. -/
structure RecK (P : DiskK) where
  Lg : (Nat → Prop) → World → Nat → Nat → Prop
  keep : ∀ {G F : Nat → Prop} {w w' : World} {B R : Nat}, Lg G w B R → Only F w w' → (∀ k, G k → ¬ F k) → Lg G w' B R
  lt : ∀ {G : Nat → Prop} {w : World} {B R : Nat}, Lg G w B R → ∀ k, G k → k < w.heap.size
  openNil : ∀ w : World, Calls Tryz.prog 42 #[.pointer none] w fun e W' => ∃ v, e = .returned (.tuple #[.pointer none, v, .int .i64 2]) ∧ BBn (fun _ => True) W' v [] ∧ Below w.heap.size w W'
  appNil : ∀ (w : World) (v : Value), Calls Tryz.prog 79 #[.pointer none, v] w fun e W' => e = .returned (.int .i64 2) ∧ Below w.heap.size w W'
  syncNil : ∀ w : World, Calls Tryz.prog 46 #[.pointer none] w fun e W' => e = .returned (.int .i64 2) ∧ Below w.heap.size w W'
  openDead : ∀ {F : Nat → Prop} {w : World} {R : Nat} {s : DS}, Tab w → P.Pl F w R s → s.dead = true → s.A.length ≤ 100000 → Calls Tryz.prog 42 #[.pointer (some ⟨R, 0, none⟩)] w fun e W' => ∃ v, e = .returned (.tuple #[.pointer none, v, .int .i64 20]) ∧ BBn (fun _ => True) W' v [] ∧ Below w.heap.size w W'
  openBad : ∀ {F : Nat → Prop} {w : World} {R : Nat} {s : DS}, Tab w → P.Pl F w R s → s.dead = false → (opn s.A s.y).2.2 = 22 → s.A.length ≤ 100000 → Calls Tryz.prog 42 #[.pointer (some ⟨R, 0, none⟩)] w fun e W' => ∃ v, e = .returned (.tuple #[.pointer none, v, .int .i64 22]) ∧ BBn (fun _ => True) W' v [] ∧ Below w.heap.size w W'
  opens : ∀ {F : Nat → Prop} {w : World} {R : Nat} {s : DS}, Tab w → P.Pl F w R s → s.dead = false → (opn s.A s.y).2.2 = 0 → s.A.length ≤ 100000 → (∀ k, F k → 0 < k) → Calls Tryz.prog 42 #[.pointer (some ⟨R, 0, none⟩)] w fun e W' => ∃ B v F' G, e = .returned (.tuple #[.pointer (some ⟨B, 0, none⟩), v, .int .i64 0]) ∧
    P.Pl F' W' R s.opened ∧ Lg G W' B R ∧ BBn (fun k => w.heap.size ≤ k ∧ ¬ F' k ∧ ¬ G k) W' v (opn s.A s.y).1 ∧ Only F w W' ∧ (∀ k, F' k → F k ∨ w.heap.size ≤ k) ∧ ∀ k, G k → w.heap.size ≤ k ∧ ¬ F' k
  app : ∀ {F G : Nat → Prop} {w : World} {B R : Nat} {s : DS} (A : Option Addr) (L c : Nat) (x : List UInt8), Tab w → P.Pl F w R s → Lg G w B R → (∀ k, G k → ¬ F k) → L = x.length → L ≤ c → L ≤ 200000 → s.A.length + x.length ≤ 100000000 → HasA w w.heap.size A x → (∀ k, F k ∨ G k → 0 < k) →
    Calls Tryz.prog 79 #[.pointer (some ⟨B, 0, none⟩), .slice A L c] w fun e W' => e = .returned (.int .i64 ((s.recd x).2 : Int)) ∧ ∃ F' G', P.Pl F' W' R (s.recd x).1 ∧ Lg G' W' B R ∧ (∀ k, G' k → ¬ F' k) ∧ Only (fun k => F k ∨ G k) w W' ∧ ∀ k, F' k ∨ G' k → F k ∨ G k ∨ w.heap.size ≤ k
  sync : ∀ {F G : Nat → Prop} {w : World} {B R : Nat} {s : DS}, P.Pl F w R s → Lg G w B R → (∀ k, G k → ¬ F k) →
    Calls Tryz.prog 46 #[.pointer (some ⟨B, 0, none⟩)] w fun e W' => e = .returned (.int .i64 (s.sync.2 : Int)) ∧ ∃ F' G', P.Pl F' W' R s.sync.1 ∧ Lg G' W' B R ∧ (∀ k, G' k → ¬ F' k) ∧ Only (fun k => F k ∨ G k) w W' ∧ ∀ k, F' k ∨ G' k → F k ∨ G k ∨ w.heap.size ≤ k

/-- A disk and a log on it that came since w; nothing else changed. -/
structure LiveL {P : DiskK} (K : RecK P) (w : World) (R B : Nat) (s : DS) (W : World) : Prop where
  ex : ∃ F G, P.Pl F W R s ∧ K.Lg G W B R ∧ (∀ k, G k → ¬ F k) ∧ ∀ k, F k ∨ G k → w.heap.size ≤ k
  below : Below w.heap.size w W
section
variable {P : DiskK} {K : RecK P} {w W W' : World} {R B : Nat} {s : DS}
theorem LiveL.disk (h : LiveL K w R B s W) : LiveD P w R s W := by
  obtain ⟨F, G, h1, h2, h3, h4⟩ := h.ex
  exact ⟨⟨F, h1, fun k hk => h4 k (.inl hk)⟩, h.below⟩
theorem LiveL.grew (h : LiveL K w R B s W) (hb : Below W.heap.size W W') : LiveL K w R B s W' := by
  obtain ⟨F, G, h1, h2, h3, h4⟩ := h.ex
  have ho := Only.of_grew (F := fun _ => False) hb
  exact ⟨⟨F, G, P.keep h1 ho (fun _ _ => id), K.keep h2 ho (fun _ _ => id), h3, h4⟩, h.below.trans (Below.mono hb h.below.size)⟩
/-- A call on the disk alone leaves the log. -/
theorem LiveL.turns {r : DS × Nat} {e : Ending} {F G : Nat → Prop} (h : LiveL K w R B s W) (h2 : K.Lg G W B R) (h3 : ∀ k, G k → ¬ F k) (h4 : ∀ k, F k ∨ G k → w.heap.size ≤ k) (ht : Turns P.Pl F R W r e W') : e = .returned (.int .i64 (r.2 : Int)) ∧ LiveL K w R B r.1 W' := by
  obtain ⟨he, F', k1, k2, k3⟩ := ht
  refine ⟨he, ⟨⟨F', G, k1, K.keep h2 k2 h3, fun k hk hf => ?_, fun k hk => ?_⟩, h.below.trans (k2.below h.below.size (fun k hk => h4 k (.inl hk)))⟩⟩
  · rcases k3 k hf with h' | h'
    · exact h3 k hk h'
    · exact absurd (K.lt h2 k hk) (Nat.not_lt.2 h')
  · rcases hk with hk | hk
    · rcases k3 k hk with h' | h'
      · exact h4 k (.inl h')
      · exact Nat.le_trans h.below.size h'
    · exact h4 k (.inr hk)
theorem LiveL.of (h : Below w.heap.size w W) {F G F' G' : Nat → Prop} (h4 : ∀ k, F k ∨ G k → w.heap.size ≤ k) (k1 : P.Pl F' W' R s) (k2 : K.Lg G' W' B R) (k3 : ∀ k, G' k → ¬ F' k) (k4 : Only (fun k => F k ∨ G k) W W') (k5 : ∀ k, F' k ∨ G' k → F k ∨ G k ∨ W.heap.size ≤ k) : LiveL K w R B s W' := by
  refine ⟨⟨F', G', k1, k2, k3, fun k hk => ?_⟩, h.trans (k4.below h.size h4)⟩
  rcases k5 k hk with h' | h' | h'
  · exact h4 k (.inl h')
  · exact h4 k (.inr h')
  · exact Nat.le_trans h.size h'
theorem LiveL.sync (h : LiveL K w R B s W) : Calls Tryz.prog 46 #[.pointer (some ⟨B, 0, none⟩)] W fun e W' => e = .returned (.int .i64 (s.sync.2 : Int)) ∧ LiveL K w R B s.sync.1 W' := by
  obtain ⟨F, G, h1, h2, h3, h4⟩ := h.ex
  exact (K.sync h1 h2 h3).mono fun _ _ ⟨he, F', G', k1, k2, k3, k4, k5⟩ => ⟨he, LiveL.of h.below h4 k1 k2 k3 k4 k5⟩
theorem LiveL.app (A : Option Addr) (L c : Nat) (x : List UInt8) (h : LiveL K w R B s W) (hT : Tab w) (hL : L = x.length) (hLc : L ≤ c) (hm : L ≤ 200000) (hl : s.A.length + x.length ≤ 100000000) (hA : HasA W W.heap.size A x) : Calls Tryz.prog 79 #[.pointer (some ⟨B, 0, none⟩), .slice A L c] W fun e W' => e = .returned (.int .i64 ((s.recd x).2 : Int)) ∧ LiveL K w R B (s.recd x).1 W' := by
  obtain ⟨F, G, h1, h2, h3, h4⟩ := h.ex
  exact (K.app A L c x (hT.grew h.below) h1 h2 h3 hL hLc hm hl hA (fun k hk => Nat.lt_of_lt_of_le hT.1 (h4 k hk))).mono fun _ _ ⟨he, F', G', k1, k2, k3, k4, k5⟩ => ⟨he, LiveL.of h.below h4 k1 k2 k3 k4 k5⟩
theorem LiveD.openDead (K : RecK P) (h : LiveD P w R s W) (hT : Tab w) (hd : s.dead = true) (hl : s.A.length ≤ 100000) : Calls Tryz.prog 42 #[.pointer (some ⟨R, 0, none⟩)] W fun e W' => ∃ v, e = .returned (.tuple #[.pointer none, v, .int .i64 20]) ∧ BBn (fun _ => True) W' v [] ∧ LiveD P w R s W' ∧ Below W.heap.size W W' := by
  obtain ⟨F, h1, h2⟩ := h.ex
  exact (K.openDead (hT.grew h.below) h1 hd hl).mono fun _ _ ⟨v, he, hv, hb⟩ => ⟨v, he, hv, h.grew hb, hb⟩
theorem LiveD.openBad (K : RecK P) (h : LiveD P w R s W) (hT : Tab w) (hd : s.dead = false) (ho : (opn s.A s.y).2.2 = 22) (hl : s.A.length ≤ 100000) : Calls Tryz.prog 42 #[.pointer (some ⟨R, 0, none⟩)] W fun e W' => ∃ v, e = .returned (.tuple #[.pointer none, v, .int .i64 22]) ∧ BBn (fun _ => True) W' v [] ∧ LiveD P w R s W' ∧ Below W.heap.size W W' := by
  obtain ⟨F, h1, h2⟩ := h.ex
  exact (K.openBad (hT.grew h.below) h1 hd ho hl).mono fun _ _ ⟨v, he, hv, hb⟩ => ⟨v, he, hv, h.grew hb, hb⟩
/-- Open of a log that is whole: what it tells lies apart from disk and log; what lay apart from the disk lies as it lay. -/
theorem LiveD.opens (K : RecK P) (h : LiveD P w R s W) (hT : Tab w) (hd : s.dead = false) (ho : (opn s.A s.y).2.2 = 0) (hl : s.A.length ≤ 100000) : Calls Tryz.prog 42 #[.pointer (some ⟨R, 0, none⟩)] W fun e W' => ∃ B v F' G, e = .returned (.tuple #[.pointer (some ⟨B, 0, none⟩), v, .int .i64 0]) ∧
    P.Pl F' W' R s.opened ∧ K.Lg G W' B R ∧ (∀ k, G k → ¬ F' k) ∧ (∀ k, F' k ∨ G k → w.heap.size ≤ k) ∧ BBn (fun k => ¬ F' k ∧ ¬ G k) W' v (opn s.A s.y).1 ∧ LiveL K w R B s.opened W' := by
  obtain ⟨F, h1, h2⟩ := h.ex
  refine (K.opens (hT.grew h.below) h1 hd ho hl (fun k hk => Nat.lt_of_lt_of_le hT.1 (h2 k hk))).mono ?_
  rintro e W' ⟨B, v, F', G, he, k1, k2, k3, k4, k5, k6⟩
  have h7 : ∀ k, F' k ∨ G k → w.heap.size ≤ k := by
    rintro k (hk | hk)
    · rcases k5 k hk with h' | h'
      · exact h2 k h'
      · exact Nat.le_trans h.below.size h'
    · exact Nat.le_trans h.below.size (k6 k hk).1
  refine ⟨B, v, F', G, he, k1, k2, fun k hk => (k6 k hk).2, h7, ?_, ⟨F', G, k1, k2, fun k hk => (k6 k hk).2, h7⟩, h.below.trans (k4.below h.below.size h2)⟩
  obtain ⟨A, L, c, e, hL, hc, hA⟩ := k3
  refine ⟨A, L, c, e, hL, hc, fun hn => ?_⟩
  obtain ⟨b, o, eA, nb, lb, hr⟩ := hA hn
  refine ⟨b, o, eA, nb.2, lb, fun i hi => ?_⟩
  obtain ⟨A', L', c', h1, h2, h3, h4⟩ := hr i hi
  refine ⟨A', L', c', h1, h2, h3, fun hn' => ?_⟩
  obtain ⟨b', o', e', nb', lb', hr'⟩ := h4 hn'
  exact ⟨b', o', e', nb'.2, lb', hr'⟩
end
end Go.Proofs.YtdiihaeelcbjbaaGreatDoor
namespace Go.Proofs.YtdiihaeelcbjbaaGreatDoor
open Go.RowKit

theorem run_upto6 (w : World) (A : Option Addr) (L c N : Nat) (h : N ≤ c) (_hc : N ≤ 1000000000) : (Instr.sliceAt 39 (.slice A L c) none (some (.int .i64 (N : Int))) none).run Tryz.prog w = .ok (.slice A N c) w := by
  have h1 : (N : Int) ≤ c := by omega
  cases A <;> simp [go_sem, h1]
/-- A slice from n on lies n further, where it has bytes. -/
theorem run_from6 (_w : World) (A : Option Addr) (L c n : Nat) (h1 : n ≤ L) (h2 : L ≤ c) (_hc : L ≤ 1000000000) : ∃ A', (∀ w : World, (Instr.sliceAt 39 (.slice A L c) (some (.int .i64 (n : Int))) none none).run Tryz.prog w = .ok (.slice A' (L - n) (c - n)) w) ∧ ∀ b o, A = some ⟨b, o, none⟩ → n < L → A' = some ⟨b, o + n, none⟩ := by
  have e1 : (0 : Int) ≤ (n : Int) := by omega
  have e2 : (n : Int) ≤ (L : Int) := by omega
  have e3 : (L : Int) ≤ (c : Int) := by omega
  cases A with
  | none =>
    refine ⟨none, fun w => ?_, fun _ _ e => by cases e⟩
    simp [go_sem, e1, e2]
  | some a =>
    by_cases hcn : c = n
    · refine ⟨some a, fun w => ?_, fun b o e h => by omega⟩
      simp [go_sem, e1, e2, hcn]
    · refine ⟨some (a.add n), fun w => ?_, fun b o e _ => by cases e; exact congrArg some (addr_add b o n)⟩
      simp [go_sem, e1, e2, hcn]

theorem AllB.append {P : Value → List UInt8 → Prop} {vs us : List Value} {Xs Ys : List (List UInt8)} (h : AllB P vs Xs) (k : AllB P us Ys) : AllB P (vs ++ us) (Xs ++ Ys) := by
  refine ⟨by simp [h.1, k.1], fun i hi hi' => ?_⟩
  have e := h.1
  by_cases hl : i < vs.length
  · rw [List.getElem_append_left hl, List.getElem_append_left (by omega)]
    exact h.2 i hl (by omega)
  · rw [List.getElem_append_right (by omega), List.getElem_append_right (by omega)]
    have := k.2 (i - vs.length) (by simp at hi; omega) (by simp at hi'; omega)
    simpa [e] using this

/-- An append of a row of slices of bytes to one of the call's own. -/
theorem wpList_append_rows {w : World} {ops : Array Oper} {rest : List Oper} {o : Oper} {a : Act} {Q : Exit → Act → World → Prop} (hgd : o.guard = none) (s x : Operand)
    (ho : o.op = .call { callee := .builtin .append, args := #[s, x], argTypes := #[75, 75] }) (base : Nat) (v : Value) (n : Nat) (vs : List Value) (hs : a.eval s = v) (hown : w.ownsRow base 39 1 v n vs)
    (b2 : Nat) (v2 : Value) (m : Nat) (us : List Value) (hx : a.eval x = v2) (hown2 : w.ownsRow b2 39 1 v2 m us) (h1 : ∀ u ∈ us, u.oneCell' = true) (hl : n + m ≤ 1000000) (hbase : base ≤ w.heap.size)
    (h : ∀ v' w', w'.ownsRow base 39 1 v' (n + m) (vs ++ us) → w.grownBy w' v.ownBlock → wpList Tryz.prog ops Q rest (a.put o.dst v') w') : wpList Tryz.prog ops Q (o :: rest) a w := by
  obtain ⟨iB, hi, hz0, hz1, hz2⟩ := infoB_parts
  by_cases hm : m = 0
  · subst hm
    have hus : us = [] := List.eq_nil_of_length_eq_zero (by simpa using hown2.1)
    subst hus
    have hrun : (Builtin.append_ #[75, 75] o.type #[v, v2]).run Tryz.prog w = .ok v w := by
      obtain ⟨A2, c2, rfl⟩ := own_form hown2
      have hfc : (Builtin.firstCells 1 0 (.slice A2 0 c2)).run Tryz.prog w = .ok #[] w := by
        cases A2 <;> simp [Builtin.firstCells, loadCells, loadCellsFrom]
      rcases hown.2 with ⟨rfl, rfl⟩ | ⟨g, cap, cur, rfl, _, _, hnc, _⟩
      · simp [Builtin.append_, run_underlying Tryz.underlying75, sizeOf, typeInfo, hi, Builtin.lenOf, hz1, hfc]
      · simp [Builtin.append_, run_underlying Tryz.underlying75, sizeOf, typeInfo, hi, Builtin.lenOf, hz1, hfc, hnc, storeCells]
    refine wpList_plain hgd fun K hK => ?_
    unfold Oper.wp execOp
    simp only [ho, resolve, invoke, builtin, Sem.run_bind, Sem.run_pure, Result.andThen_ok, List.map_toArray, List.map_cons, List.map_nil, hs, hx, hrun]
    exact hK _ _ (h v w (by simpa using hown) ⟨rfl, rfl, rfl, Nat.le_refl _, fun _ _ _ => rfl⟩)
  · obtain ⟨g2, c2, rfl, _, _⟩ := hown2.form (by omega)
    obtain ⟨v', w', hrun, k1, k2, -⟩ := run_append_own (P := Tryz.prog) w base 75 o.type 39 iB (.slice none 0 0) 1 24 Tryz.underlying75 hi hz0 hz1 hz2 rfl (by decide) v n vs hown ⟨g2, 0, none⟩ m c2 us (by simpa using hown2.1) (fun j u hj => hown2.cells (g := g2) rfl j u hj) h1 (by simp only [maxLen]; omega) (by omega) hbase
    refine wpList_plain hgd fun K hK => ?_
    unfold Oper.wp execOp
    simp only [ho, resolve, invoke, builtin, Sem.run_bind, Sem.run_pure, Result.andThen_ok, List.map_toArray, List.map_cons, List.map_nil, hs, hx, hrun]
    exact hK _ _ (h v' w' k1 k2)

set_option maxRecDepth 100000 in
set_option maxHeartbeats 4000000 in
theorem ref_Open6 (A : Option Addr) (L c n : Nat) (bs : List UInt8) (hn : n ≤ L) (hL : L = bs.length) (hlen : L ≤ 100000) (hcap : L ≤ c) (w : World) (hA : HasA w w.heap.size A bs) :
    Calls Tryz.prog 31 #[.slice A L c, .int .i64 (n : Int)] w fun e W' => ∃ v, e = .returned (.tuple #[v, .int .i64 ((opn bs n).2.1 : Int), .int .i64 ((opn bs n).2.2 : Int)]) ∧ IsBB W' v (opn bs n).1 ∧ Below w.heap.size w W' := by
  have hup := fun w' => run_upto6 w' A L c n (by omega) (by omega)
  obtain ⟨A', hfr, hA'⟩ := run_from6 w A L c n hn hcap (by omega)
  have hA2 : HasA w w.heap.size A' (bs.drop n) := fun hne => by
    have hnL : n < L := by
      rcases Nat.lt_or_ge n L with h | h
      · exact h
      · exact absurd (List.drop_of_length_le (by omega)) hne
    obtain ⟨b, o, e, hb, hc⟩ := hA (by rintro rfl; simp at hne)
    rw [hA' b o e hnL]
    exact (hA.cut b o n e) hne
  have HL := Lib.hid hL
  have HA := Lib.hid hA
  have HA2 := Lib.hid hA2
  have HLN := Lib.hid (show n ≤ L ∧ L ≤ 100000 ∧ L ≤ c from ⟨hn, hlen, hcap⟩)
  clear hL hA hA2 hA' hn
  go_enter Tryz.func31, Tryz.ntmps31
  go_wp2_with fail
  refine (ref_FAllO A n c (bs.take n) (by rw [List.length_take, ← HL.out]; have := HLN.out; omega) (by have := HLN.out; omega) (by have := HLN.out; omega) w w.heap.size (Nat.le_refl _) (HA.out.take n)).mono ?_
  rintro e W1 ⟨v1, vs1, rfl, ho1, ha1, hb1⟩
  obtain ⟨e1, he1⟩ : ∃ x, x = (al (bs.take n)).2.2 := ⟨_, rfl⟩
  obtain ⟨t1, ht1⟩ : ∃ x, x = (al (bs.take n)).2.1 := ⟨_, rfl⟩
  rw [← he1, ← ht1]
  have hcnt1 := al_count (bs.take n)
  have O1 := Lib.hid (And.intro ho1 ha1)
  have B1 := Lib.hid hb1
  have E1 := Lib.hid (And.intro he1 ht1)
  obtain ⟨A1, c1, rfl⟩ := own_form ho1
  clear ho1 ha1 hb1 he1 ht1
  by_cases hz : e1 = 0
  · subst hz
    by_cases ht : t1 = n
    · have hti : (t1 : Int) = (n : Int) := by omega
      subst ht
      have hti2 : ((t1 : Int) != (t1 : Int)) = false := by simp
      go_wp2_with fail
      refine (ref_FAllO A' (L - t1) (c - t1) (bs.drop t1) (by rw [List.length_drop, ← HL.out]) (by have := HLN.out; omega) (by have := HLN.out; omega) W1 w.heap.size B1.out.size (HA2.out.below B1.out)).mono ?_
      rintro e W2 ⟨v2, vs2, rfl, ho2, ha2, hb2⟩
      obtain ⟨e2, he2⟩ : ∃ x, x = (al (bs.drop t1)).2.2 := ⟨_, rfl⟩
      obtain ⟨t2, ht2⟩ : ∃ x, x = (al (bs.drop t1)).2.1 := ⟨_, rfl⟩
      rw [← he2, ← ht2]
      have hcnt2 := al_count (bs.drop t1)
      have hle2 := al_le (bs.drop t1)
      rw [← ht2, List.length_drop, ← HL.out] at hle2
      rw [List.length_drop, ← HL.out] at hcnt2
      rw [List.length_take, ← HL.out] at hcnt1
      have ho1 := own_below O1.out.1 hb2
      have ha1 := O1.out.2.mono fun v X h => h.below (Below.mono hb2 B1.out.size)
      have B2 := Lib.hid (B1.out.trans (Below.mono hb2 B1.out.size))
      obtain ⟨A2, c2, rfl⟩ := own_form ho2
      have hone : ∀ u ∈ vs2, u.oneCell' = true := by
        intro u hu
        obtain ⟨i, hi, rfl⟩ := List.getElem_of_mem hu
        exact (ha2.2 i hi (by rw [← ha2.1]; exact hi)).slice
      have HS1 := Lib.hid (B1.out.size)
      obtain ⟨k1, hk1⟩ : ∃ x, x = (al (bs.take t1)).1.length := ⟨_, rfl⟩
      obtain ⟨k2, hk2⟩ : ∃ x, x = (al (bs.drop t1)).1.length := ⟨_, rfl⟩
      rw [← hk1] at ho1 hcnt1 ⊢
      rw [← hk2] at ho2 hcnt2 ⊢
      have hkk : k1 + k2 ≤ 1000000 := by have := HLN.out; omega
      have htt : (t1 : Int) + t2 ≤ 100000 := by have := HLN.out; omega
      have O2 := Lib.hid (And.intro ho1 (And.intro ha1 (And.intro ho2 (And.intro ha2 hone))))
      have E2 := Lib.hid (And.intro he2 ht2)
      clear ho1 ha1 ho2 ha2 hone he2 ht2 hb2 hk1 hk2 hcnt1 hcnt2 hle2
      go_wp2_with (at_builtin; refine wpList_append_rows rfl (.tmp 38) (.tmp 39) rfl w.heap.size _ k1 vs1 rfl O2.out.1 _ _ k2 vs2 rfl O2.out.2.2.1 O2.out.2.2.2.2 hkk B2.out.size ?_; intro v3 W3 hown3 hg3)
      go_ret3
      have hB3 : Below w.heap.size w W3 := B2.out.grown hg3 B2.out.size (fun k e => (O2.out.1.lt k e).1)
      have hB13 : Below w.heap.size W2 W3 := (Below.refl w.heap.size W2).grown hg3 B2.out.size (fun k e => (O2.out.1.lt k e).1)
      have hR : opn bs t1 = ((al (bs.take t1)).1 ++ (al (bs.drop t1)).1, t1 + t2, 0) := by rw [opn_ok E1.out.1.symm E1.out.2.symm, E2.out.2]
      rw [hR]
      refine ⟨v3, by simp, IsBB.own hown3 ?_, hB3⟩
      refine AllB.append (O2.out.2.1.mono fun v X h => (h.below hB13).isB hB3.size) (O2.out.2.2.2.1.mono fun v X h => (h.below hB13).isB hB3.size)
    · have hti : ((t1 : Int) != (n : Int)) = true := by simp; omega
      have HR := Lib.hid (show opn bs n = ([], bs.length, 22) from opn_bad (fun h => ht (E1.out.2.trans h.2)))
      go_wp2
      go_ret3
      rw [HR.out]
      exact ⟨.slice none 0 0, by simp [HL.out], ⟨none, 0, 0, rfl, rfl, fun h => absurd rfl h⟩, B1.out⟩
  · have hzi : ((e1 : Int) != 0) = true := by simp; omega
    have HR := Lib.hid (show opn bs n = ([], bs.length, 22) from opn_bad (fun h => hz (E1.out.1.trans h.1)))
    go_wp2
    go_ret3
    rw [HR.out]
    exact ⟨.slice none 0 0, by simp [HL.out], ⟨none, 0, 0, rfl, rfl, fun h => absurd rfl h⟩, B1.out⟩
end Go.Proofs.YtdiihaeelcbjbaaGreatDoor
